/- Layer 8, the program: contracts of Set, Fresh, and a law of ranging over a map of states. Condition: the table of parts reads as listed; the function is one of a program that may be. -/
import Derived.Test.YtehboglielnjbaaGreatDoorPlKI
set_option linter.unusedSimpArgs false
set_option linter.unusedVariables false
namespace Go.Proofs.YtehboglielnjbaaGreatDoor
open Go.RowKit Go.Maps

/-- What holds at the beginning of a block, whichever number it has. -/
def KAtZ (f : FunV) (z : Int) (s : KSt) : Prop := (∃ b : Nat, z = b ∧ KAt f b s) ∨ (z < 0 ∧ s = ([], []))
theorem KAtZ.one {f : FunV} {z : Int} {s t : KSt} (h : KAtZ f z s) (h' : KAtZ f z t) : s = t := by
  rcases h with ⟨b, rfl, h⟩ | ⟨h1, h2⟩ <;> rcases h' with ⟨c, e, h'⟩ | ⟨h1', h2'⟩
  · obtain rfl : b = c := by omega
    exact h.one h'
  · omega
  · omega
  · rw [h2, h2']
theorem KAtZ.good {f : FunV} {z : Int} {s : KSt} (h : KAtZ f z s) : GoodK f s := by
  rcases h with ⟨b, rfl, h⟩ | ⟨h1, h2⟩
  · exact h.good
  · rw [h2]; exact GoodK.nil f
theorem BI.atZ {f : FunV} {L : Nat → Option KSt} (hk : KOk f) (h : BI f L []) (z : Int) : KAtZ f z ((LZ L z).getD ([], [])) := by
  by_cases h0 : 0 ≤ z
  · obtain ⟨b, rfl⟩ : ∃ b : Nat, z = b := ⟨z.toNat, by omega⟩
    rw [LZ_nat]
    exact .inl ⟨b, rfl, h.at hk b⟩
  · unfold LZ
    rw [if_neg h0]
    exact .inr ⟨by omega, rfl⟩
def SetE (w : World) (f : FunV) (z : Int) (k : Bool) (e : Ending) (w' : World) : Prop := ∃ v s, e = .returned v ∧ SetV w' v (if k = true then s.2 else s.1) ∧ KAtZ f z s ∧ Below w.heap.size w w'
theorem SetV.nil (w : World) : SetV w (.slice none 0 0) [] := ⟨none, 0, rfl, Nat.le_refl _, by omega, Sl.nil _ _ _ _⟩
set_option maxHeartbeats 2000000 in
set_option maxRecDepth 100000 in
theorem kset_any (vk vb vs : Value) (f : FunV) (hk : KOk f) (z : Int) (hz : i64R z) (w : World) (B : Nat) (hB : B ≤ w.heap.size) (hi : FunI w (· < B) vk vb vs f) (hT : TabP w) :
    Calls Tryz.prog 8 #[.agg #[vk, vb, .int .i64 f.params, .int .i64 f.result, vs], .int .i64 z] w (SetE w f z false) := by
  have HBG := hide (fun (W : World) (hW : Below w.heap.size w W) => kbegins_any vk vb vs f hk W B (by have := hW.size; omega) (hi.keep (up hW hB) (fun _ h => h)) (hT.below hW hT.1))
  have HAT := hide (fun L hbi => BI.atZ (f := f) (L := L) hk hbi z)
  have HZ := hide hz
  obtain ⟨Ak, ck, rfl, hck, hmk⟩ := hi.1.open'
  obtain ⟨Ab, cb, rfl, hcb, hmb⟩ := hi.2.1.open'
  obtain ⟨As, cs, rfl, hcs, hms⟩ := hi.2.2.1.open'
  clear hi hk hT hz
  generalize f.kinds.length = lk, f.base.length = lb, f.blocks.length = ls, f.params = fp, f.result = fr at *
  go_enter Tryz.func8, Tryz.ntmps8
  go_upto_region 1 with (fail)
  obtain ⟨w1, hw1⟩ : ∃ w1, w1 = w.alloc (.cells #[.slice Ak lk ck, .slice Ab lb cb, .int .i64 fp, .int .i64 fr, .slice As ls cs] 32) := ⟨_, rfl⟩
  obtain ⟨h5, hh5⟩ : ∃ h5, w.heap.size = h5 := ⟨_, rfl⟩
  have HX0 := hide (show Box w1 (h5) #[.slice Ak lk ck, .slice Ab lb cb, .int .i64 fp, .int .i64 fr, .slice As ls cs] 32 by rw [hw1, ← hh5]; have t := Box.new w #[.slice Ak lk ck, .slice Ab lb cb, .int .i64 fp, .int .i64 fr, .slice As ls cs] 32; (try simp only [World.size_alloc] at t); exact t)
  have HB1 := hide (show Below w.heap.size w w1 by rw [hw1]; exact ((Below.refl _ _).alloc (Nat.le_refl _) _))
  have w1s := HB1.out.size
  have w1z := hide (show w1.heap.size = h5 + 1 by rw [hw1, ← hh5]; simp only [World.size_alloc])
  have HK0 := hide (fun (W : World) (hW : Below w1.heap.size w1 W) => (And.intro ((HX0.out.below hW).cell 0 (v := .slice Ak lk ck) rfl).1 (And.intro ((HX0.out.below hW).cell 1 (v := .slice Ab lb cb) rfl).1 (And.intro ((HX0.out.below hW).cell 2 (v := .int .i64 fp) rfl).1 (And.intro ((HX0.out.below hW).cell 3 (v := .int .i64 fr) rfl).1 ((HX0.out.below hW).cell 4 (v := .slice As ls cs) rfl).1)))))
  have lHX0 := HX0.out.lt
  have h5g : w.heap.size ≤ h5 := by omega
  rw [← hw1, hh5]
  clear hw1 hh5
  obtain ⟨c0, c1, c2, c3, c4⟩ := HK0.out w1 (Below.refl _ _)
  go_wp2_with (go_at_call 30; (with_reducible refine (HBG.out w1 HB1.out).mono ?_); rintro e w2 ⟨bm, L, rfl, hm, hbi, -, -, hb2⟩; have HB2 := hide (HB1.out.trans (hb2.mono HB1.out.size)); have HA := hide (HAT.out L hbi); obtain ⟨v, es, clock, hheap, -, hlf, hcase⟩ := hm.lookH z HZ.out; have hrun := hlf w2 hheap; clear hlf hbi hb2 hm; (rcases hcase with ⟨hl, rfl⟩ | ⟨s, v1, v2, hl, rfl, g1, g2⟩) <;> (rw [hl] at HA; clear hl) <;> (first | (have HG1 := hide g1.v; have HG2 := hide g2.v; obtain ⟨X1, y1, hq1, -, -, -, -⟩ := g1; obtain ⟨X2, y2, hq2, -, -, -, -⟩ := g2; subst hq1; subst hq2; have fd : ∀ w, (Instr.field 52 (.agg #[.slice X1 s.1.length y1, .slice X2 s.2.length y2]) 0).run Tryz.prog w = .ok (.slice X1 s.1.length y1) w := fun _ => by kernel_rfl) | (have fd : ∀ w, (Instr.field 52 (.agg #[.slice none 0 0, .slice none 0 0]) 0).run Tryz.prog w = .ok (.slice none 0 0) w := fun _ => by kernel_rfl)))
  all_goals
    go_ret
    first
      | exact ⟨_, _, rfl, HG1.out, HA.out, HB2.out⟩
      | exact ⟨_, _, rfl, SetV.nil _, HA.out, HB2.out⟩
set_option maxHeartbeats 2000000 in
set_option maxRecDepth 100000 in
theorem kfresh_any (vk vb vs : Value) (f : FunV) (hk : KOk f) (z : Int) (hz : i64R z) (w : World) (B : Nat) (hB : B ≤ w.heap.size) (hi : FunI w (· < B) vk vb vs f) (hT : TabP w) :
    Calls Tryz.prog 9 #[.agg #[vk, vb, .int .i64 f.params, .int .i64 f.result, vs], .int .i64 z] w (SetE w f z true) := by
  have HBG := hide (fun (W : World) (hW : Below w.heap.size w W) => kbegins_any vk vb vs f hk W B (by have := hW.size; omega) (hi.keep (up hW hB) (fun _ h => h)) (hT.below hW hT.1))
  have HAT := hide (fun L hbi => BI.atZ (f := f) (L := L) hk hbi z)
  have HZ := hide hz
  obtain ⟨Ak, ck, rfl, hck, hmk⟩ := hi.1.open'
  obtain ⟨Ab, cb, rfl, hcb, hmb⟩ := hi.2.1.open'
  obtain ⟨As, cs, rfl, hcs, hms⟩ := hi.2.2.1.open'
  clear hi hk hT hz
  generalize f.kinds.length = lk, f.base.length = lb, f.blocks.length = ls, f.params = fp, f.result = fr at *
  go_enter Tryz.func9, Tryz.ntmps9
  go_upto_region 1 with (fail)
  obtain ⟨w1, hw1⟩ : ∃ w1, w1 = w.alloc (.cells #[.slice Ak lk ck, .slice Ab lb cb, .int .i64 fp, .int .i64 fr, .slice As ls cs] 32) := ⟨_, rfl⟩
  obtain ⟨h5, hh5⟩ : ∃ h5, w.heap.size = h5 := ⟨_, rfl⟩
  have HX0 := hide (show Box w1 (h5) #[.slice Ak lk ck, .slice Ab lb cb, .int .i64 fp, .int .i64 fr, .slice As ls cs] 32 by rw [hw1, ← hh5]; have t := Box.new w #[.slice Ak lk ck, .slice Ab lb cb, .int .i64 fp, .int .i64 fr, .slice As ls cs] 32; (try simp only [World.size_alloc] at t); exact t)
  have HB1 := hide (show Below w.heap.size w w1 by rw [hw1]; exact ((Below.refl _ _).alloc (Nat.le_refl _) _))
  have w1s := HB1.out.size
  have w1z := hide (show w1.heap.size = h5 + 1 by rw [hw1, ← hh5]; simp only [World.size_alloc])
  have HK0 := hide (fun (W : World) (hW : Below w1.heap.size w1 W) => (And.intro ((HX0.out.below hW).cell 0 (v := .slice Ak lk ck) rfl).1 (And.intro ((HX0.out.below hW).cell 1 (v := .slice Ab lb cb) rfl).1 (And.intro ((HX0.out.below hW).cell 2 (v := .int .i64 fp) rfl).1 (And.intro ((HX0.out.below hW).cell 3 (v := .int .i64 fr) rfl).1 ((HX0.out.below hW).cell 4 (v := .slice As ls cs) rfl).1)))))
  have lHX0 := HX0.out.lt
  have h5g : w.heap.size ≤ h5 := by omega
  rw [← hw1, hh5]
  clear hw1 hh5
  obtain ⟨c0, c1, c2, c3, c4⟩ := HK0.out w1 (Below.refl _ _)
  go_wp2_with (go_at_call 30; (with_reducible refine (HBG.out w1 HB1.out).mono ?_); rintro e w2 ⟨bm, L, rfl, hm, hbi, -, -, hb2⟩; have HB2 := hide (HB1.out.trans (hb2.mono HB1.out.size)); have HA := hide (HAT.out L hbi); obtain ⟨v, es, clock, hheap, -, hlf, hcase⟩ := hm.lookH z HZ.out; have hrun := hlf w2 hheap; clear hlf hbi hb2 hm; (rcases hcase with ⟨hl, rfl⟩ | ⟨s, v1, v2, hl, rfl, g1, g2⟩) <;> (rw [hl] at HA; clear hl) <;> (first | (have HG1 := hide g1.v; have HG2 := hide g2.v; obtain ⟨X1, y1, hq1, -, -, -, -⟩ := g1; obtain ⟨X2, y2, hq2, -, -, -, -⟩ := g2; subst hq1; subst hq2; have fd : ∀ w, (Instr.field 52 (.agg #[.slice X1 s.1.length y1, .slice X2 s.2.length y2]) 1).run Tryz.prog w = .ok (.slice X2 s.2.length y2) w := fun _ => by kernel_rfl) | (have fd : ∀ w, (Instr.field 52 (.agg #[.slice none 0 0, .slice none 0 0]) 1).run Tryz.prog w = .ok (.slice none 0 0) w := fun _ => by kernel_rfl)))
  all_goals
    go_ret
    first
      | exact ⟨_, _, rfl, HG2.out, HA.out, HB2.out⟩
      | exact ⟨_, _, rfl, SetV.nil _, HA.out, HB2.out⟩

/-- The step of a range over a map of states: whichever entry comes. -/
theorem wpList_next_map {w : World} {ops : Array Oper} {rest : List Oper} {o : Oper} {a : Act} {Q : Exit → Act → World → Prop} (hg : o.guard = none) (it : Operand) (hop : o.op = Op.next it false) {b r n : Nat} {D : DataW Value} {f : FunV} {L : Nat → Option KSt} {M : Nat → Prop} {w0 : World} (left : Lit → Bool) (cnt : Nat)
    (hh : ∀ kl, Maps.has D kl = true → ∃ k : Nat, k < f.blocks.length ∧ kl = litN k) (hL : ∀ k : Nat, k < f.blocks.length → Maps.has D (litN k) = (L k).isSome) (hv : ∀ k s, L k = some s → ∃ v1 v2, (∀ zd, D.atKey (litN k) zd = .held (.agg #[v1, v2])) ∧ SetM w0 M v1 s.1 ∧ SetM w0 M v2 s.2)
    (hit : a.eval it = .pointer (some ⟨r, 0, none⟩)) (h : w.ranges Tryz.prog 3 RH b r n D left cnt)
    (hDone : (∀ kl, left kl = false) → wpList Tryz.prog ops Q rest (a.put o.dst (.tuple #[.bool false])) w)
    (hMore : ∀ (c : Nat) (s : KSt) (A1 A2 : Option Addr) (d1 d2 : Nat) (w' : World) (cnt' : Nat), c < f.blocks.length → L c = some s → SetM w0 M (.slice A1 s.1.length d1) s.1 → SetM w0 M (.slice A2 s.2.length d2) s.2 → w'.ranges Tryz.prog 3 RH b r n D (fun z => left z && !z.sameKey (litN c)) cnt' → cnt' < cnt → w.grownBy w' (some r) → w'.heap.size = w.heap.size →
      (Instr.entry (.pointer (some ⟨r, 0, none⟩))).run Tryz.prog w' = .ok (.tuple #[.int .i64 (c : Int), .agg #[.slice A1 s.1.length d1, .slice A2 s.2.length d2]]) w' → wpList Tryz.prog ops Q rest (a.put o.dst (.tuple #[.bool true, .int .i64 (c : Int), .agg #[.slice A1 s.1.length d1, .slice A2 s.2.length d2]])) w') :
    wpList Tryz.prog ops Q (o :: rest) a w := by
  refine wpList_next_ranges (α := Int) (β := Value) w hg it hop 3 keyed_int RH (Value.int .i64) (fun v => v) (fun key kl hkey => ?_) (fun v y hv => ⟨v, rfl⟩) b r n D left cnt hit h (fun _ h => hDone h) (fun x v kl y w' cnt' hkey hlk hv' hat hrg hlt hgr hsz hen => ?_)
  · obtain ⟨x, rfl, -⟩ := keyOf_int_inv (q := .i64) (by kernel_rfl) hkey
    exact ⟨x, rfl⟩
  · have hy : y.1 = .held v := by
      have e := Option.some.inj hv'
      exact (congrArg Prod.fst e).symm
    have hhas := has_true_of_atKey hat
    obtain ⟨c, hc, rfl⟩ := hh kl hhas
    have hx : x = (c : Int) := by
      obtain ⟨x', e, e2, -⟩ := keyOf_int_inv (q := .i64) (by kernel_rfl) hkey
      cases e
      have e3 : Lit.int .i64 (c : Int) = Lit.int .i64 x := e2
      exact (Lit.int.inj e3).2.symm
    subst hx
    have hsome := (hL c hc).symm.trans hhas
    obtain ⟨s, hs⟩ := Option.isSome_iff_exists.1 hsome
    obtain ⟨v1, v2, e, g1, g2⟩ := hv c s hs
    have e2 := (hat (.held v)).symm.trans (e (.held v))
    rw [hy] at e2
    injection e2 with e2
    subst e2
    have G1 := g1
    have G2 := g2
    obtain ⟨A1, d1, rfl, -, -, -, -⟩ := g1
    obtain ⟨A2, d2, rfl, -, -, -, -⟩ := g2
    exact hMore c s A1 A2 d1 d2 w' cnt' hc hs G1 G2 hrg hlt hgr hsz hen
end Go.Proofs.YtehboglielnjbaaGreatDoor
