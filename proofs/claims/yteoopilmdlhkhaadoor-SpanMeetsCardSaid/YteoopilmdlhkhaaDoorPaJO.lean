/- Layer 11, the program: size, there, Ahead, Behind, In, Out, Is. Condition: the table of parts reads as listed. -/
import Derived.Test.YteoopilmdlhkhaaDoorPaJN
set_option linter.unusedSimpArgs false
set_option linter.unusedVariables false
namespace Go.Proofs.YteoopilmdlhkhaaDoor
open Go.RowKit

/-- How many instructions block z has. -/
def sizeN (f : FunV) (z : Int) : Int := if 0 ≤ z ∧ z < (f.blocks.length : Int) then ((codeOf f z.toNat).length : Int) else 0
def hereB (f : FunV) (b i : Int) : Bool := decide (0 ≤ i) && decide (i < sizeN f b)
theorem sizeN_nat {f : FunV} {b : Nat} {l : List InsV} (h : f.blocks[b]? = some l) : sizeN f (b : Int) = (l.length : Int) := by
  have := (List.getElem?_eq_some_iff.1 h).1
  unfold sizeN codeOf
  rw [if_pos (by omega), Int.toNat_natCast, h]
  rfl
theorem sizeN_out {f : FunV} {z : Int} (h : z < 0 ∨ (f.blocks.length : Int) ≤ z) : sizeN f z = 0 := by
  unfold sizeN
  rw [if_neg (by omega)]
theorem hereB_in {f : FunV} {b i : Int} (h : hereB f b i = true) : ∃ (bn k : Nat) (l : List InsV), b = (bn : Int) ∧ i = (k : Int) ∧ f.blocks[bn]? = some l ∧ k < l.length := by
  unfold hereB at h
  simp only [Bool.and_eq_true, decide_eq_true_eq] at h
  obtain ⟨h1, h2⟩ := h
  unfold sizeN at h2
  split at h2
  · rename_i h3
    obtain ⟨l, hl⟩ : ∃ l, f.blocks[b.toNat]? = some l := ⟨_, List.getElem?_eq_getElem (by omega)⟩
    refine ⟨b.toNat, i.toNat, l, by omega, by omega, hl, ?_⟩
    unfold codeOf at h2
    rw [hl] at h2
    simp at h2
    omega
  · omega
/-- What is live ahead of (k = 0), or behind (k = 1), an instruction. -/
def LvQ (f : FunV) (k : Nat) (b i : Int) (s : List Nat) : Prop := if hereB f b i = true then ∃ t, EndS f b.toNat t ∧ s = thrS ((codeOf f b.toNat).drop (i.toNat + k)) t else s = []
theorem LvQ.one {f : FunV} (hok : FlowOk f) {k : Nat} {b i : Int} {s t : List Nat} (h1 : LvQ f k b i s) (h2 : LvQ f k b i t) : s = t := by
  unfold LvQ at h1 h2
  split at h1
  · rename_i h
    rw [if_pos h] at h2
    obtain ⟨x, hx, rfl⟩ := h1
    obtain ⟨y, hy, rfl⟩ := h2
    rw [hx.one hok hy]
  · rename_i h
    rw [if_neg h] at h2
    rw [h1, h2]
theorem LvQ.ok {f : FunV} (hok : FlowOk f) {k : Nat} {b i : Int} {s : List Nat} (h : LvQ f k b i s) : SetOk s := by
  unfold LvQ at h
  split at h
  · obtain ⟨x, hx, rfl⟩ := h
    exact thrS_ok (hx.ok hok)
  · subst h
    exact ⟨by simp, fun x hx => by cases hx⟩
theorem InssV.drop {w : World} {S : Nat → Prop} {b o n c i : Nat} {xs : List InsV} (h : InssV w S (.slice (some ⟨b, o, none⟩) n c) xs) (hn : xs.length = n) (hi : i ≤ n) {o' : Nat} (ho : i < n → o' = o + i * 7) {c' : Nat} (hc : n - i ≤ c') (hc2 : c' ≤ 9223372036854775807) :
    InssV w S (.slice (some ⟨b, o', none⟩) (n - i) c') (xs.drop i) := by
  obtain ⟨A', c0, e, -, -, h3⟩ := h
  injection e with eA _ _
  subst eA
  refine ⟨_, c', by rw [List.length_drop, hn], by rw [List.length_drop, hn]; exact hc, hc2, fun hp => ?_⟩
  rw [List.length_drop] at hp
  obtain ⟨b', o2, e2, hb, hx⟩ := h3 (by omega)
  injection e2 with e3
  injection e3 with e4 e5 _
  subst e4
  subst e5
  refine ⟨_, _, rfl, hb, fun j x hj => ?_⟩
  rw [List.getElem?_drop] at hj
  have := hx (i + j) x hj
  rw [ho (by omega)]
  rw [show o + i * 7 + j * 7 = o + (i + j) * 7 by rw [Nat.add_mul]; omega]
  exact this
set_option maxHeartbeats 1000000 in
set_option maxRecDepth 100000 in
theorem size_anyL (vk vb vs : Value) (f : FunV) (z : Int) (w : World) (B : Nat) (hB : B ≤ w.heap.size) (hi : FunI w (· < B) vk vb vs f) :
    Calls Tryd.prog 53 #[.agg #[vk, vb, .int .i64 f.params, .int .i64 f.result, vs], .int .i64 z] w fun e w' => e = .returned (.int .i64 (sizeN f z)) ∧ Below w.heap.size w w' := by
  have HBL := hide (fun (W : World) (hW : Below w.heap.size w W) => hi.2.2.1.keep (up hW hB) (fun _ h => h))
  obtain ⟨Ak, ck, rfl, hck, hmk⟩ := hi.1.open'
  obtain ⟨Ab, cb, rfl, hcb, hmb⟩ := hi.2.1.open'
  obtain ⟨As, cs, rfl, hcs, hms⟩ := hi.2.2.1.open'
  obtain ⟨ls, hls2⟩ : ∃ ls, f.blocks.length = ls := ⟨_, rfl⟩
  by_cases h0 : z < 0
  · rw [sizeN_out (.inl h0)]
    rw [hls2] at hcs ⊢
    clear hls2 hi
    generalize f.kinds.length = lk, f.base.length = lb, f.params = fp, f.result = fr at *
    go_enter Tryd.func53, Tryd.ntmps53
    go_wp2
    go_ret
    exact ⟨rfl, alloc1 w _⟩
  by_cases h1 : (ls : Int) ≤ z
  · rw [sizeN_out (.inr (by rw [hls2]; exact h1))]
    have h2 : z ≥ (ls : Int) := h1
    have h3 : ¬ z < 0 := h0
    rw [hls2] at hcs ⊢
    clear hls2 hi
    generalize f.kinds.length = lk, f.base.length = lb, f.params = fp, f.result = fr at *
    go_enter Tryd.func53, Tryd.ntmps53
    go_wp2
    go_ret
    exact ⟨rfl, alloc1 w _⟩
  obtain ⟨b, rfl⟩ : ∃ b : Nat, z = (b : Int) := ⟨z.toNat, by omega⟩
  have hb : b < ls := by omega
  obtain ⟨l, hl⟩ : ∃ l, f.blocks[b]? = some l := ⟨_, List.getElem?_eq_getElem (by omega)⟩
  rw [sizeN_nat hl]
  rw [hls2] at HBL hcs ⊢
  obtain ⟨bb, ob, Al, cl, hAs, hbb, d0, -⟩ := (HBL.out (w.alloc (.cells #[.slice Ak f.kinds.length ck, .slice Ab f.base.length cb, .int .i64 f.params, .int .i64 f.result, .slice As ls cs] 34)) (alloc1 w _)).get hl
  subst hAs
  obtain ⟨ll, hll⟩ : ∃ ll, l.length = ll := ⟨_, rfl⟩
  rw [hll] at d0 ⊢
  clear hls2 hi h0 h1 HBL hll hl
  have hb0 : (0 : Int) ≤ (b : Int) := by omega
  have hb1 : (b : Int) < (ls : Int) := by omega
  generalize f.kinds.length = lk, f.base.length = lb, f.params = fp, f.result = fr at *
  go_enter Tryd.func53, Tryd.ntmps53
  go_wp2
  go_ret
  exact ⟨rfl, alloc1 w _⟩
set_option maxHeartbeats 1000000 in
set_option maxRecDepth 100000 in
theorem there_anyL (vk vb vs : Value) (f : FunV) (b i : Int) (w : World) (B : Nat) (hB : B ≤ w.heap.size) (hi : FunI w (· < B) vk vb vs f) :
    Calls Tryd.prog 68 #[.agg #[vk, vb, .int .i64 f.params, .int .i64 f.result, vs], .int .i64 b, .int .i64 i] w fun e w' => e = .returned (.bool (hereB f b i)) ∧ Below w.heap.size w w' := by
  have HSZ := hide (fun (W : World) (hW : Below w.heap.size w W) => size_anyL vk vb vs f b W B (by have := hW.size; omega) (hi.keep (up hW hB) (fun _ h => h)))
  obtain ⟨Ak, ck, rfl, hck, hmk⟩ := hi.1.open'
  obtain ⟨Ab, cb, rfl, hcb, hmb⟩ := hi.2.1.open'
  obtain ⟨As, cs, rfl, hcs, hms⟩ := hi.2.2.1.open'
  unfold hereB
  obtain ⟨n, hn⟩ : ∃ n, sizeN f b = n := ⟨_, rfl⟩
  rw [hn] at HSZ ⊢
  clear hi hn
  generalize f.kinds.length = lk, f.base.length = lb, f.blocks.length = ls, f.params = fp, f.result = fr at *
  by_cases h0 : 0 ≤ i
  · have hd : decide (0 ≤ i) = true := by simpa using h0
    rw [hd]
    go_enter Tryd.func68, Tryd.ntmps68
    go_upto_region 1 with (fail)
    obtain ⟨w1, hw1⟩ : ∃ w1, w1 = w.alloc (.cells #[.slice Ak lk ck, .slice Ab lb cb, .int .i64 fp, .int .i64 fr, .slice As ls cs] 34) := ⟨_, rfl⟩
    obtain ⟨h5, hh5⟩ : ∃ h5, w.heap.size = h5 := ⟨_, rfl⟩
    have HX0 := hide (show Box w1 (h5) #[.slice Ak lk ck, .slice Ab lb cb, .int .i64 fp, .int .i64 fr, .slice As ls cs] 34 by rw [hw1, ← hh5]; have t := Box.new w #[.slice Ak lk ck, .slice Ab lb cb, .int .i64 fp, .int .i64 fr, .slice As ls cs] 34; (try simp only [World.size_alloc] at t); exact t)
    have HB1 := hide (show Below w.heap.size w w1 by rw [hw1]; exact ((Below.refl _ _).alloc (Nat.le_refl _) _))
    have w1s := HB1.out.size
    have w1z := hide (show w1.heap.size = h5 + 1 by rw [hw1, ← hh5]; simp only [World.size_alloc])
    have HK0 := hide (fun (W : World) (hW : Below w1.heap.size w1 W) => (And.intro ((HX0.out.below hW).cell 0 (v := .slice Ak lk ck) rfl).1 (And.intro ((HX0.out.below hW).cell 1 (v := .slice Ab lb cb) rfl).1 (And.intro ((HX0.out.below hW).cell 2 (v := .int .i64 fp) rfl).1 (And.intro ((HX0.out.below hW).cell 3 (v := .int .i64 fr) rfl).1 ((HX0.out.below hW).cell 4 (v := .slice As ls cs) rfl).1)))))
    have lHX0 := HX0.out.lt
    have h5g : w.heap.size ≤ h5 := by omega
    rw [← hw1, hh5]
    clear hw1 hh5
    obtain ⟨c0, c1, c2, c3, c4⟩ := HK0.out w1 (Below.refl _ _)
    go_wp2_with (go_at_call 53; (with_reducible refine (HSZ.out w1 HB1.out).mono ?_); rintro e w2 ⟨rfl, hb2⟩; have HB2 := hide (HB1.out.trans (hb2.mono HB1.out.size)); clear hb2)
    all_goals
      go_ret
      exact ⟨by simp, HB2.out⟩
  · have hd : decide (0 ≤ i) = false := by simpa using h0
    rw [hd]
    go_enter Tryd.func68, Tryd.ntmps68
    go_wp2
    go_ret
    exact ⟨by simp, alloc1 w _⟩
set_option maxHeartbeats 2000000 in
set_option maxRecDepth 100000 in
theorem behind_any (vk vb vs : Value) (f : FunV) (b i : Int) (w : World) (B : Nat) (hB : B ≤ w.heap.size) (hi : FunI w (· < B) vk vb vs f) (hT : TabP w) (hok : FlowOk f) (hne : ∀ c, c < f.blocks.length → codeOf f c ≠ []) (hfew : ∀ l ∈ f.blocks, ∀ x ∈ l, x.args.length ≤ 1099511627000) :
    Calls Tryd.prog 52 #[.agg #[vk, vb, .int .i64 f.params, .int .i64 f.result, vs], .int .i64 b, .int .i64 i] w fun e w' => ∃ r s, e = .returned r ∧ LvQ f 1 b i s ∧ SetV w' r s ∧ Below w.heap.size w w' := by
  have HTR := hide (fun (W : World) (hW : Below w.heap.size w W) => there_anyL vk vb vs f b i W B (by have := hW.size; omega) (hi.keep (up hW hB) (fun _ h => h)))
  by_cases hh : hereB f b i = true
  case neg =>
    have hq : LvQ f 1 b i [] := by unfold LvQ; rw [if_neg hh]
    have hf : hereB f b i = false := by simpa using hh
    rw [hf] at HTR
    have HQ := hide hq
    obtain ⟨Ak, ck, rfl, hck, hmk⟩ := hi.1.open'
    obtain ⟨Ab, cb, rfl, hcb, hmb⟩ := hi.2.1.open'
    obtain ⟨As, cs, rfl, hcs, hms⟩ := hi.2.2.1.open'
    clear hi hh hq hf hT hne hfew hok
    generalize f.kinds.length = lk, f.base.length = lb, f.blocks.length = ls, f.params = fp, f.result = fr at *
    go_enter Tryd.func52, Tryd.ntmps52
    go_upto_region 1 with (fail)
    obtain ⟨w1, hw1⟩ : ∃ w1, w1 = w.alloc (.cells #[.slice Ak lk ck, .slice Ab lb cb, .int .i64 fp, .int .i64 fr, .slice As ls cs] 34) := ⟨_, rfl⟩
    obtain ⟨h5, hh5⟩ : ∃ h5, w.heap.size = h5 := ⟨_, rfl⟩
    have HX0 := hide (show Box w1 (h5) #[.slice Ak lk ck, .slice Ab lb cb, .int .i64 fp, .int .i64 fr, .slice As ls cs] 34 by rw [hw1, ← hh5]; have t := Box.new w #[.slice Ak lk ck, .slice Ab lb cb, .int .i64 fp, .int .i64 fr, .slice As ls cs] 34; (try simp only [World.size_alloc] at t); exact t)
    have HB1 := hide (show Below w.heap.size w w1 by rw [hw1]; exact ((Below.refl _ _).alloc (Nat.le_refl _) _))
    have w1s := HB1.out.size
    have w1z := hide (show w1.heap.size = h5 + 1 by rw [hw1, ← hh5]; simp only [World.size_alloc])
    have HK0 := hide (fun (W : World) (hW : Below w1.heap.size w1 W) => (And.intro ((HX0.out.below hW).cell 0 (v := .slice Ak lk ck) rfl).1 (And.intro ((HX0.out.below hW).cell 1 (v := .slice Ab lb cb) rfl).1 (And.intro ((HX0.out.below hW).cell 2 (v := .int .i64 fp) rfl).1 (And.intro ((HX0.out.below hW).cell 3 (v := .int .i64 fr) rfl).1 ((HX0.out.below hW).cell 4 (v := .slice As ls cs) rfl).1)))))
    have lHX0 := HX0.out.lt
    have h5g : w.heap.size ≤ h5 := by omega
    rw [← hw1, hh5]
    clear hw1 hh5
    obtain ⟨c0, c1, c2, c3, c4⟩ := HK0.out w1 (Below.refl _ _)
    go_wp2_with (go_at_call 68; (with_reducible refine (HTR.out w1 HB1.out).mono ?_); rintro e w2 ⟨rfl, hb2⟩; have HB2 := hide (HB1.out.trans (hb2.mono HB1.out.size)); clear hb2)
    go_ret
    exact ⟨_, [], rfl, HQ.out, SetV.nil0 _, HB2.out⟩
  rw [hh] at HTR
  obtain ⟨bn, i, l, rfl, rfl, hl, hil⟩ := hereB_in hh
  have hcl : codeOf f bn = l := by unfold codeOf; rw [hl]; rfl
  have hbl := (List.getElem?_eq_some_iff.1 hl).1
  have HQ := hide (fun t (ht : EndS f bn t) => (show LvQ f 1 (bn : Int) (i : Int) (thrS (l.drop (i + 1)) t) by unfold LvQ; rw [if_pos hh]; exact ⟨t, ht, by rw [Int.toNat_natCast, Int.toNat_natCast, hcl]; try rfl⟩))
  have HEN := hide (fun (W : World) (hW : Below w.heap.size w W) => end_any vk vb vs f bn W B (by have := hW.size; omega) (hi.keep (up hW hB) (fun _ h => h)) (hT.below hW hT.1) hok hbl hne hfew)
  have HOK := hide (fun t (ht : EndS f bn t) => EndS.ok hok ht)
  have hl40 : l.length ≤ 40 := hok.2.1 l (List.mem_of_getElem? hl)
  have HFE := hide (few_code hfew hl)
  have HTT := hide (fun (W : World) (hW : Below w.heap.size w W) => hT.below hW hT.1)
  have HBL := hide (fun (W : World) (hW : Below w.heap.size w W) => hi.2.2.1.keep (up hW hB) (fun _ h => h))
  obtain ⟨Ak, ck, rfl, hck, hmk⟩ := hi.1.open'
  obtain ⟨Ab, cb, rfl, hcb, hmb⟩ := hi.2.1.open'
  obtain ⟨As, cs, rfl, hcs, hms⟩ := hi.2.2.1.open'
  obtain ⟨ls, hls2⟩ : ∃ ls, f.blocks.length = ls := ⟨_, rfl⟩
  rw [hls2] at HTR HEN HBL hbl hcs
  rw [hls2]
  obtain ⟨bb, ob, Al, cl, hAs, hbb, d0', hli⟩ := (HBL.out w (Below.refl _ _)).get hl
  subst hAs
  obtain ⟨bq, oq, hAl⟩ : ∃ bq oq, Al = some ⟨bq, oq, none⟩ := by
    obtain ⟨A', c', e, -, -, h3⟩ := hli
    obtain ⟨b', o', e', -⟩ := h3 (by omega)
    injection e with e1
    exact ⟨b', o', e1.trans e'⟩
  subst hAl
  have HLI := hide (fun (W : World) (hW : Below w.heap.size w W) => (hli.keep (S := (· < B)) (S' := (· < W.heap.size)) (up hW hB) (fun _ h => by have := hW.size; omega)))
  have HDC := hide (fun (W : World) (hW : Below w.heap.size w W) => (World.cell?_of_block (a := ⟨bb, ob + bn, none⟩) (hW.block bb (by omega))).trans d0')
  obtain ⟨hlc, hmc⟩ : l.length ≤ cl ∧ cl ≤ 9223372036854775807 := by
    obtain ⟨A', c', e, h1, h2, -⟩ := hli
    injection e with e1 e2 e3
    subst e3
    exact ⟨h1, h2⟩
  obtain ⟨ll, hll⟩ : ∃ ll, l.length = ll := ⟨_, rfl⟩
  have HLL := hide hll
  rw [hll] at HLI HDC hil hlc hl40
  have HTH := hide (fun (W : World) (hW : Below w.heap.size w W) (o' cc n' : Nat) (ho : i + 1 < ll → o' = oq + (i + 1) * 7) (hn' : n' = ll - (i + 1)) (hc : n' ≤ cc) (hc2 : cc ≤ 9223372036854775807) (v : Value) (t : List Nat) (hv : SetV W v t) (hk : SetOk t) => (show Calls Tryd.prog 69 #[.slice (some ⟨bq, o', none⟩) n' cc, v] W fun e w' => ∃ A' c', e = .returned (.slice A' (thrS (l.drop (i + 1)) t).length c') ∧ FrA W.heap.size (addrOf v) A' ∧ SetV w' (.slice A' (thrS (l.drop (i + 1)) t).length c') (thrS (l.drop (i + 1)) t) ∧ Below W.heap.size W w' by
    subst hn'
    exact through_any _ _ _ (l.drop (i + 1)) v t W (InssV.drop (HLI.out W hW) HLL.out (by omega) ho hc hc2) (by rw [List.length_drop, HLL.out]) (by omega) hv hk (HTT.out W hW) (fun x hx => HFE.out x (List.mem_of_mem_drop hx))))
  clear hi hh hcl hl hls2 hT hok hne hfew hli hll d0' HBL
  generalize f.kinds.length = lk, f.base.length = lb, f.params = fp, f.result = fr at *
  go_enter Tryd.func52, Tryd.ntmps52
  go_upto_region 1 with (fail)
  obtain ⟨w1, hw1⟩ : ∃ w1, w1 = w.alloc (.cells #[.slice Ak lk ck, .slice Ab lb cb, .int .i64 fp, .int .i64 fr, .slice (some ⟨bb, ob, none⟩) ls cs] 34) := ⟨_, rfl⟩
  obtain ⟨h5, hh5⟩ : ∃ h5, w.heap.size = h5 := ⟨_, rfl⟩
  have HX0 := hide (show Box w1 (h5) #[.slice Ak lk ck, .slice Ab lb cb, .int .i64 fp, .int .i64 fr, .slice (some ⟨bb, ob, none⟩) ls cs] 34 by rw [hw1, ← hh5]; have t := Box.new w #[.slice Ak lk ck, .slice Ab lb cb, .int .i64 fp, .int .i64 fr, .slice (some ⟨bb, ob, none⟩) ls cs] 34; (try simp only [World.size_alloc] at t); exact t)
  have HB1 := hide (show Below w.heap.size w w1 by rw [hw1]; exact ((Below.refl _ _).alloc (Nat.le_refl _) _))
  have w1s := HB1.out.size
  have w1z := hide (show w1.heap.size = h5 + 1 by rw [hw1, ← hh5]; simp only [World.size_alloc])
  have HK0 := hide (fun (W : World) (hW : Below w1.heap.size w1 W) => (And.intro ((HX0.out.below hW).cell 0 (v := .slice Ak lk ck) rfl).1 (And.intro ((HX0.out.below hW).cell 1 (v := .slice Ab lb cb) rfl).1 (And.intro ((HX0.out.below hW).cell 2 (v := .int .i64 fp) rfl).1 (And.intro ((HX0.out.below hW).cell 3 (v := .int .i64 fr) rfl).1 ((HX0.out.below hW).cell 4 (v := .slice (some ⟨bb, ob, none⟩) ls cs) rfl).1)))))
  have lHX0 := HX0.out.lt
  have h5g : w.heap.size ≤ h5 := by omega
  rw [← hw1, hh5]
  clear hw1 hh5
  obtain ⟨c0, c1, c2, c3, c4⟩ := HK0.out w1 (Below.refl _ _)
  have hi0 : (0 : Int) ≤ (i : Int) := by omega
  have hi1 : (i : Int) < (ll : Int) := by omega
  have hb0 : (0 : Int) ≤ (bn : Int) := by omega
  have hb1 : (bn : Int) < (ls : Int) := by omega
  have hile : i + 1 ≤ ll := by omega
  have hilc : i + 1 ≤ cl := by omega
  have hj0 : (0 : Int) ≤ (i : Int) + 1 := by omega
  have hj1 : (i : Int) + 1 ≤ (ll : Int) := by omega
  have hj2 : (i : Int) + 1 ≤ (cl : Int) := by omega
  have hj3 : ((i : Int) + 1).toNat = i + 1 := by omega
  have hjw : IntKind.i64.wrap ((i : Int) + 1) = (i : Int) + 1 := IntWalk.i64_in _ ⟨by omega, by omega⟩
  by_cases hz : i + 1 = cl
  case pos =>
    have hz1 : cl - (i + 1) = 0 := by omega
    have hz2 : (i : Int) + 1 = (cl : Int) := by omega
    have hjc : IntKind.i64.wrap (cl : Int) = (cl : Int) := IntWalk.i64_in _ ⟨by omega, by omega⟩
    have hz9 : (cl : Int) ≤ (ll : Int) := by omega
    have hz10 : (0 : Int) ≤ (cl : Int) := by omega
    clear hjw hj3
    rw [hz] at HQ HTH
    go_upto_region 3 with (go_at_call 68; (with_reducible refine (HTR.out w1 HB1.out).mono ?_); rintro e w2 ⟨rfl, hb2⟩; have HC2 := hide hb2; have HB2 := hide (HB1.out.trans (hb2.mono HB1.out.size)); have p2 := HK0.out w2 hb2; clear hb2 c0 c1 c2 c3 c4)
    obtain ⟨c0, c1, c2, c3, c4⟩ := p2
    have d2 := HDC.out w2 HB2.out
    go_region_held3 (fun w' => (w'.cell? ⟨h5, 0, none⟩ = some (.slice Ak lk ck) ∧ w'.cell? ⟨h5, 1, none⟩ = some (.slice Ab lb cb) ∧ w'.cell? ⟨h5, 2, none⟩ = some (.int .i64 fp) ∧ w'.cell? ⟨h5, 3, none⟩ = some (.int .i64 fr) ∧ w'.cell? ⟨h5, 4, none⟩ = some (.slice (some ⟨bb, ob, none⟩) ls cs)) ∧ w'.cell? ⟨bb, ob + bn, none⟩ = some (.slice (some ⟨bq, oq, none⟩) ll cl)) (first | go_keep | (exact q3))
      (first
        | (go_at_call 69; refine (HTH.out w3 HB3.out _ _ _ (fun _ => by first | rfl | omega) (by first | rfl | omega | (simp; omega)) (by omega) (by omega) r3 s3 HS3.out (HOK.out s3 HE3.out)).mono ?_; rintro e w4 ⟨A4, c4', rfl, -, hv4, hb4⟩; have hc4 := HC3.out.trans (hb4.mono HC3.out.size); have q3 := And.intro (HK0.out w4 hc4) (HDC.out w4 (HB1.out.trans (hc4.mono HB1.out.size))); have HV4 := hide hv4; have HB4 := hide (HB1.out.trans (hc4.mono HB1.out.size)); clear hv4 hb4 hc4)
        | (go_at_call 70; refine (HEN.out (w2.drewN 1) (below_drewN HB2.out 1)).mono ?_; rintro e w3 ⟨r3, s3, rfl, he3, hw3, hb3⟩; have hc3 : Below w1.heap.size w1 w3 := HC2.out.trans (Below.mono (show Below w2.heap.size w2 w3 from ⟨hb3.os, hb3.tape, hb3.output, hb3.size, hb3.block⟩) HC2.out.size); have q3 := And.intro (HK0.out w3 hc3) (HDC.out w3 (HB1.out.trans (hc3.mono HB1.out.size))); have HC3 := hide hc3; have HB3 := hide (HB1.out.trans (hc3.mono HB1.out.size)); have HE3 := hide he3; have HS3 := hide hw3.ws; clear he3 hw3 hb3 hc3))
    go_wp2
    go_ret
    exact ⟨_, _, rfl, HQ.out s3 HE3.out, HV4.out, HB4.out⟩

  case neg =>
    have hz1 : i + 1 < cl := by omega
    have hz2 : (i : Int) + 1 < (cl : Int) := by omega
    have hz3 : ¬ cl - (i + 1) = 0 := by omega
    go_upto_region 3 with (go_at_call 68; (with_reducible refine (HTR.out w1 HB1.out).mono ?_); rintro e w2 ⟨rfl, hb2⟩; have HC2 := hide hb2; have HB2 := hide (HB1.out.trans (hb2.mono HB1.out.size)); have p2 := HK0.out w2 hb2; clear hb2 c0 c1 c2 c3 c4)
    obtain ⟨c0, c1, c2, c3, c4⟩ := p2
    have d2 := HDC.out w2 HB2.out
    go_region_held3 (fun w' => (w'.cell? ⟨h5, 0, none⟩ = some (.slice Ak lk ck) ∧ w'.cell? ⟨h5, 1, none⟩ = some (.slice Ab lb cb) ∧ w'.cell? ⟨h5, 2, none⟩ = some (.int .i64 fp) ∧ w'.cell? ⟨h5, 3, none⟩ = some (.int .i64 fr) ∧ w'.cell? ⟨h5, 4, none⟩ = some (.slice (some ⟨bb, ob, none⟩) ls cs)) ∧ w'.cell? ⟨bb, ob + bn, none⟩ = some (.slice (some ⟨bq, oq, none⟩) ll cl)) (first | go_keep | (exact q3))
      (first
        | (go_at_call 69; refine (HTH.out w3 HB3.out _ _ _ (fun _ => by first | rfl | omega) (by first | rfl | omega | (simp; omega)) (by omega) (by omega) r3 s3 HS3.out (HOK.out s3 HE3.out)).mono ?_; rintro e w4 ⟨A4, c4', rfl, -, hv4, hb4⟩; have hc4 := HC3.out.trans (hb4.mono HC3.out.size); have q3 := And.intro (HK0.out w4 hc4) (HDC.out w4 (HB1.out.trans (hc4.mono HB1.out.size))); have HV4 := hide hv4; have HB4 := hide (HB1.out.trans (hc4.mono HB1.out.size)); clear hv4 hb4 hc4)
        | (go_at_call 70; refine (HEN.out (w2.drewN 1) (below_drewN HB2.out 1)).mono ?_; rintro e w3 ⟨r3, s3, rfl, he3, hw3, hb3⟩; have hc3 : Below w1.heap.size w1 w3 := HC2.out.trans (Below.mono (show Below w2.heap.size w2 w3 from ⟨hb3.os, hb3.tape, hb3.output, hb3.size, hb3.block⟩) HC2.out.size); have q3 := And.intro (HK0.out w3 hc3) (HDC.out w3 (HB1.out.trans (hc3.mono HB1.out.size))); have HC3 := hide hc3; have HB3 := hide (HB1.out.trans (hc3.mono HB1.out.size)); have HE3 := hide he3; have HS3 := hide hw3.ws; clear he3 hw3 hb3 hc3))
    go_wp2
    go_ret
    exact ⟨_, _, rfl, HQ.out s3 HE3.out, HV4.out, HB4.out⟩

end Go.Proofs.YteoopilmdlhkhaaDoor
