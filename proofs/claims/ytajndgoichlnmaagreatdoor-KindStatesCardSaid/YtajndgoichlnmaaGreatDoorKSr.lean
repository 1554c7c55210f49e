/- Layer 8, the reference: Step, block, all, and the mathematics of States. Condition: the function is of a form that may be. -/
import Derived.Test.YtajndgoichlnmaaGreatDoorKR
import Derived.Deep.RegionHeld3
set_option linter.unusedSimpArgs false
set_option linter.unusedVariables false
namespace Go.Proofs.YtajndgoichlnmaaGreatDoor
open Go.RowKit

theorem MadeB.v {W : World} {r : List Nat} {e : Ending} {w' : World} (h : MadeB W r e w') : ∃ v, e = .returned v ∧ SetV w' v r ∧ Below W.heap.size W w' := let ⟨A, c, h1, h2, h3, h4, h5⟩ := h; ⟨_, h1, ⟨A, c, rfl, h2, h3, h4⟩, h5⟩
theorem neat0 {l : List Nat} (h : Tidy l) : joinL [l, ofL []] = l := by rw [with_both]; exact neat_of_tidy h
theorem rneatV {w : World} {v : Value} {s : List Nat} (h : SetV w v s) (hl : s.length ≤ 1000) (ht : Tidy s) :
    Calls Tryz.prog 55 #[v] w fun e w' => ∃ r, e = .returned r ∧ SetV w' r s ∧ Below w.heap.size w w' := by
  obtain ⟨A, c, rfl, h2, h3, h4⟩ := h
  exact (neat_any A s.length c s w h4 rfl h2 h3 (by omega)).mono fun e w' ⟨r, h5, h6, h7⟩ => by
    rw [neat_of_tidy ht] at h6
    obtain ⟨A', c', e1, h8, h9, h10⟩ := h6.sl
    rw [nI_len] at e1 h8
    exact ⟨r, h5, ⟨A', c', e1, h8, by simpa [maxLen] using h9, h10⟩, h7⟩
theorem rwithV {w : World} {v : Value} {s : List Nat} (h : SetV w v s) (hl : s.length ≤ 1000) (hw : W64 s) (T : Option Addr) (m d : Nat) (l : List Int) (hr : Sl w w.heap.size .i64 T l) (hm : l.length = m) (hm2 : m ≤ 1000) (hR : ∀ z ∈ l, i64R z) :
    Calls Tryz.prog 57 #[v, .slice T m d] w fun e w' => ∃ r, e = .returned r ∧ SetV w' r (joinL [s, ofL l]) ∧ Below w.heap.size w w' := by
  obtain ⟨A, c, rfl, h2, h3, h4⟩ := h
  rw [with_both]
  exact (rwith_any A T s.length c m d s l w h4 rfl h2 h3 (by omega) hw hr hm (by omega) hR).mono fun _ _ h => h.v
theorem rwithoutV {w : World} {v : Value} {s : List Nat} (h : SetV w v s) (hl : s.length ≤ 1000) (hw : W64 s) (T : Option Addr) (m d : Nat) (l : List Int) (hr : Sl w w.heap.size .i64 T l) (hm : l.length = m) (hm2 : m ≤ 1000) (hR : ∀ z ∈ l, i64R z) :
    Calls Tryz.prog 56 #[v, .slice T m d] w fun e w' => ∃ r, e = .returned r ∧ SetV w' r (withoutL s l) ∧ Below w.heap.size w w' := by
  obtain ⟨A, c, rfl, h2, h3, h4⟩ := h
  exact (rwithout_any A T s.length c m d s l w h4 rfl (by omega) hw hr hm (by omega) hR).mono fun _ _ h => h.v
theorem rmeetV {w : World} {v u : Value} {s t : List Nat} (h : SetV w v s) (h' : SetV w u t) (hl : s.length ≤ 1000) (hl' : t.length ≤ 1000) (hw : W64 s) (hw' : W64 t) :
    Calls Tryz.prog 67 #[v, u] w fun e w' => ∃ r, e = .returned r ∧ SetV w' r (meetL s t) ∧ Below w.heap.size w w' := by
  obtain ⟨A, c, rfl, h2, h3, h4⟩ := h
  obtain ⟨A', c', rfl, h2', h3', h4'⟩ := h'
  exact (brmeet_any A A' s.length c t.length c' s t w h4 h4' rfl rfl (by omega) (by omega) hw hw').mono fun _ _ h => h.v
theorem rhasV {w : World} {v : Value} {s : List Nat} (h : SetV w v s) (hl : s.length ≤ 1000) (hw : W64 s) (m : Int) (hR : i64R m) :
    Calls Tryz.prog 22 #[v, .int .i64 m] w fun e w' => e = .returned (.bool (hasB s m)) ∧ w = w' := by
  obtain ⟨A, c, rfl, h2, h3, h4⟩ := h
  exact brhas_any A s.length c s m w _ h4 rfl (by omega) hw hR
/-- One number, in a block of its own. -/
theorem one_lit (w : World) (z : Int) : Sl (w.alloc (.cells #[.int .i64 z] 3)) (w.alloc (.cells #[.int .i64 z] 3)).heap.size .i64 (some ⟨w.heap.size, 0, none⟩) [z] := by
  rw [World.size_alloc]
  exact Sl.lit w 3 .i64 #[.int .i64 z] [z] rfl
/-- Without the derived pointers with the base d, as far as k. -/
def delF (f : FunV) (d : Int) : Nat → List Nat → List Nat
  | 0, s => s
  | k + 1, s => if f.kinds[k]? = some 2 ∧ f.base[k]? = some d then withoutL (delF f d k s) [(k : Int)] else delF f d k s
theorem delF_w64 {f : FunV} {d : Int} {s : List Nat} (h : W64 s) : ∀ k, W64 (delF f d k s)
  | 0 => h
  | k + 1 => by
    unfold delF
    split
    · exact withoutL_w64 (delF_w64 h k) _
    · exact delF_w64 h k
theorem delF_len {f : FunV} {d : Int} {s : List Nat} : ∀ k, (delF f d k s).length ≤ s.length
  | 0 => Nat.le_refl _
  | k + 1 => by
    unfold delF
    split
    · exact Nat.le_trans (withoutL_len _ _) (delF_len k)
    · exact delF_len k
theorem hasB_del {f : FunV} {d : Int} {s : List Nat} (h : W64 s) (m : Nat) : ∀ k, hasB (delF f d k s) (m : Int) = true ↔ hasB s (m : Int) = true ∧ ¬ (m < k ∧ f.kinds[m]? = some 2 ∧ f.base[m]? = some d)
  | 0 => by simp [delF]
  | k + 1 => by
    have ih := hasB_del (f := f) (d := d) h m k
    unfold delF
    split
    · rename_i hc
      rw [hasB_without (delF_w64 h k), Bool.and_eq_true, ih]
      simp only [Bool.not_eq_true', decide_eq_false_iff_not, List.mem_singleton]
      constructor
      · rintro ⟨⟨h1, h2⟩, h3⟩
        refine ⟨h1, fun ⟨h4, h5⟩ => h2 ⟨by have : m ≠ k := fun e => h3 (by rw [e]); omega, h5⟩⟩
      · rintro ⟨h1, h2⟩
        refine ⟨⟨h1, fun ⟨h4, h5⟩ => h2 ⟨by omega, h5⟩⟩, fun e => h2 ?_⟩
        obtain rfl : m = k := by omega
        exact ⟨by omega, hc⟩
    · rename_i hc
      rw [ih]
      constructor
      · rintro ⟨h1, h2⟩
        refine ⟨h1, fun ⟨h4, h5⟩ => ?_⟩
        by_cases e : m = k
        · subst e; exact hc h5
        · exact h2 ⟨by omega, h5⟩
      · rintro ⟨h1, h2⟩
        exact ⟨h1, fun ⟨h4, h5⟩ => h2 ⟨by omega, h5⟩⟩
/-- What is asked of a function's bases: who has one is a derived pointer. -/
def DerB (f : FunV) : Prop := ∀ (m : Nat) (b : Int), f.base[m]? = some b → 0 ≤ b → f.kinds[m]? = some 2
theorem derB_of {p : List FunV} (h : progB4 p = true) : ∀ f ∈ p, DerB f := by
  intro f hf m b hb h0
  obtain ⟨-, -, -, hall⟩ := prog_parts h
  obtain ⟨⟨h1, -, h3⟩, -, -, -, -⟩ := fun_parts (hall f hf)
  have hlt := (List.getElem?_eq_some_iff.1 hb).1
  obtain ⟨y, hy⟩ : ∃ y, f.kinds[m]? = some y := ⟨_, List.getElem?_eq_getElem (by omega)⟩
  have h4 := h3 (y, b) (List.mem_iff_getElem?.2 ⟨m, by rw [List.getElem?_zip_eq_some]; exact ⟨hy, hb⟩⟩)
  unfold baseB4 at h4
  by_cases h2 : y = 2
  · rw [hy, h2]
  · rw [if_neg h2] at h4
    simp only [Bool.and_eq_true, beq_iff_eq] at h4
    omega
/-- What is behind the loop. -/
theorem del_all {f : FunV} {s : List Nat} {dn : Nat} (hw : W64 s) (hD : DerB f) (hbl : f.base.length = f.kinds.length) : withoutL (delF f (dn : Int) f.kinds.length s) [(dn : Int)] = withoutL (withoutL s [(dn : Int)]) (dersN f (dn : Int) f.base.length) := by
  refine set_ext (withoutL_w64 (delF_w64 hw _) _) (withoutL_w64 (withoutL_w64 hw _) _) (withoutL_tidy _ _) (withoutL_tidy _ _) fun m => ?_
  rw [hasB_without (delF_w64 hw _), hasB_without (withoutL_w64 hw _), hasB_without hw, Bool.and_eq_true, Bool.and_eq_true, Bool.and_eq_true, hasB_del hw]
  simp only [Bool.not_eq_true', decide_eq_false_iff_not, dersN_mem, List.mem_singleton]
  constructor
  · rintro ⟨⟨h1, h2⟩, h3⟩
    refine ⟨⟨h1, h3⟩, fun ⟨d, hd1, hd2, hd3⟩ => ?_⟩
    obtain rfl : m = d := by omega
    exact h2 ⟨by omega, hD m _ hd3 (by omega), hd3⟩
  · rintro ⟨⟨h1, h2⟩, h3⟩
    exact ⟨⟨h1, fun ⟨h4, h5, h6⟩ => h3 ⟨m, rfl, by omega, h6⟩⟩, h2⟩
set_option maxHeartbeats 2000000 in
set_option maxRecDepth 100000 in
theorem rstep_no (vk vb vs : Value) (f : FunV) (x : InsV) (va : Value) (w : World) (B : Nat) (hB : B ≤ w.heap.size) (hi : FunI w (· < B) vk vb vs f) (hx : InsI w (· < B) va x) (v1 v2 : Value) (s : KSt) (hs : GoodK f s) (h1 : SetV w v1 s.1) (h2 : SetV w v2 s.2) (h68 : hasB4 x.op 68 = false) :
    Calls Tryz.prog 21 #[.agg #[vk, vb, .int .i64 f.params, .int .i64 f.result, vs], .agg #[.int .i64 x.op, .int .i64 x.d, .int .i64 x.a, .int .i64 x.b, .int .i64 x.n, .int .i64 x.m, va], v1, v2] w fun e w' => ∃ r1 r2, e = .returned (.tuple #[r1, r2]) ∧ SetV w' r1 (stepW f x s).1 ∧ SetV w' r2 (stepW f x s).2 ∧ Below w.heap.size w w' := by
  have hst : stepW f x s = (s.1, s.2) := by
    unfold stepW
    rw [h68]
    show (joinL [s.1, ofL []], joinL [s.2, ofL []]) = _
    rw [neat0 hs.t1, neat0 hs.t2]
  rw [hst]
  have HSE := hide (fun (W : World) (A : Option Addr) (n c : Nat) => sets4_any x A n c W)
  have HN1 := hide (fun (W : World) (hW : Below w.heap.size w W) => rneatV (h1.below hW) (by have := hs.l1; omega) hs.t1)
  have HN2 := hide (fun (W : World) (hW : Below w.heap.size w W) => rneatV (h2.below hW) (by have := hs.l2; omega) hs.t2)
  rw [h68, if_neg (by simp)] at HSE
  obtain ⟨Ak, ck, rfl, hck, hmk⟩ := hi.1.open'
  obtain ⟨Ab, cb, rfl, hcb, hmb⟩ := hi.2.1.open'
  obtain ⟨As, cs, rfl, hcs, hms⟩ := hi.2.2.1.open'
  obtain ⟨Ax, cx, rfl, hcx, hmx⟩ := hx.1.open'
  obtain ⟨A1, d1, rfl, -, -, -⟩ := h1
  obtain ⟨A2, d2, rfl, -, -, -⟩ := h2
  have HSE := hide (fun (W : World) => HSE.out W Ax x.args.length cx)
  generalize s.1 = s1, s.2 = s2 at *
  generalize s1.length = n1, s2.length = n2 at *
  clear hi hx hs h68 hst
  generalize x.args.length = lx, x.op = xo, x.d = xd, x.a = xa, x.b = xb, x.n = xn, x.m = xm at *
  generalize f.kinds.length = lk, f.base.length = lb, f.blocks.length = ls, f.params = fp, f.result = fr at *
  go_enter Tryz.func21, Tryz.ntmps21
  go_upto_region 1 with (fail)
  obtain ⟨w1, hw1⟩ : ∃ w1, w1 = (w.alloc (.cells #[.slice Ak lk ck, .slice Ab lb cb, .int .i64 fp, .int .i64 fr, .slice As ls cs] 35)).alloc (.cells #[.int .i64 xo, .int .i64 xd, .int .i64 xa, .int .i64 xb, .int .i64 xn, .int .i64 xm, .slice Ax lx cx] 31) := ⟨_, rfl⟩
  obtain ⟨h5, hh5⟩ : ∃ h5, w.heap.size = h5 := ⟨_, rfl⟩
  have HX0 := hide (show Box w1 (h5) #[.slice Ak lk ck, .slice Ab lb cb, .int .i64 fp, .int .i64 fr, .slice As ls cs] 35 by rw [hw1, ← hh5]; have t := Box.new w #[.slice Ak lk ck, .slice Ab lb cb, .int .i64 fp, .int .i64 fr, .slice As ls cs] 35; (try simp only [World.size_alloc] at t); exact (t.alloc _))
  have HX1 := hide (show Box w1 (h5 + 1) #[.int .i64 xo, .int .i64 xd, .int .i64 xa, .int .i64 xb, .int .i64 xn, .int .i64 xm, .slice Ax lx cx] 31 by rw [hw1, ← hh5]; have t := Box.new (w.alloc (.cells #[.slice Ak lk ck, .slice Ab lb cb, .int .i64 fp, .int .i64 fr, .slice As ls cs] 35)) #[.int .i64 xo, .int .i64 xd, .int .i64 xa, .int .i64 xb, .int .i64 xn, .int .i64 xm, .slice Ax lx cx] 31; (try simp only [World.size_alloc] at t); exact t)
  have HB1 := hide (show Below w.heap.size w w1 by rw [hw1]; exact (((Below.refl _ _).alloc (Nat.le_refl _) _).alloc (by simp only [World.size_alloc]; omega) _))
  have w1s := HB1.out.size
  have w1z := hide (show w1.heap.size = h5 + 1 + 1 by rw [hw1, ← hh5]; simp only [World.size_alloc])
  have HK0 := hide (fun (W : World) (hW : Below w1.heap.size w1 W) => (And.intro ((HX0.out.below hW).cell 0 (v := .slice Ak lk ck) rfl).1 (And.intro ((HX0.out.below hW).cell 1 (v := .slice Ab lb cb) rfl).1 (And.intro ((HX0.out.below hW).cell 2 (v := .int .i64 fp) rfl).1 (And.intro ((HX0.out.below hW).cell 3 (v := .int .i64 fr) rfl).1 ((HX0.out.below hW).cell 4 (v := .slice As ls cs) rfl).1)))))
  have lHX0 := HX0.out.lt
  have HK1 := hide (fun (W : World) (hW : Below w1.heap.size w1 W) => (And.intro ((HX1.out.below hW).cell 0 (v := .int .i64 xo) rfl).1 (And.intro ((HX1.out.below hW).cell 1 (v := .int .i64 xd) rfl).1 (And.intro ((HX1.out.below hW).cell 2 (v := .int .i64 xa) rfl).1 (And.intro ((HX1.out.below hW).cell 3 (v := .int .i64 xb) rfl).1 (And.intro ((HX1.out.below hW).cell 4 (v := .int .i64 xn) rfl).1 (And.intro ((HX1.out.below hW).cell 5 (v := .int .i64 xm) rfl).1 ((HX1.out.below hW).cell 6 (v := .slice Ax lx cx) rfl).1)))))))
  have lHX1 := HX1.out.lt
  have h5g : w.heap.size ≤ h5 := by omega
  rw [← hw1, hh5]
  clear hw1 hh5
  obtain ⟨x0, x1, x2, x3, x4, x5, x6⟩ := HK1.out w1 (Below.refl _ _)
  go_upto_region 3 with (go_at_call 23; (with_reducible refine (HSE.out _).mono ?_); rintro e w2 ⟨rfl, hb2⟩; have HC2 := hide hb2; have HB2 := hide (HB1.out.trans (hb2.mono HB1.out.size)); clear hb2)
  go_wp2_with (first
    | (go_at_call_of 55 A2; (with_reducible refine (HN2.out w3 HB3.out).mono ?_); rintro e w4 ⟨r2, rfl, hr2, hb4⟩; have HB4 := hide (HB3.out.trans (hb4.mono HB3.out.size)); have HR1 := hide (HR1.out.below hb4); have HR2 := hide hr2; clear hb4 hr2)
    | (go_at_call_of 55 A1; (with_reducible refine (HN1.out w2 HB2.out).mono ?_); rintro e w3 ⟨r1, rfl, hr1, hb3⟩; have HB3 := hide (HB2.out.trans (hb3.mono HB2.out.size)); have HR1 := hide hr1; clear hb3 hr1))
  go_ret2
  exact ⟨_, _, rfl, HR1.out, HR2.out, HB4.out⟩
set_option maxHeartbeats 4000000 in
set_option maxRecDepth 100000 in
theorem rstep_yes (vk vb vs : Value) (f : FunV) (x : InsV) (va : Value) (w : World) (B : Nat) (hB : B ≤ w.heap.size) (hi : FunI w (· < B) vk vb vs f) (hx : InsI w (· < B) va x) (v1 v2 : Value) (s : KSt) (hs : GoodK f s) (h1 : SetV w v1 s.1) (h2 : SetV w v2 s.2) (h68 : hasB4 x.op 68 = true) (dn : Nat) (hd : x.d = (dn : Int)) (hdl : dn < f.kinds.length) (hk : f.kinds.length ≤ 48) (hbl : f.base.length = f.kinds.length) (hD : DerB f) :
    Calls Tryz.prog 21 #[.agg #[vk, vb, .int .i64 f.params, .int .i64 f.result, vs], .agg #[.int .i64 x.op, .int .i64 x.d, .int .i64 x.a, .int .i64 x.b, .int .i64 x.n, .int .i64 x.m, va], v1, v2] w fun e w' => ∃ r1 r2, e = .returned (.tuple #[r1, r2]) ∧ SetV w' r1 (stepW f x s).1 ∧ SetV w' r2 (stepW f x s).2 ∧ Below w.heap.size w w' := by
  have hnd : newDer f x s.2 = (decide (f.kinds[dn]? = some 2) && (!(x.op == 16) || hasB s.2 x.a)) := by unfold newDer; rw [hd, Int.toNat_natCast]
  have hst : stepW f x s = (joinL [s.1, ofL [(dn : Int)]], if newDer f x s.2 = true then joinL [withoutL (delF f (dn : Int) f.kinds.length s.2) [(dn : Int)], ofL [(dn : Int)]] else withoutL (delF f (dn : Int) f.kinds.length s.2) [(dn : Int)]) := by
    unfold stepW
    rw [if_pos h68, hd, del_all hs.w2 hD hbl]
  rw [hst]
  have HSE := hide (fun (W : World) (A : Option Addr) (n c : Nat) => sets4_any x A n c W)
  have hxa : i64R x.a := hx.2.2.2.1
  have HHA := hide (fun (W : World) (hW : Below w.heap.size w W) => rhasV (h2.below hW) (by have := hs.l2; omega) hs.w2 x.a hxa)
  have hR1 : ∀ z : Nat, z ≤ 1000 → ∀ y ∈ [(z : Int)], i64R y := fun z hz y hy => by obtain rfl := List.mem_singleton.1 hy; unfold i64R; omega
  have HWI1 := hide (fun (W : World) (hW : Below w.heap.size w W) => rwithV ((h1.below hW).below (below1 W (.cells #[.int .i64 (dn : Int)] 3))) (by have := hs.l1; omega) hs.w1 (some ⟨W.heap.size, 0, none⟩) 1 1 [(dn : Int)] (one_lit W (dn : Int)) rfl (by omega) (hR1 dn (by omega)))
  have HDL := hide (fun (v : Value) (k : Nat) (hk : k ≤ 48) (s' : List Nat) (W : World) (hv : SetV W v s') (hl : s'.length ≤ 64) (hw : W64 s') => rwithoutV (hv.below (below1 W (.cells #[.int .i64 (k : Int)] 3))) (by omega) hw (some ⟨W.heap.size, 0, none⟩) 1 1 [(k : Int)] (one_lit W (k : Int)) rfl (by omega) (hR1 k (by omega)))
  have HWI2 := hide (fun (v : Value) (s' : List Nat) (W : World) (hv : SetV W v s') (hl : s'.length ≤ 64) (hw : W64 s') => rwithV (hv.below (below1 W (.cells #[.int .i64 (dn : Int)] 3))) (by omega) hw (some ⟨W.heap.size, 0, none⟩) 1 1 [(dn : Int)] (one_lit W (dn : Int)) rfl (by omega) (hR1 dn (by omega)))
  have HNE := hide (fun (v : Value) (s' : List Nat) (W : World) (hv : SetV W v s') (hl : s'.length ≤ 128) (ht : Tidy s') => rneatV hv (by omega) ht)
  have HF64 := hide (fun k => delF_w64 (f := f) (d := (dn : Int)) hs.w2 k)
  have HFL := hide (fun k => (show (delF f (dn : Int) k s.2).length ≤ 64 from Nat.le_trans (delF_len k) hs.l2))
  have HFY := hide (fun (k : Nat) (hc : f.kinds[k]? = some 2 ∧ f.base[k]? = some (dn : Int)) => (show delF f (dn : Int) (k + 1) s.2 = withoutL (delF f (dn : Int) k s.2) [(k : Int)] from by rw [delF, if_pos hc]))
  have HFN := hide (fun (k : Nat) (hc : ¬ (f.kinds[k]? = some 2 ∧ f.base[k]? = some (dn : Int))) => (show delF f (dn : Int) (k + 1) s.2 = delF f (dn : Int) k s.2 from by rw [delF, if_neg hc]))
  have HF0 := hide (show delF f (dn : Int) 0 s.2 = s.2 from rfl)
  have HTW := hide (show W64 (withoutL (delF f (dn : Int) f.kinds.length s.2) [(dn : Int)]) from withoutL_w64 (HF64.out _) _)
  have HTT := hide (show Tidy (withoutL (delF f (dn : Int) f.kinds.length s.2) [(dn : Int)]) from withoutL_tidy _ _)
  have HTL := hide (show (withoutL (delF f (dn : Int) f.kinds.length s.2) [(dn : Int)]).length ≤ 64 from Nat.le_trans (withoutL_len _ _) (HFL.out _))
  have HJT := hide (show Tidy (joinL [withoutL (delF f (dn : Int) f.kinds.length s.2) [(dn : Int)], ofL [(dn : Int)]]) from joinL_tidy' _)
  have HJL := hide (show (joinL [withoutL (delF f (dn : Int) f.kinds.length s.2) [(dn : Int)], ofL [(dn : Int)]]).length ≤ 128 from by
    rw [with_both]
    exact Nat.le_trans (neat_le _) (Nat.le_trans (putsL_len _ _) (by have := HTL.out; omega)))
  rw [h68, if_pos rfl, hd] at HSE
  rw [hd]
  have HIK := hide (fun (W : World) (hW : Below w.heap.size w W) => hi.keep (w := w) (S := (· < B)) (up hW hB) (fun _ h => h))
  obtain ⟨kd, hkd⟩ : ∃ kd, f.kinds[dn]? = some kd := ⟨_, List.getElem?_eq_getElem hdl⟩
  have HKD := hide hkd
  have hnd2 : newDer f x s.2 = (decide (kd = 2) && (!(x.op == 16) || hasB s.2 x.a)) := by rw [hnd, hkd]; simp
  have HKQ := hide (fun (m : Nat) (hm : m < f.kinds.length) => (show ∃ y b, f.kinds[m]? = some y ∧ f.base[m]? = some b from ⟨_, _, List.getElem?_eq_getElem hm, List.getElem?_eq_getElem (by rw [hbl]; exact hm)⟩))
  obtain ⟨Ak, ck, rfl, hck, hmk⟩ := hi.1.open'
  obtain ⟨Ab, cb, rfl, hcb, hmb⟩ := hi.2.1.open'
  obtain ⟨As, cs, rfl, hcs, hms⟩ := hi.2.2.1.open'
  obtain ⟨Ax, cx, rfl, hcx, hmx⟩ := hx.1.open'
  have HSE := hide (fun (W : World) => HSE.out W Ax x.args.length cx)
  have HS2 := hide (fun (W : World) (hW : Below w.heap.size w W) => h2.below hW)
  obtain ⟨nd, hndn⟩ : ∃ nd, newDer f x s.2 = nd := ⟨_, rfl⟩
  rw [hndn] at hnd2 ⊢
  obtain ⟨TT, hTT⟩ : ∃ TT, withoutL (delF f (dn : Int) f.kinds.length s.2) [(dn : Int)] = TT := ⟨_, rfl⟩
  have HTE := hide hTT
  rw [hTT] at HTW HTT HTL HJT HJL
  rw [hTT]
  obtain ⟨DF, hDF⟩ : ∃ DF : Nat → List Nat, (fun k => delF f (dn : Int) k s.2) = DF := ⟨_, rfl⟩
  have hDF2 : ∀ k, delF f (dn : Int) k s.2 = DF k := fun k => by rw [← hDF]
  simp only [hDF2] at HF64 HFL HFY HFN HF0 HTE
  generalize hasB s.2 x.a = ha at *
  generalize joinL [s.1, ofL [(dn : Int)]] = J1 at *
  obtain ⟨sh, hsh⟩ : ∃ sh, (!(x.op == 16) || ha) = sh := ⟨_, rfl⟩
  rw [hsh] at hnd2
  have HND := hide hnd2
  have HSH := hide hsh
  obtain ⟨lk, hlk⟩ : ∃ lk, f.kinds.length = lk := ⟨_, rfl⟩
  rw [hlk] at HKQ hdl hk hbl HIK HTE ⊢
  rw [hbl] at HIK ⊢
  clear hi hx hs h68 hst hnd hnd2 hsh hTT hDF hDF2 hd h1 h2 hkd hxa hR1 hck hmk hcb hmb hcs hms hcx hmx hlk hbl
  generalize x.args.length = lx, x.op = xo, x.a = xa, x.b = xb, x.n = xn, x.m = xm at *
  generalize f.blocks.length = ls, f.params = fp, f.result = fr at *
  have rd0 : (0 : Int) ≤ (dn : Int) := by omega
  have rd1 : (dn : Int) < (lk : Int) := by omega
  go_enter Tryz.func21, Tryz.ntmps21
  go_upto_region 1 with (fail)
  obtain ⟨w1, hw1⟩ : ∃ w1, w1 = (w.alloc (.cells #[.slice Ak lk ck, .slice Ab lk cb, .int .i64 fp, .int .i64 fr, .slice As ls cs] 35)).alloc (.cells #[.int .i64 xo, .int .i64 (dn : Int), .int .i64 xa, .int .i64 xb, .int .i64 xn, .int .i64 xm, .slice Ax lx cx] 31) := ⟨_, rfl⟩
  obtain ⟨h5, hh5⟩ : ∃ h5, w.heap.size = h5 := ⟨_, rfl⟩
  have HX0 := hide (show Box w1 (h5) #[.slice Ak lk ck, .slice Ab lk cb, .int .i64 fp, .int .i64 fr, .slice As ls cs] 35 by rw [hw1, ← hh5]; have t := Box.new w #[.slice Ak lk ck, .slice Ab lk cb, .int .i64 fp, .int .i64 fr, .slice As ls cs] 35; (try simp only [World.size_alloc] at t); exact (t.alloc _))
  have HX1 := hide (show Box w1 (h5 + 1) #[.int .i64 xo, .int .i64 (dn : Int), .int .i64 xa, .int .i64 xb, .int .i64 xn, .int .i64 xm, .slice Ax lx cx] 31 by rw [hw1, ← hh5]; have t := Box.new (w.alloc (.cells #[.slice Ak lk ck, .slice Ab lk cb, .int .i64 fp, .int .i64 fr, .slice As ls cs] 35)) #[.int .i64 xo, .int .i64 (dn : Int), .int .i64 xa, .int .i64 xb, .int .i64 xn, .int .i64 xm, .slice Ax lx cx] 31; (try simp only [World.size_alloc] at t); exact t)
  have HB1 := hide (show Below w.heap.size w w1 by rw [hw1]; exact (((Below.refl _ _).alloc (Nat.le_refl _) _).alloc (by simp only [World.size_alloc]; omega) _))
  have w1s := HB1.out.size
  have w1z := hide (show w1.heap.size = h5 + 1 + 1 by rw [hw1, ← hh5]; simp only [World.size_alloc])
  have HK0 := hide (fun (W : World) (hW : Below w1.heap.size w1 W) => (And.intro ((HX0.out.below hW).cell 0 (v := .slice Ak lk ck) rfl).1 (And.intro ((HX0.out.below hW).cell 1 (v := .slice Ab lk cb) rfl).1 (And.intro ((HX0.out.below hW).cell 2 (v := .int .i64 fp) rfl).1 (And.intro ((HX0.out.below hW).cell 3 (v := .int .i64 fr) rfl).1 ((HX0.out.below hW).cell 4 (v := .slice As ls cs) rfl).1)))))
  have lHX0 := HX0.out.lt
  have HK1 := hide (fun (W : World) (hW : Below w1.heap.size w1 W) => (And.intro ((HX1.out.below hW).cell 0 (v := .int .i64 xo) rfl).1 (And.intro ((HX1.out.below hW).cell 1 (v := .int .i64 (dn : Int)) rfl).1 (And.intro ((HX1.out.below hW).cell 2 (v := .int .i64 xa) rfl).1 (And.intro ((HX1.out.below hW).cell 3 (v := .int .i64 xb) rfl).1 (And.intro ((HX1.out.below hW).cell 4 (v := .int .i64 xn) rfl).1 (And.intro ((HX1.out.below hW).cell 5 (v := .int .i64 xm) rfl).1 ((HX1.out.below hW).cell 6 (v := .slice Ax lx cx) rfl).1)))))))
  have lHX1 := HX1.out.lt
  have h5g : w.heap.size ≤ h5 := by omega
  rw [← hw1, hh5]
  clear hw1 hh5
  have HBB := hide (show B ≤ w1.heap.size by omega)
  obtain ⟨x0, x1, x2, x3, x4, x5, x6⟩ := HK1.out w1 (Below.refl _ _)
  go_upto_region 4 with (go_at_call 23; (with_reducible refine (HSE.out _).mono ?_); rintro e w2 ⟨rfl, hb2⟩; have HC2 := hide hb2; have HB2 := hide (HB1.out.trans (hb2.mono HB1.out.size)); clear hb2)
  clear x0 x1 x2 x3 x4 x5 x6
  obtain ⟨x0, x1, x2, x3, x4, x5, x6⟩ := HK1.out w2 HC2.out
  have l12 := HC2.out.size
  have lx2 : h5 + 1 < w2.heap.size := by omega
  go_cut [12] from 25 to 33 (fun v wx => v = .bool sh ∧ wx = w2)
  case first =>
    by_cases ho : xo = 16
    case pos =>
      subst ho
      obtain rfl : sh = ha := by rw [← HSH.out]; simp
      clear HSH
      go_wp2_with (go_at_call 22; (with_reducible refine (HHA.out w2 HB2.out).mono ?_); rintro e w' ⟨rfl, rfl⟩)
      go_meet
      exact ⟨rfl, rfl⟩
    have hob : (xo == 16) = false := by simp [ho]
    have hob2 : (xo != 16) = true := by simp [ho]
    obtain rfl : sh = true := by rw [← HSH.out, hob]; rfl
    clear HSH
    go_wp2_with fail
    go_meet
    exact ⟨rfl, rfl⟩
  case rest =>
    obtain ⟨rfl, rfl⟩ := hcut
    obtain ⟨w2, rfl⟩ : ∃ w2, w2 = wc := ⟨_, rfl⟩
    clear HSH x0 x1 x2 x3 x4 x5 x6 lx2
    have HU0 := hide (show SetV w2 v2 (DF 0) from by rw [HF0.out]; exact HS2.out w2 HB2.out)
    go_wp2
    go_loopw [3, 13] (fun v3 i wr => ∃ (k : Nat) (u : Value), u = v3 ∧ k ≤ lk ∧ i = .int .i64 k ∧ Hid (SetV wr u (DF k)) ∧ Below w2.heap.size w2 wr) (fun _ i _ => lk - (intOf i).toNat)
    case atStart => exact ⟨0, _, rfl, Nat.zero_le _, rfl, HU0, Below.refl _ _⟩
    case round =>
      obtain ⟨k, u, rfl, hkl, rfl, HU, hb⟩ := hrel
      obtain ⟨wo, rfl⟩ : ∃ wo, wo = wr := ⟨_, rfl⟩
      have HC3 := hide hb
      have HD3 := hide (HC2.out.trans (hb.mono HC2.out.size))
      have HW3 := hide (HB2.out.trans (hb.mono HB2.out.size))
      have lwo := hb.size
      obtain ⟨c0, c1, c2, c3, c4⟩ := HK0.out wo HD3.out
      have l5 : h5 < wo.heap.size := by omega
      clear hb HU0
      by_cases hlt : k < lk
      case neg =>
        obtain rfl : lk = k := by omega
        have hnl : ¬ ((lk : Int) < (lk : Int)) := by omega
        have HDW := hide (show Calls Tryz.prog 56 #[u, .slice (some ⟨wo.heap.size, 0, none⟩) 1 1] (wo.alloc (.cells #[.int .i64 (dn : Int)] 3)) fun e w' => ∃ r, e = .returned r ∧ SetV w' r TT ∧ Below (wo.alloc (.cells #[.int .i64 (dn : Int)] 3)).heap.size (wo.alloc (.cells #[.int .i64 (dn : Int)] 3)) w' from by
          have t := HDL.out u dn (by omega) (DF lk) wo HU.out (HFL.out lk) (HF64.out lk)
          rw [HTE.out] at t
          exact t)
        have HA1 := hide (below1 wo (.cells #[.int .i64 (dn : Int)] 3))
        go_upto_region 11 with (go_at_call 56; (with_reducible refine (HDW.out).mono ?_); rintro e w4 ⟨r, rfl, hr, hb4⟩; have hq : Below wo.heap.size wo w4 := HA1.out.trans (hb4.mono HA1.out.size); have HC4 := hide (HC3.out.trans (hq.mono HC3.out.size)); have HRV := hide hr; clear hr hb4 hq)
        have HD4 := hide (HC2.out.trans (HC4.out.mono HC2.out.size))
        have HW4 := hide (HB2.out.trans (HC4.out.mono HB2.out.size))
        have lw4 := HC4.out.size
        clear c0 c1 c2 c3 c4
        obtain ⟨c0, c1, c2, c3, c4⟩ := HK0.out w4 HD4.out
        have l54 : h5 < w4.heap.size := by omega
        obtain ⟨bk, ok, hAk, hbk, ek, -⟩ := (HIK.out w4 HW4.out).1.get HKD.out
        subst hAk
        have lbk : bk < w4.heap.size := by have := HBB.out; omega
        have HA4 := hide (below1 w4 (.cells #[.int .i64 (dn : Int)] 3))
        by_cases hnt : nd = true
        case neg =>
          obtain rfl : nd = false := Bool.eq_false_iff.2 hnt
          by_cases hk2 : kd = 2
          case neg =>
            have hkb : (kd == 2) = false := by simp [hk2]
            clear HND
            have HG1 := hide (HWI1.out w4 HW4.out)
            go_wp2_with (first
              | (go_at_call 55; (with_reducible refine (HNE.out r _ w7 HRV7.out (by have := HTL.out; omega) HTT.out).mono ?_); rintro e w8 ⟨r8, rfl, hr8, hb8⟩; have HB8 := hide (HB7.out.trans (hb8.mono HB7.out.size)); have HJ8 := hide (HJ7.out.below hb8); have HRV8 := hide hr8; clear hr8 hb8)
              | (go_at_call 57; (with_reducible refine (HG1.out).mono ?_); rintro e w7 ⟨r7, rfl, hr7, hb7⟩; have hq7 : Below w4.heap.size w4 w7 := HA4.out.trans (hb7.mono HA4.out.size); have HB7 := hide (HW4.out.trans (hq7.mono HW4.out.size)); have HRV7 := hide (HRV.out.below hq7); have HJ7 := hide hr7; clear hr7 hb7 hq7))
            go_ret2
            exact ⟨_, _, rfl, HJ8.out, HRV8.out, HB8.out⟩
          subst hk2
          obtain rfl : sh = false := by have t := HND.out; simpa using t.symm
          clear HND
          have HG1 := hide (HWI1.out w4 HW4.out)
          go_wp2_with (first
            | (go_at_call 55; (with_reducible refine (HNE.out r _ w7 HRV7.out (by have := HTL.out; omega) HTT.out).mono ?_); rintro e w8 ⟨r8, rfl, hr8, hb8⟩; have HB8 := hide (HB7.out.trans (hb8.mono HB7.out.size)); have HJ8 := hide (HJ7.out.below hb8); have HRV8 := hide hr8; clear hr8 hb8)
            | (go_at_call 57; (with_reducible refine (HG1.out).mono ?_); rintro e w7 ⟨r7, rfl, hr7, hb7⟩; have hq7 : Below w4.heap.size w4 w7 := HA4.out.trans (hb7.mono HA4.out.size); have HB7 := hide (HW4.out.trans (hq7.mono HW4.out.size)); have HRV7 := hide (HRV.out.below hq7); have HJ7 := hide hr7; clear hr7 hb7 hq7))
          go_ret2
          exact ⟨_, _, rfl, HJ8.out, HRV8.out, HB8.out⟩
        subst hnt
        obtain ⟨rfl, rfl⟩ : kd = 2 ∧ sh = true := by have t := HND.out; simpa using t.symm
        clear HND
        have HW5 := hide (HWI2.out r TT w4 HRV.out HTL.out HTW.out)
        go_upto_region 13 with (go_at_call 57; (with_reducible refine (HW5.out).mono ?_); rintro e w5 ⟨r5, rfl, hr5, hb5⟩; have hq5 : Below w4.heap.size w4 w5 := HA4.out.trans (hb5.mono HA4.out.size); have HC5 := hide (HC4.out.trans (hq5.mono HC4.out.size)); have HRV5 := hide hr5; clear hr5 hb5 hq5)
        have HD5 := hide (HC2.out.trans (HC5.out.mono HC2.out.size))
        have HW6 := hide (HB2.out.trans (HC5.out.mono HB2.out.size))
        have HA5 := hide (below1 w5 (.cells #[.int .i64 (dn : Int)] 3))
        have HG1 := hide (HWI1.out w5 HW6.out)
        go_wp2_with (first
          | (go_at_call 55; (with_reducible refine (HNE.out r5 _ w7 HRV7.out (by have := HJL.out; omega) HJT.out).mono ?_); rintro e w8 ⟨r8, rfl, hr8, hb8⟩; have HB8 := hide (HB7.out.trans (hb8.mono HB7.out.size)); have HJ8 := hide (HJ7.out.below hb8); have HRV8 := hide hr8; clear hr8 hb8)
          | (go_at_call 57; (with_reducible refine (HG1.out).mono ?_); rintro e w7 ⟨r7, rfl, hr7, hb7⟩; have hq7 : Below w5.heap.size w5 w7 := HA5.out.trans (hb7.mono HA5.out.size); have HB7 := hide (HW6.out.trans (hq7.mono HW6.out.size)); have HRV7 := hide (HRV5.out.below hq7); have HJ7 := hide hr7; clear hr7 hb7 hq7))
        go_ret2
        exact ⟨_, _, rfl, HJ8.out, HRV8.out, HB8.out⟩
      obtain ⟨y, b, hy, hbb⟩ := HKQ.out k hlt
      obtain ⟨bk, ok, hAk, hbk, ek, -⟩ := (HIK.out wo HW3.out).1.get hy
      subst hAk
      obtain ⟨bb, ob, hAb, hbb2, eb, -⟩ := (HIK.out wo HW3.out).2.1.get hbb
      subst hAb
      have lbk : bk < wo.heap.size := by have := HBB.out; omega
      have lbb : bb < wo.heap.size := by have := HBB.out; omega
      have rk0 : (0 : Int) ≤ (k : Int) := by omega
      have rk1 : (k : Int) < (lk : Int) := by omega
      have HFY1 := hide (fun (h1 : y = 2) (h2 : b = (dn : Int)) => HFY.out k ⟨by rw [hy, h1], by rw [hbb, h2]⟩)
      have HFN1 := hide (fun (h : ¬ (y = 2 ∧ b = (dn : Int))) => HFN.out k (by rw [hy, hbb]; exact fun h2 => h ⟨Option.some.inj h2.1, Option.some.inj h2.2⟩))
      clear hy hbb
      by_cases hk2 : y = 2
      case neg =>
        have hkb : (y == 2) = false := by simp [hk2]
        go_wp2
        go_roundw
        case rel => exact ⟨k + 1, _, rfl, by omega, by go_num, hide (by rw [HFN1.out (fun h => hk2 h.1)]; exact HU.out), HC3.out⟩
        case measure => simp [intOf]; omega
      subst hk2
      by_cases hb2 : b = (dn : Int)
      case neg =>
        have hbb2' : (b == (dn : Int)) = false := by simp [hb2]
        go_wp2
        go_roundw
        case rel => exact ⟨k + 1, _, rfl, by omega, by go_num, hide (by rw [HFN1.out (fun h => hb2 h.2)]; exact HU.out), HC3.out⟩
        case measure => simp [intOf]; omega
      subst hb2
      have HDW := hide (HDL.out u k (by omega) (DF k) wo HU.out (HFL.out k) (HF64.out k))
      have HA1 := hide (below1 wo (.cells #[.int .i64 (k : Int)] 3))
      go_wp2_with (go_at_call 56; (with_reducible refine (HDW.out).mono ?_); rintro e w4 ⟨r, rfl, hr, hb4⟩; have hq : Below wo.heap.size wo w4 := HA1.out.trans (hb4.mono HA1.out.size); have HC4 := hide (HC3.out.trans (hq.mono HC3.out.size)); have HRV := hide hr; clear hr hb4 hq)
      go_roundw
      case rel => exact ⟨k + 1, _, rfl, by omega, by go_num, hide (by rw [HFY1.out (by first | rfl | trivial) (by first | rfl | trivial)]; exact HRV.out), HC4.out⟩
      case measure => simp [intOf]; omega
theorem rstep_any (vk vb vs : Value) (f : FunV) (x : InsV) (va : Value) (w : World) (B : Nat) (hB : B ≤ w.heap.size) (hi : FunI w (· < B) vk vb vs f) (hx : InsI w (· < B) va x) (v1 v2 : Value) (s : KSt) (hs : GoodK f s) (h1 : SetV w v1 s.1) (h2 : SetV w v2 s.2) (hk : f.kinds.length ≤ 48) (hbl : f.base.length = f.kinds.length) (hD : DerB f) (hd : hasB4 x.op 68 = true → 0 ≤ x.d ∧ x.d < f.kinds.length) :
    Calls Tryz.prog 21 #[.agg #[vk, vb, .int .i64 f.params, .int .i64 f.result, vs], .agg #[.int .i64 x.op, .int .i64 x.d, .int .i64 x.a, .int .i64 x.b, .int .i64 x.n, .int .i64 x.m, va], v1, v2] w fun e w' => ∃ r1 r2, e = .returned (.tuple #[r1, r2]) ∧ SetV w' r1 (stepW f x s).1 ∧ SetV w' r2 (stepW f x s).2 ∧ Below w.heap.size w w' := by
  cases h68 : hasB4 x.op 68 with
  | false => exact rstep_no vk vb vs f x va w B hB hi hx v1 v2 s hs h1 h2 h68
  | true =>
    obtain ⟨d0, d1⟩ := hd h68
    exact rstep_yes vk vb vs f x va w B hB hi hx v1 v2 s hs h1 h2 h68 x.d.toNat (by omega) (by omega) hk hbl hD
set_option maxHeartbeats 4000000 in
set_option maxRecDepth 100000 in
theorem rblock_any (vk vb vs : Value) (f : FunV) (b : Nat) (hb : b < f.blocks.length) (w : World) (B : Nat) (hB : B ≤ w.heap.size) (hi : FunI w (· < B) vk vb vs f) (v1 v2 : Value) (s : KSt) (hs : GoodK f s) (h1 : SetV w v1 s.1) (h2 : SetV w v2 s.2) (hok : KOk f) (hD : DerB f) :
    Calls Tryz.prog 66 #[.agg #[vk, vb, .int .i64 f.params, .int .i64 f.result, vs], .int .i64 (b : Int), v1, v2] w fun e w' => ∃ r1 r2, e = .returned (.tuple #[r1, r2]) ∧ SetV w' r1 (blkW f b s).1 ∧ SetV w' r2 (blkW f b s).2 ∧ Below w.heap.size w w' := by
  have HIK := hide (fun (W : World) (hW : Below w.heap.size w W) => hi.keep (w := w) (S := (· < B)) (up hW hB) (fun _ h => h))
  obtain ⟨l, hl⟩ : ∃ l, f.blocks[b]? = some l := ⟨_, List.getElem?_eq_getElem hb⟩
  have hlm := List.mem_of_getElem? hl
  have hblk : blkW f b s = thrW f l s := by unfold blkW; rw [hl]
  rw [hblk]
  have HST := hide (fun (x : InsV) (hx : x ∈ l) (va : Value) (W : World) (hW : Below w.heap.size w W) (hxi : InsI W (· < B) va x) (u1 u2 : Value) (t : KSt) (ht : GoodK f t) (g1 : SetV W u1 t.1) (g2 : SetV W u2 t.2) => rstep_any vk vb vs f x va W B (by have := hW.size; omega) (HIK.out W hW) hxi u1 u2 t ht g1 g2 hok.kinds hok.bl hD (hok.sets l hlm x hx))
  have HSG := hide (fun (x : InsV) (hx : x ∈ l) (t : KSt) (ht : GoodK f t) => stepW_good ht hok.kinds (hok.sets l hlm x hx))
  obtain ⟨TH, hTH⟩ : ∃ TH : Nat → KSt, (fun k => thrW f (l.take k) s) = TH := ⟨_, rfl⟩
  have hTH2 : ∀ k, thrW f (l.take k) s = TH k := fun k => by rw [← hTH]
  have HTS := hide (fun (k : Nat) (x : InsV) (hx : l[k]? = some x) => (show TH (k + 1) = stepW f x (TH k) from by rw [← hTH2, ← hTH2, List.take_add_one, hx]; exact thrW_snoc f (l.take k) x s))
  have HT0 := hide (show TH 0 = s from by rw [← hTH2, List.take_zero]; rfl)
  have HTL := hide (show TH l.length = thrW f l s from by rw [← hTH2, List.take_length])
  have HGS := hide hs
  have HS1 := hide (fun (W : World) (hW : Below w.heap.size w W) => h1.below hW)
  have HS2 := hide (fun (W : World) (hW : Below w.heap.size w W) => h2.below hW)
  obtain ⟨Ak, ck, rfl, hck, hmk⟩ := hi.1.open'
  obtain ⟨Ab, cb, rfl, hcb, hmb⟩ := hi.2.1.open'
  obtain ⟨As, cs, rfl, hcs, hms⟩ := hi.2.2.1.open'
  rw [← HTL.out]
  obtain ⟨bb, ob, Al, cl, hAs, hbb, d0, hli⟩ := hi.2.2.1.get hl
  subst hAs
  have hm4 : l.length ≤ 9223372036854775807 := by obtain ⟨A, c, -, h1, h2⟩ := hli.open'; omega
  have hbk40 := hok.flow.1
  obtain ⟨ll, hll⟩ : ∃ ll, l.length = ll := ⟨_, rfl⟩
  have HLL := hide hll
  have HLI := hide (fun (W : World) (hW : Below w.heap.size w W) => hli.keep (S' := (· < B)) (up hW hB) (fun _ h => h))
  rw [hll] at HLI hm4 d0 ⊢
  clear hi hs h1 h2 hok hTH hTH2 hblk hli hl hll
  generalize f.kinds.length = lk, f.base.length = lb, f.blocks.length = ls, f.params = fp, f.result = fr at *
  have rb0 : (0 : Int) ≤ (b : Int) := by omega
  have rb1 : (b : Int) < (ls : Int) := by omega
  go_enter Tryz.func66, Tryz.ntmps66
  go_upto_region 1 with (fail)
  obtain ⟨w1, hw1⟩ : ∃ w1, w1 = w.alloc (.cells #[.slice Ak lk ck, .slice Ab lb cb, .int .i64 fp, .int .i64 fr, .slice (some ⟨bb, ob, none⟩) ls cs] 35) := ⟨_, rfl⟩
  obtain ⟨h5, hh5⟩ : ∃ h5, w.heap.size = h5 := ⟨_, rfl⟩
  have HX0 := hide (show Box w1 (h5) #[.slice Ak lk ck, .slice Ab lb cb, .int .i64 fp, .int .i64 fr, .slice (some ⟨bb, ob, none⟩) ls cs] 35 by rw [hw1, ← hh5]; have t := Box.new w #[.slice Ak lk ck, .slice Ab lb cb, .int .i64 fp, .int .i64 fr, .slice (some ⟨bb, ob, none⟩) ls cs] 35; (try simp only [World.size_alloc] at t); exact t)
  have HB1 := hide (show Below w.heap.size w w1 by rw [hw1]; exact ((Below.refl _ _).alloc (Nat.le_refl _) _))
  have w1s := HB1.out.size
  have w1z := hide (show w1.heap.size = h5 + 1 by rw [hw1, ← hh5]; simp only [World.size_alloc])
  have HK0 := hide (fun (W : World) (hW : Below w1.heap.size w1 W) => (And.intro ((HX0.out.below hW).cell 0 (v := .slice Ak lk ck) rfl).1 (And.intro ((HX0.out.below hW).cell 1 (v := .slice Ab lb cb) rfl).1 (And.intro ((HX0.out.below hW).cell 2 (v := .int .i64 fp) rfl).1 (And.intro ((HX0.out.below hW).cell 3 (v := .int .i64 fr) rfl).1 ((HX0.out.below hW).cell 4 (v := .slice (some ⟨bb, ob, none⟩) ls cs) rfl).1)))))
  have lHX0 := HX0.out.lt
  have h5g : w.heap.size ≤ h5 := by omega
  rw [← hw1, hh5]
  clear hw1 hh5
  obtain ⟨c0, c1, c2, c3, c4⟩ := HK0.out w1 (Below.refl _ _)
  have d1 := (HB1.out.cell (p := ⟨bb, ob + b, none⟩) (show bb < w.heap.size by omega)).trans d0
  have lbb : bb < w1.heap.size := by omega
  have HU1 := hide (show SetV w1 v1 (TH 0).1 from by rw [HT0.out]; exact HS1.out w1 HB1.out)
  have HU2 := hide (show SetV w1 v2 (TH 0).2 from by rw [HT0.out]; exact HS2.out w1 HB1.out)
  have HG0 := hide (show GoodK f (TH 0) from by rw [HT0.out]; exact HGS.out)
  go_wp2
  clear c0 c1 c2 c3 c4 d1 d0
  go_loopw [2, 3, 11] (fun a1 a2 i wr => ∃ (k3 : Nat) (u1 u2 : Value), u1 = a1 ∧ u2 = a2 ∧ k3 ≤ ll ∧ i = .int .i64 k3 ∧ Hid (SetV wr u1 (TH k3).1) ∧ Hid (SetV wr u2 (TH k3).2) ∧ Hid (GoodK f (TH k3)) ∧ Below w1.heap.size w1 wr) (fun _ _ i _ => ll - (intOf i).toNat)
  case atStart => exact ⟨0, _, _, rfl, rfl, Nat.zero_le _, rfl, HU1, HU2, HG0, Below.refl _ _⟩
  case round =>
    obtain ⟨k3, u1, u2, rfl, rfl, hk3, rfl, HU1', HU2', HG, hb⟩ := hrel
    obtain ⟨wo, rfl⟩ : ∃ wo, wo = wr := ⟨_, rfl⟩
    have HC3 := hide hb
    have HW3 := hide (HB1.out.trans (hb.mono HB1.out.size))
    have lwo := hb.size
    clear hb HU1 HU2 HG0
    by_cases hlt : k3 < ll
    case neg =>
      obtain rfl : ll = k3 := by omega
      have hnl : ¬ ((ll : Int) < (ll : Int)) := by omega
      go_wp2
      go_ret2
      exact ⟨_, _, rfl, HU1'.out, HU2'.out, HW3.out⟩
    obtain ⟨x, hx⟩ : ∃ x, l[k3]? = some x := ⟨_, List.getElem?_eq_getElem (by have := HLL.out; omega)⟩
    obtain ⟨bx, ox, Ay, cy, hAl, hbx, ⟨z0, z1, z2, z3, z4, z5, z6⟩, hxi⟩ := (HLI.out wo HW3.out).get hx
    subst hAl
    have hxm := List.mem_of_getElem? hx
    have HSX := hide (HST.out x hxm (.slice Ay x.args.length cy) wo.drew (below_drewN HW3.out 1) hxi u1 u2 (TH k3) HG.out HU1'.out HU2'.out)
    have HSN := hide (HSG.out x hxm (TH k3) HG.out)
    have hTE := HTS.out k3 x hx
    rw [← hTE] at HSX HSN
    clear hxi hx hxm hTE
    generalize x.args.length = ly, x.op = yo, x.d = yd, x.a = ya, x.b = yb, x.n = yn, x.m = ym at *
    have lbx : bx < wo.heap.size := by omega
    have lh5 : h5 < wo.heap.size := by omega
    have rk0 : (0 : Int) ≤ (k3 : Int) := by omega
    have rk1 : (k3 : Int) < (ll : Int) := by omega
    have HQF := hide (fun (W : World) (hW : Below wo.heap.size wo W) => HK0.out W (HC3.out.trans (hW.mono HC3.out.size)))
    have HQX := hide (fun (W : World) (hW : Below wo.heap.size wo W) => And.intro ((hW.cell (p := ⟨bx, ox + k3 * 7, none⟩) lbx).trans z0) (And.intro ((hW.cell (p := ⟨bx, ox + k3 * 7 + 1, none⟩) lbx).trans z1) (And.intro ((hW.cell (p := ⟨bx, ox + k3 * 7 + 2, none⟩) lbx).trans z2) (And.intro ((hW.cell (p := ⟨bx, ox + k3 * 7 + 3, none⟩) lbx).trans z3) (And.intro ((hW.cell (p := ⟨bx, ox + k3 * 7 + 4, none⟩) lbx).trans z4) (And.intro ((hW.cell (p := ⟨bx, ox + k3 * 7 + 5, none⟩) lbx).trans z5) ((hW.cell (p := ⟨bx, ox + k3 * 7 + 6, none⟩) lbx).trans z6)))))))
    obtain ⟨c0, c1, c2, c3, c4⟩ := HQF.out wo (Below.refl _ _)
    go_wp2_with fail
    go_region_held3 (fun w' => (w'.cell? ⟨h5, 0, none⟩ = some (.slice Ak lk ck) ∧ w'.cell? ⟨h5, 1, none⟩ = some (.slice Ab lb cb) ∧ w'.cell? ⟨h5, 2, none⟩ = some (.int .i64 fp) ∧ w'.cell? ⟨h5, 3, none⟩ = some (.int .i64 fr) ∧ w'.cell? ⟨h5, 4, none⟩ = some (.slice (some ⟨bb, ob, none⟩) ls cs)) ∧ w'.cell? ⟨bx, ox + k3 * 7, none⟩ = some (.int .i64 yo) ∧ w'.cell? ⟨bx, ox + k3 * 7 + 1, none⟩ = some (.int .i64 yd) ∧ w'.cell? ⟨bx, ox + k3 * 7 + 2, none⟩ = some (.int .i64 ya) ∧ w'.cell? ⟨bx, ox + k3 * 7 + 3, none⟩ = some (.int .i64 yb) ∧ w'.cell? ⟨bx, ox + k3 * 7 + 4, none⟩ = some (.int .i64 yn) ∧ w'.cell? ⟨bx, ox + k3 * 7 + 5, none⟩ = some (.int .i64 ym) ∧ w'.cell? ⟨bx, ox + k3 * 7 + 6, none⟩ = some (.slice Ay ly cy)) (first | go_keep | (exact q8))
      (first
        | (go_at_call 21; refine (HSX.out).mono ?_; rintro e w8 ⟨r1, r2, rfl, hr1, hr2, hb8⟩; have hb8' : Below wo.heap.size wo w8 := ⟨hb8.os, hb8.tape, hb8.output, hb8.size, hb8.block⟩; have q8 := And.intro (HQF.out w8 hb8') (HQX.out w8 hb8'); have HB8 := hide hb8'; have HR1 := hide hr1; have HR2 := hide hr2; clear hb8 hb8' hr1 hr2))
    go_wp2
    go_roundw
    case rel => exact ⟨k3 + 1, _, _, rfl, rfl, by omega, by go_num, HR1, HR2, HSN, HC3.out.trans (HB8.out.mono HC3.out.size)⟩
    case measure => simp [intOf]; omega
/-- All variables as far as k. -/
def allW : Nat → List Nat
  | 0 => []
  | k + 1 => joinL [allW k, ofL [(k : Int)]]
theorem allW_tidy : ∀ k, Tidy (allW k)
  | 0 => tidy_nil
  | k + 1 => joinL_tidy' _
theorem allW_w64 : ∀ k, W64 (allW k)
  | 0 => W64.nil
  | k + 1 => by rw [allW, with_both]; exact (putsL_w64 (allW_w64 k) _).neat
theorem allW_len : ∀ k, (allW k).length ≤ 64
  | 0 => by simp [allW]
  | k + 1 => by rw [allW, with_both]; exact Nat.le_trans (neat_le _) (Nat.le_trans (putsL_len _ _) (by have := allW_len k; omega))
theorem hasB_allW (m : Nat) : ∀ k, k ≤ 4096 → (hasB (allW k) (m : Int) = true ↔ m < k)
  | 0, _ => by simp [allW, hasB_nil]
  | k + 1, hk => by
    rw [allW, hasB_with, Bool.or_eq_true, hasB_allW m k (by omega), decide_eq_true_eq, List.mem_singleton]
    omega
set_option maxHeartbeats 2000000 in
set_option maxRecDepth 100000 in
theorem rall_any (vk vb vs : Value) (f : FunV) (w : World) (B : Nat) (hB : B ≤ w.heap.size) (hi : FunI w (· < B) vk vb vs f) (hk : f.kinds.length ≤ 48) :
    Calls Tryz.prog 64 #[.agg #[vk, vb, .int .i64 f.params, .int .i64 f.result, vs]] w fun e w' => ∃ r, e = .returned r ∧ SetV w' r (allW f.kinds.length) ∧ Below w.heap.size w w' := by
  have HWI := hide (fun (v : Value) (k : Nat) (hk : k ≤ 48) (W : World) (hv : SetV W v (allW k)) => rwithV (hv.below (below1 W (.cells #[.int .i64 (k : Int)] 3))) (by have := allW_len k; omega) (allW_w64 k) (some ⟨W.heap.size, 0, none⟩) 1 1 [(k : Int)] (one_lit W (k : Int)) rfl (by omega) (fun y hy => by obtain rfl := List.mem_singleton.1 hy; unfold i64R; omega))
  have HWS := hide (fun k => (show joinL [allW k, ofL [(k : Int)]] = allW (k + 1) from rfl))
  obtain ⟨Ak, ck, rfl, hck, hmk⟩ := hi.1.open'
  obtain ⟨Ab, cb, rfl, hcb, hmb⟩ := hi.2.1.open'
  obtain ⟨As, cs, rfl, hcs, hms⟩ := hi.2.2.1.open'
  generalize f.kinds.length = lk, f.base.length = lb, f.blocks.length = ls, f.params = fp, f.result = fr at *
  clear hi
  go_enter Tryz.func64, Tryz.ntmps64
  go_upto_region 1 with (fail)
  obtain ⟨w1, hw1⟩ : ∃ w1, w1 = w.alloc (.cells #[.slice Ak lk ck, .slice Ab lb cb, .int .i64 fp, .int .i64 fr, .slice As ls cs] 35) := ⟨_, rfl⟩
  obtain ⟨h5, hh5⟩ : ∃ h5, w.heap.size = h5 := ⟨_, rfl⟩
  have HX1 := hide (show Box w1 h5 #[.slice Ak lk ck, .slice Ab lb cb, .int .i64 fp, .int .i64 fr, .slice As ls cs] 35 by rw [hw1, ← hh5]; exact Box.new w _ _)
  have HB1 := hide (show Below w.heap.size w w1 by rw [hw1]; exact alloc1 w _)
  have HK1 := hide (fun (W : World) (hW : Below w1.heap.size w1 W) => And.intro ((HX1.out.below hW).cell 0 (v := .slice Ak lk ck) rfl).1 (And.intro ((HX1.out.below hW).cell 1 (v := .slice Ab lb cb) rfl).1 (And.intro ((HX1.out.below hW).cell 2 (v := .int .i64 fp) rfl).1 (And.intro ((HX1.out.below hW).cell 3 (v := .int .i64 fr) rfl).1 ((HX1.out.below hW).cell 4 (v := .slice As ls cs) rfl).1))))
  have HUP := hide (fun (W : World) (hW : Below w1.heap.size w1 W) => HB1.out.trans (hW.mono HB1.out.size))
  have l1 := HX1.out.lt
  have hw1s := HB1.out.size
  rw [← hw1, hh5]
  clear hw1 hh5
  obtain ⟨c0, c1, c2, c3, c4⟩ := HK1.out w1 (Below.refl _ _)
  have HU0 := hide (show SetV w1 (.slice none 0 0) (allW 0) from ⟨none, 0, rfl, Nat.le_refl _, by omega, Sl.nil _ _ _ _⟩)
  clear c0 c1 c2 c3 c4
  go_wp2
  go_loopw [3, 4] (fun a i wr => ∃ (k : Nat) (u : Value), u = a ∧ k ≤ lk ∧ i = .int .i64 k ∧ Hid (SetV wr u (allW k)) ∧ Below w1.heap.size w1 wr) (fun _ i _ => lk - (intOf i).toNat)
  case atStart => exact ⟨0, _, rfl, Nat.zero_le _, rfl, HU0, Below.refl _ _⟩
  case round =>
    obtain ⟨k, u, rfl, hkl, rfl, HU, hb⟩ := hrel
    obtain ⟨wo, rfl⟩ : ∃ wo, wo = wr := ⟨_, rfl⟩
    have HC3 := hide hb
    obtain ⟨c0, c1, c2, c3, c4⟩ := HK1.out wo hb
    have lwo := hb.size
    have lh5 : h5 < wo.heap.size := by omega
    clear hb HU0
    by_cases hlt : k < lk
    case neg =>
      obtain rfl : lk = k := by omega
      have hnl : ¬ ((lk : Int) < (lk : Int)) := by omega
      go_wp2
      go_ret
      exact ⟨_, rfl, HU.out, HB1.out.trans (HC3.out.mono HB1.out.size)⟩
    have HWI2 := hide (HWI.out u k (by omega) wo HU.out)
    rw [HWS.out] at HWI2
    have HA1 := hide (below1 wo (.cells #[.int .i64 (k : Int)] 3))
    have rk1 : (k : Int) < (lk : Int) := by omega
    go_wp2_with (go_at_call 57; (with_reducible refine (HWI2.out).mono ?_); rintro e w4 ⟨r, rfl, hr, hb4⟩; have hq : Below wo.heap.size wo w4 := HA1.out.trans (hb4.mono HA1.out.size); have HC4 := hide (HC3.out.trans (hq.mono HC3.out.size)); have HRV := hide hr; clear hr hb4 hq)
    go_roundw
    case rel => exact ⟨k + 1, _, rfl, by omega, by go_num, HRV, HC4.out⟩
    case measure => simp [intOf]; omega
theorem mem_edges {f : FunV} {e : Int × Int} : e ∈ edgesN f ↔ ∃ b : Nat, b < f.blocks.length ∧ e.1 = (b : Int) ∧ e.2 ∈ nxt f b := by
  unfold edgesN edgesTo
  simp only [List.mem_flatMap, List.mem_range, List.mem_map]
  constructor
  · rintro ⟨b, hb, c, hc, rfl⟩
    exact ⟨b, hb, rfl, hc⟩
  · rintro ⟨b, hb, h1, h2⟩
    exact ⟨b, hb, e.2, h2, by rw [← h1]⟩
theorem allW_sem {f : FunV} (hk : f.kinds.length ≤ 48) {a b : Nat} (ha : a ≤ f.kinds.length) (hb : b ≤ f.kinds.length) : GoodK f (allW a, allW b) where
  t1 := allW_tidy a
  t2 := allW_tidy b
  w1 := allW_w64 a
  w2 := allW_w64 b
  l1 := allW_len a
  l2 := allW_len b
  bnd := fun k m h => by
    cases k
    · have := (hasB_allW m a (by omega)).1 ((semK_f (allW a, allW b) m).1 h); omega
    · have := (hasB_allW m b (by omega)).1 ((semK_t (allW a, allW b) m).1 h); omega
/-- The states under way. -/
structure SI (f : FunV) (σ : Nat → KSt) : Prop where
  good : ∀ b, GoodK f (σ b)
  none : ∀ b : Nat, ¬ Pth f 0 (b : Int) → σ b = ([], [])
  zero : leS (semK (σ 0)) (kIni f)
  above : ∀ b : Nat, Pth f 0 (b : Int) → leS (kAt f b) (semK (σ b))
def updS (σ : Nat → KSt) (c : Nat) (s : KSt) (b : Nat) : KSt := if b = c then s else σ b
theorem updS_same (σ : Nat → KSt) (c : Nat) (s : KSt) : updS σ c s c = s := by simp [updS]
theorem updS_other {σ : Nat → KSt} {c b : Nat} {s : KSt} (h : b ≠ c) : updS σ c s b = σ b := by simp [updS, h]
theorem updS_self {σ : Nat → KSt} {c : Nat} : updS σ c (σ c) = σ := funext fun b => by
  by_cases h : b = c
  · subst h; rw [updS_same]
  · rw [updS_other h]
/-- The beginning, before anything is lost; R says which blocks are reached. -/
def iniS (f : FunV) (R : Nat → Bool) (b : Nat) : KSt := if b = 0 then (allW f.params.toNat, []) else if R b = true then (allW f.kinds.length, allW f.kinds.length) else ([], [])
theorem iniS_sem0 {f : FunV} (h : KOk f) (k : Bool) (m : Nat) : semK ((allW f.params.toNat, []) : KSt) k m ↔ kIni f k m := by
  have := h.pn
  have := h.pk
  have := h.kinds
  cases k
  · rw [semK_f]
    unfold kIni
    rw [hasB_allW m _ (by omega)]
    constructor
    · intro h1; exact ⟨rfl, by omega, by omega⟩
    · rintro ⟨-, h1, h2⟩; omega
  · rw [semK_t]
    unfold kIni
    simp [hasB_nil]
theorem SI.start {f : FunV} (h : KOk f) {R : Nat → Bool} (hR : ∀ b : Nat, b < f.blocks.length → (R b = true ↔ Pth f 0 (b : Int))) (hRn : ∀ b : Nat, ¬ b < f.blocks.length → R b = false) : SI f (iniS f R) where
  good := fun b => by
    have := h.pn
    have := h.pk
    unfold iniS
    split
    · have g := allW_sem h.kinds (a := f.params.toNat) (b := 0) (by omega) (by omega)
      exact g
    · split
      · exact allW_sem h.kinds (Nat.le_refl _) (Nat.le_refl _)
      · exact GoodK.nil f
  none := fun b hb => by
    unfold iniS
    rw [if_neg (fun e => hb (by subst e; exact Pth.refl _ _)), if_neg]
    intro hr
    by_cases hl : b < f.blocks.length
    · exact hb ((hR b hl).1 hr)
    · rw [hRn b hl] at hr; cases hr
  zero := fun k m hm => (iniS_sem0 h k m).1 (by unfold iniS at hm; rw [if_pos rfl] at hm; exact hm)
  above := fun b hb k m hm => by
    unfold iniS
    split
    · rename_i e
      subst e
      exact (iniS_sem0 h k m).2 ((kAt_sol f).zero k m hm)
    · have hl : b < f.blocks.length := by
        obtain ⟨n, h1, h2⟩ := Pth.nat h.flow (a := 0) hb h.one
        omega
      rw [if_pos ((hR b hl).2 hb)]
      have h1 := ((kAt_sol f).inK h.flow hb).1 k m hm
      have := h.kinds
      cases k
      · exact (semK_f (allW f.kinds.length, allW f.kinds.length) m).2 ((hasB_allW m _ (by omega)).2 h1)
      · exact (semK_t (allW f.kinds.length, allW f.kinds.length) m).2 ((hasB_allW m _ (by omega)).2 h1)
section
variable {f : FunV} {σ : Nat → KSt} {b c : Nat}
/-- What an edge brings. -/
theorem SI.upd (h : SI f σ) (hk : KOk f) (hb : Pth f 0 (b : Int)) (hc : (c : Int) ∈ nxt f b) : SI f (updS σ c (meetK (σ c) (blkW f b (σ b)))) := by
  have hg := blkW_all hk b (h.good b)
  have hl : leS (semK (meetK (σ c) (blkW f b (σ b)))) (semK (σ c)) := fun k m hm => ((semK_meet _ _ k m).1 hm).1
  have hcp : Pth f 0 (c : Int) := hb.trans (Pth.step (by omega) (by rwa [Int.toNat_natCast]))
  refine ⟨fun x => ?_, fun x hx => ?_, ?_, fun x hx => ?_⟩
  · by_cases e : x = c
    · subst e; rw [updS_same]; exact (h.good x).meet hg.1
    · rw [updS_other e]; exact h.good x
  · rw [updS_other (fun e => hx (by rw [e]; exact hcp))]
    exact h.none x hx
  · by_cases e : 0 = c
    · subst e; rw [updS_same]; exact hl.trans h.zero
    · rw [updS_other e]; exact h.zero
  · by_cases e : x = c
    · subst e
      rw [updS_same]
      exact fun k m hm => (semK_meet _ _ k m).2 ⟨h.above x hx k m hm, (hg.2 k m).2 (kBlk_mono b (h.above b hb) k m ((kAt_sol f).edge b x hb hc k m hm))⟩
    · rw [updS_other e]; exact h.above x hx
/-- How much may still be lost. -/
def potT (f : FunV) (σ : Nat → KSt) : Nat := ((List.range f.blocks.length).map (fun b => potS f (some (σ b)))).sum
theorem potT_upd {s : KSt} (hc : c < f.blocks.length) (h : potS f (some s) < potS f (some (σ c))) : potT f (updS σ c s) < potT f σ := by
  unfold potT
  refine sum_map_lt hc (fun x hx => by rw [updS_other hx]) ?_
  rw [updS_same]
  exact h
theorem sum_le_mul {n B : Nat} {g : Nat → Nat} (h : ∀ b, b < n → g b ≤ B) : ((List.range n).map g).sum ≤ n * B := by
  induction n with
  | zero => simp
  | succ n ih =>
    rw [List.range_succ, List.map_append, List.sum_append]
    simp only [List.map_cons, List.map_nil, List.sum_cons, List.sum_nil, Nat.add_zero]
    have := ih (fun b hb => h b (by omega))
    have := h n (by omega)
    rw [Nat.succ_mul]
    omega
theorem potT_le (f : FunV) (σ : Nat → KSt) : potT f σ ≤ f.blocks.length * (2 * f.kinds.length) := sum_le_mul fun b _ => potS_le f (σ b)
/-- Is an edge kept? -/
def Kept (f : FunV) (σ : Nat → KSt) (e : Int × Int) : Prop := ∀ b c : Nat, e = ((b : Int), (c : Int)) → Pth f 0 (b : Int) → leS (semK (σ c)) (kBlk f b (semK (σ b)))
def Rest (f : FunV) (σ : Nat → KSt) : Prop := ∀ e ∈ edgesN f, Kept f σ e
theorem SI.at (h : SI f σ) (hk : KOk f) (hr : Rest f σ) (b : Nat) : KAt f b (σ b) := by
  by_cases hb : Pth f 0 (b : Int)
  · have hs : Sol f (fun b => semK (σ b)) := ⟨h.zero, fun x c hx hc => by
      have hl : x < f.blocks.length := by
        obtain ⟨n, h1, h2⟩ := Pth.nat hk.flow (a := 0) hx hk.one
        omega
      exact hr ((x : Int), (c : Int)) (mem_edges.2 ⟨x, hl, rfl, hc⟩) x c rfl hx⟩
    exact .inl ⟨hb, h.good b, fun k m => ⟨fun hm => hs.le b k m hm, h.above b hb k m⟩⟩
  · exact .inr ⟨hb, h.none b hb⟩
/-- One pass: the first j edges are through; P0 is what might be lost at its beginning. -/
structure PS (f : FunV) (P0 : Nat) (j : Nat) (σ : Nat → KSt) : Prop where
  si : SI f σ
  way : Rest f σ ∨ potT f σ < P0 ∨ (potT f σ = P0 ∧ ∀ e ∈ (edgesN f).take j, Kept f σ e)
theorem PS.start (h : SI f σ) : PS f (potT f σ) 0 σ := ⟨h, .inr (.inr ⟨rfl, by simp⟩)⟩
theorem meet_keep {s t : KSt} (hs : GoodK f s) (ht : GoodK f t) : meetK t s = t ↔ leS (semK t) (semK s) := by
  constructor
  · intro e k m h
    have h2 : semK (meetK t s) k m := e.symm ▸ h
    exact ((semK_meet _ _ k m).1 h2).2
  · intro h
    exact (ht.meet hs).ext ht fun k m => ⟨fun h2 => ((semK_meet _ _ k m).1 h2).1, fun h2 => (semK_meet _ _ k m).2 ⟨h2, h k m h2⟩⟩
theorem PS.skip {P0 j : Nat} (h : PS f P0 j σ) (he : (edgesN f)[j]? = some ((b : Int), (c : Int))) (hb : ¬ Pth f 0 (b : Int)) : PS f P0 (j + 1) σ := by
  refine ⟨h.si, ?_⟩
  rcases h.way with h1 | h1 | ⟨h1, h2⟩
  · exact .inl h1
  · exact .inr (.inl h1)
  · refine .inr (.inr ⟨h1, fun e hm => ?_⟩)
    rw [List.take_add_one, he] at hm
    simp only [Option.toList_some, List.mem_append, List.mem_singleton] at hm
    rcases hm with hm | rfl
    · exact h2 e hm
    · intro b' c' e2 hp
      injection e2 with e3 e4
      obtain rfl : b = b' := by omega
      exact absurd hp hb
theorem PS.step {P0 j : Nat} (h : PS f P0 j σ) (hk : KOk f) (he : (edgesN f)[j]? = some ((b : Int), (c : Int))) (hb : Pth f 0 (b : Int)) : PS f P0 (j + 1) (updS σ c (meetK (σ c) (blkW f b (σ b)))) := by
  have hmem := List.mem_of_getElem? he
  obtain ⟨b', hb', e1, hc⟩ := mem_edges.1 hmem
  have e1' : (b : Int) = (b' : Int) := e1
  obtain rfl : b = b' := by omega
  have hc' : (c : Int) ∈ nxt f b := hc
  have hcl : c < f.blocks.length := by have := hk.flow.2.2 b _ hc'; omega
  have hg := blkW_all hk b (h.si.good b)
  refine ⟨h.si.upd hk hb hc', ?_⟩
  by_cases hm : meetK (σ c) (blkW f b (σ b)) = σ c
  · rw [hm, updS_self]
    have hkept : Kept f σ ((b : Int), (c : Int)) := fun b2 c2 e2 hp => by
      injection e2 with e3 e4
      obtain rfl : b = b2 := by omega
      obtain rfl : c = c2 := by omega
      exact fun k m hx => (hg.2 k m).1 ((meet_keep hg.1 (h.si.good c)).1 hm k m hx)
    rcases h.way with h1 | h1 | ⟨h1, h2⟩
    · exact .inl h1
    · exact .inr (.inl h1)
    · refine .inr (.inr ⟨h1, fun e hx => ?_⟩)
      rw [List.take_add_one, he] at hx
      simp only [Option.toList_some, List.mem_append, List.mem_singleton] at hx
      rcases hx with hx | rfl
      · exact h2 e hx
      · exact hkept
  · have hl : leS (semK (meetK (σ c) (blkW f b (σ b)))) (semK (σ c)) := fun k m hm => ((semK_meet _ _ k m).1 hm).1
    have hp := potT_upd (f := f) (σ := σ) hcl (potS_lt ((h.si.good c).meet hg.1) (h.si.good c) hl hm)
    rcases h.way with h1 | h1 | ⟨h1, h2⟩
    · exact absurd ((meet_keep hg.1 (h.si.good c)).2 (fun k m hx => (hg.2 k m).2 (h1 _ hmem b c rfl hb k m hx))) hm
    · exact .inr (.inl (by omega))
    · exact .inr (.inl (by omega))
/-- The passes: t are through. -/
structure TS (f : FunV) (t : Nat) (σ : Nat → KSt) : Prop where
  si : SI f σ
  way : Rest f σ ∨ potT f σ + t ≤ f.blocks.length * (2 * f.kinds.length)
theorem TS.start (h : SI f σ) : TS f 0 σ := ⟨h, .inr (by have := potT_le f σ; omega)⟩
/-- A pass under way, behind t passes. -/
def TP (f : FunV) (t j : Nat) (σ : Nat → KSt) : Prop := ∃ P0, PS f P0 j σ ∧ (P0 = 0 ∨ P0 + t ≤ f.blocks.length * (2 * f.kinds.length))
theorem TS.go {t : Nat} (h : TS f t σ) : TP f t 0 σ := by
  rcases h.way with h1 | h1
  · exact ⟨0, ⟨h.si, .inl h1⟩, .inl rfl⟩
  · exact ⟨_, PS.start h.si, .inr h1⟩
theorem TP.skip {t j : Nat} (h : TP f t j σ) (he : (edgesN f)[j]? = some ((b : Int), (c : Int))) (hb : ¬ Pth f 0 (b : Int)) : TP f t (j + 1) σ := let ⟨P0, h1, h2⟩ := h; ⟨P0, h1.skip he hb, h2⟩
theorem TP.step {t j : Nat} (h : TP f t j σ) (hk : KOk f) (he : (edgesN f)[j]? = some ((b : Int), (c : Int))) (hb : Pth f 0 (b : Int)) : TP f t (j + 1) (updS σ c (meetK (σ c) (blkW f b (σ b)))) := let ⟨P0, h1, h2⟩ := h; ⟨P0, h1.step hk he hb, h2⟩
theorem TP.si {t j : Nat} (h : TP f t j σ) : SI f σ := let ⟨_, h1, _⟩ := h; h1.si
theorem TP.done {t j : Nat} (h : TP f t j σ) (hj : (edgesN f).length ≤ j) : TS f (t + 1) σ := by
  obtain ⟨P0, h1, h2⟩ := h
  refine ⟨h1.si, ?_⟩
  rcases h1.way with h3 | h3 | ⟨h3, h4⟩
  · exact .inl h3
  · exact .inr (by omega)
  · rw [List.take_of_length_le hj] at h4
    exact .inl h4
theorem TS.end {t : Nat} (h : TS f t σ) (hk : KOk f) (ht : f.blocks.length * (2 * f.kinds.length) < t) (b : Nat) : KAt f b (σ b) := by
  rcases h.way with h1 | h1
  · exact h.si.at hk h1 b
  · omega
end
end Go.Proofs.YtajndgoichlnmaaGreatDoor
