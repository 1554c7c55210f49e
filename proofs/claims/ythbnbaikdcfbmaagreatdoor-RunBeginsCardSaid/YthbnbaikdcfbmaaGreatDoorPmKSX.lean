/- Layer 8, the reference: Step, block, all, and the mathematics of States. Condition: the function is of a form that may be. -/
import Derived.Test.YthbnbaikdcfbmaaGreatDoorPmTIL
import Derived.Test.YthbnbaikdcfbmaaGreatDoorPmKW
import Derived.Laws.Cover1
set_option linter.unusedSimpArgs false
set_option linter.unusedVariables false
set_option maxHeartbeats 8000000
set_option maxRecDepth 100000
namespace Go.Proofs.YthbnbaikdcfbmaaGreatDoor
open Go.RowKit
theorem MadeB.v {W : World} {r : List Nat} {e : Ending} {w' : World} (h : MadeB W r e w') : ∃ v, e = .returned v /\ SetV w' v r /\ Below W.heap.size W w' := let ⟨A, c, h1, h2, h3, h4, h5⟩ := h; ⟨_, h1, ⟨A, c, rfl, h2, h3, h4⟩, h5⟩
theorem neat0 {l : List Nat} (h : Tidy l) : jaw [l, ofL []] = l := by rw [jd3]; exact jcv h
theorem jqb {w : World} {v : Value} {s : List Nat} (h : SetV w v s) (hl : s.length <= 1000) (ht : Tidy s) :
  Calls Tryz.prog 58 #[v] w fun e w' => ∃ r, e = .returned r /\ SetV w' r s /\ Below w.heap.size w w' := by
 obtain ⟨A, c, rfl, h2, h3, h4⟩ := h
 exact (jgb A s.length c s w h4 rfl h2 h3 (by omega)).mono fun e w' ⟨r, h5, h6, h7⟩ => by
  rw [jcv ht] at h6
  obtain ⟨A', c', e1, h8, h9, h10⟩ := h6.sl
  rw [jab] at e1 h8
  exact ⟨r, h5, ⟨A', c', e1, h8, by simpa [maxLen] using h9, h10⟩, h7⟩
theorem jn3 {w : World} {v : Value} {s : List Nat} (h : SetV w v s) (hl : s.length <= 1000) (hw : W64 s) (T : Option Addr) (m d : Nat) (l : List Int) (hr : Sl w w.heap.size .i64 T l) (hm : l.length = m) (hm2 : m <= 1000) (hR : ∀ z ∈ l, i64R z) :
  Calls Tryz.prog 49 #[v, .slice T m d] w fun e w' => ∃ r, e = .returned r /\ SetV w' r (jaw [s, ofL l]) /\ Below w.heap.size w w' := by
 obtain ⟨A, c, rfl, h2, h3, h4⟩ := h
 rw [jd3]
 exact (jq5 A T s.length c m d s l w h4 rfl h2 h3 (by omega) hw hr hm (by omega) hR).mono fun _ _ h => h.v
theorem jq4 {w : World} {v : Value} {s : List Nat} (h : SetV w v s) (hl : s.length <= 1000) (hw : W64 s) (T : Option Addr) (m d : Nat) (l : List Int) (hr : Sl w w.heap.size .i64 T l) (hm : l.length = m) (hm2 : m <= 1000) (hR : ∀ z ∈ l, i64R z) :
  Calls Tryz.prog 59 #[v, .slice T m d] w fun e w' => ∃ r, e = .returned r /\ SetV w' r (ja3 s l) /\ Below w.heap.size w w' := by
 obtain ⟨A, c, rfl, h2, h3, h4⟩ := h
 exact (jjy A T s.length c m d s l w h4 rfl (by omega) hw hr hm (by omega) hR).mono fun _ _ h => h.v
theorem rmeetV {w : World} {v u : Value} {s t : List Nat} (h : SetV w v s) (h' : SetV w u t) (hl : s.length <= 1000) (hl' : t.length <= 1000) (hw : W64 s) (hw' : W64 t) :
  Calls Tryz.prog 52 #[v, u] w fun e w' => ∃ r, e = .returned r /\ SetV w' r (jce s t) /\ Below w.heap.size w w' := by
 obtain ⟨A, c, rfl, h2, h3, h4⟩ := h
 obtain ⟨A', c', rfl, h2', h3', h4'⟩ := h'
 exact (jp8 A A' s.length c t.length c' s t w h4 h4' rfl rfl (by omega) (by omega) hw hw').mono fun _ _ h => h.v
theorem rhasV {w : World} {v : Value} {s : List Nat} (h : SetV w v s) (hl : s.length <= 1000) (hw : W64 s) (m : Int) (hR : i64R m) :
  Calls Tryz.prog 32 #[v, .int .i64 m] w fun e w' => e = .returned (.bool (hasB s m)) /\ w = w' := by
 obtain ⟨A, c, rfl, h2, h3, h4⟩ := h
 exact jh8 A s.length c s m w _ h4 rfl (by omega) hw hR
theorem jgt (w : World) (z : Int) : Sl (w.alloc (.cells #[.int .i64 z] 3)) (w.alloc (.cells #[.int .i64 z] 3)).heap.size .i64 (some ⟨w.heap.size, 0, none⟩) [z] := by
 rw [World.size_alloc]
 exact Sl.lit w 3 .i64 #[.int .i64 z] [z] rfl
def delF (f : FunV) (d : Int) : Nat -> List Nat -> List Nat
 | 0, s => s
 | k + 1, s => if f.kinds[k]? = some 2 /\ f.base[k]? = some d then ja3 (delF f d k s) [(k : Int)] else delF f d k s
theorem jed {f : FunV} {d : Int} {s : List Nat} (h : W64 s) : ∀ k, W64 (delF f d k s)
 | 0 => h
 | k + 1 => by
  unfold delF
  split
  ·exact jag (jed h k) _
  ·exact jed h k
theorem jjb {f : FunV} {d : Int} {s : List Nat} : ∀ k, (delF f d k s).length <= s.length
 | 0 => Nat.le_refl _
 | k + 1 => by
  unfold delF
  split
  ·exact Nat.le_trans (jb5 _ _) (jjb k)
  ·exact jjb k
theorem jnp {f : FunV} {d : Int} {s : List Nat} (h : W64 s) (m : Nat) : ∀ k, hasB (delF f d k s) (m : Int) = true ↔ hasB s (m : Int) = true /\ ¬ (m < k /\ f.kinds[m]? = some 2 /\ f.base[m]? = some d)
 | 0 => by simp [delF]
 | k + 1 => by
  have ih := jnp (f := f) (d := d) h m k
  unfold delF
  split
  ·rename_i hc
   rw [jbl (jed h k), Bool.and_eq_true, ih]
   simp only [Bool.not_eq_true', decide_eq_false_iff_not, List.mem_singleton]
   constructor
   ·rintro ⟨⟨h1, h2⟩, h3⟩
    refine ⟨h1, fun ⟨h4, h5⟩ => h2 ⟨by have : m ≠ k := fun e => h3 (by rw [e]); omega, h5⟩⟩
   ·rintro ⟨h1, h2⟩
    refine ⟨⟨h1, fun ⟨h4, h5⟩ => h2 ⟨by omega, h5⟩⟩, fun e => h2 ?_⟩
    obtain rfl : m = k := by omega
    exact ⟨by omega, hc⟩
  ·rename_i hc
   rw [ih]
   constructor
   ·rintro ⟨h1, h2⟩
    refine ⟨h1, fun ⟨h4, h5⟩ => ?_⟩
    by_cases e : m = k
    ·subst e; exact hc h5
    ·exact h2 ⟨by omega, h5⟩
   ·rintro ⟨h1, h2⟩
    exact ⟨h1, fun ⟨h4, h5⟩ => h2 ⟨by omega, h5⟩⟩
def DerB (f : FunV) : Prop := ∀ (m : Nat) (b : Int), f.base[m]? = some b -> 0 <= b -> f.kinds[m]? = some 2
theorem derB_of {p : List FunV} (h : jad p = true) : ∀ f ∈ p, DerB f := by
 intro f hf m b hb h0
 obtain ⟨-, -, -, hall⟩ := jal h
 obtain ⟨⟨h1, -, h3⟩, -, -, -, -⟩ := jah (hall f hf)
 have hlt := (List.getElem?_eq_some_iff.1 hb).1
 obtain ⟨y, hy⟩ : ∃ y, f.kinds[m]? = some y := ⟨_, List.getElem?_eq_getElem (by omega)⟩
 have h4 := h3 (y, b) (List.mem_iff_getElem?.2 ⟨m, by rw [List.getElem?_zip_eq_some]; exact ⟨hy, hb⟩⟩)
 unfold jdd at h4
 by_cases h2 : y = 2
 ·rw [hy, h2]
 ·rw [if_neg h2] at h4
  simp only [Bool.and_eq_true, beq_iff_eq] at h4
  omega
theorem del_all {f : FunV} {s : List Nat} {dn : Nat} (hw : W64 s) (hD : DerB f) (hbl : f.base.length = f.kinds.length) : ja3 (delF f (dn : Int) f.kinds.length s) [(dn : Int)] = ja3 (ja3 s [(dn : Int)]) (jca f (dn : Int) f.base.length) := by
 refine jlv (jag (jed hw _) _) (jag (jag hw _) _) (jcd _ _) (jcd _ _) fun m => ?_
 rw [jbl (jed hw _), jbl (jag hw _), jbl hw, Bool.and_eq_true, Bool.and_eq_true, Bool.and_eq_true, jnp hw]
 simp only [Bool.not_eq_true', decide_eq_false_iff_not, dersN_mem, List.mem_singleton]
 constructor
 ·rintro ⟨⟨h1, h2⟩, h3⟩
  refine ⟨⟨h1, h3⟩, fun ⟨d, hd1, hd2, hd3⟩ => ?_⟩
  obtain rfl : m = d := by omega
  exact h2 ⟨by omega, hD m _ hd3 (by omega), hd3⟩
 ·rintro ⟨⟨h1, h2⟩, h3⟩
  exact ⟨⟨h1, fun ⟨h4, h5, h6⟩ => h3 ⟨m, rfl, by omega, h6⟩⟩, h2⟩
theorem rstep_no (vk vb vs : Value) (f : FunV) (x : InsV) (va : Value) (w : World) (B : Nat) (hB : B <= w.heap.size) (hi : FunI w (· < B) vk vb vs f) (hx : InsI w (· < B) va x) (v1 v2 : Value) (s : KSt) (hs : GoodK f s) (h1 : SetV w v1 s.1) (h2 : SetV w v2 s.2) (h68 : ja9 x.op 68 = false) :
  Calls Tryz.prog 33 #[.agg #[vk, vb, .int .i64 f.params, .int .i64 f.result, vs], .agg #[.int .i64 x.op, .int .i64 x.d, .int .i64 x.a, .int .i64 x.b, .int .i64 x.n, .int .i64 x.m, va], v1, v2] w fun e w' => ∃ r1 r2, e = .returned (.tuple #[r1, r2]) /\ SetV w' r1 (jb2 f x s).1 /\ SetV w' r2 (jb2 f x s).2 /\ Below w.heap.size w w' := by
 have hst : jb2 f x s = (s.1, s.2) := by
  unfold jb2
  rw [h68]
  show (jaw [s.1, ofL []], jaw [s.2, ofL []]) = _
  rw [neat0 hs.t1, neat0 hs.t2]
 rw [hst]
 have HSE := hide (fun (W : World) (A : Option Addr) (n c : Nat) => jgm x A n c W)
 have HN1 := hide (fun (W : World) (hW : Below w.heap.size w W) => jqb (h1.below hW) (by have := hs.l1; omega) hs.t1)
 have HN2 := hide (fun (W : World) (hW : Below w.heap.size w W) => jqb (h2.below hW) (by have := hs.l2; omega) hs.t2)
 rw [h68, if_neg (by simp)] at HSE
 obtain ⟨Ak, ck, rfl, hck, hmk⟩ := hi.1.open'
 obtain ⟨Ab, cb, rfl, hcb, hmb⟩ := hi.2.1.open'
 obtain ⟨As, cs, rfl, hcs, hms⟩ := hi.2.2.1.open'
 obtain ⟨Ax, cx, rfl, hcx, hmx⟩ := hx.1.open'
 obtain ⟨A1, d1, rfl, -, -, -⟩ := h1
 obtain ⟨A2, d2, rfl, -, -, -⟩ := h2
 have HSE := hide (fun (W : World) => HSE.out W Ax x.args.length cx)
 generalize s.1 = s1, s.2 = s2 at *
 generalize s1.length = n1, s2.length = n2 at *
 clear hi hx hs h68 hst
 generalize x.args.length = lx, x.op = xo, x.d = xd, x.a = xa, x.b = xb, x.n = xn, x.m = xm at *
 generalize f.kinds.length = lk, f.base.length = lb, f.blocks.length = ls, f.params = fp, f.result = fr at *
 go_enter Tryz.func33, Tryz.ntmps33
 go_upto_region 1 with (fail)
 obtain ⟨w1, hw1⟩ := zr ((w.alloc (.cells #[.slice Ak lk ck, .slice Ab lb cb, .int .i64 fp, .int .i64 fr, .slice As ls cs] 52)).alloc (.cells #[.int .i64 xo, .int .i64 xd, .int .i64 xa, .int .i64 xb, .int .i64 xn, .int .i64 xm, .slice Ax lx cx] 57))
 obtain ⟨h5, hh5⟩ := zl w.heap.size
 have HX0 := zy2 hw1 hh5
 have HX1 := zx2 hw1 hh5
 have HB1 := zb2 hw1
 have w1s := HB1.out.size
 have w1z := zs2 hw1 hh5
 have HK0 := zk5 HX0
 have lHX0 := HX0.out.lt
 have HK1 := zk7 HX1
 have lHX1 := HX1.out.lt
 have h5g : w.heap.size <= h5 := by omega
 rw [<- hw1, hh5]
 clear hw1 hh5
 obtain ⟨x0, x1, x2, x3, x4, x5, x6⟩ := HK1.out w1 (Below.refl _ _)
 go_upto_region 3 with (go_at_call 57; (with_reducible refine (HSE.out _).mono ?_); rintro e w2 ⟨rfl, hb2⟩; have HC2 := hide hb2; have HB2 := hide (HB1.out.trans (hb2.mono HB1.out.size)); clear hb2)
 go_wp2_with (first
  | (go_at_call_of 58 A2; (with_reducible refine (HN2.out w3 HB3.out).mono ?_); rintro e w4 ⟨r2, rfl, hr2, hb4⟩; have HB4 := hide (HB3.out.trans (hb4.mono HB3.out.size)); have HR1 := hide (HR1.out.below hb4); have HR2 := hide hr2; clear hb4 hr2)
  | (go_at_call_of 58 A1; (with_reducible refine (HN1.out w2 HB2.out).mono ?_); rintro e w3 ⟨r1, rfl, hr1, hb3⟩; have HB3 := hide (HB2.out.trans (hb3.mono HB2.out.size)); have HR1 := hide hr1; clear hb3 hr1))
 go_ret2
 exact ⟨_, _, rfl, HR1.out, HR2.out, HB4.out⟩
theorem jq9 (vk vb vs : Value) (f : FunV) (x : InsV) (va : Value) (w : World) (B : Nat) (hB : B <= w.heap.size) (hi : FunI w (· < B) vk vb vs f) (hx : InsI w (· < B) va x) (v1 v2 : Value) (s : KSt) (hs : GoodK f s) (h1 : SetV w v1 s.1) (h2 : SetV w v2 s.2) (h68 : ja9 x.op 68 = true) (dn : Nat) (hd : x.d = (dn : Int)) (hdl : dn < f.kinds.length) (hk : f.kinds.length <= 48) (hbl : f.base.length = f.kinds.length) (hD : DerB f) :
  Calls Tryz.prog 33 #[.agg #[vk, vb, .int .i64 f.params, .int .i64 f.result, vs], .agg #[.int .i64 x.op, .int .i64 x.d, .int .i64 x.a, .int .i64 x.b, .int .i64 x.n, .int .i64 x.m, va], v1, v2] w fun e w' => ∃ r1 r2, e = .returned (.tuple #[r1, r2]) /\ SetV w' r1 (jb2 f x s).1 /\ SetV w' r2 (jb2 f x s).2 /\ Below w.heap.size w w' := by
 have hnd : jdp f x s.2 = (decide (f.kinds[dn]? = some 2) && (!(x.op == 16) || hasB s.2 x.a)) := by unfold jdp; rw [hd, Int.toNat_natCast]
 have hst : jb2 f x s = (jaw [s.1, ofL [(dn : Int)]], if jdp f x s.2 = true then jaw [ja3 (delF f (dn : Int) f.kinds.length s.2) [(dn : Int)], ofL [(dn : Int)]] else ja3 (delF f (dn : Int) f.kinds.length s.2) [(dn : Int)]) := by
  unfold jb2
  rw [if_pos h68, hd, del_all hs.w2 hD hbl]
 rw [hst]
 have HSE := hide (fun (W : World) (A : Option Addr) (n c : Nat) => jgm x A n c W)
 have hxa : i64R x.a := hx.2.2.2.1
 have HHA := hide (fun (W : World) (hW : Below w.heap.size w W) => rhasV (h2.below hW) (by have := hs.l2; omega) hs.w2 x.a hxa)
 have hR1 : ∀ z : Nat, z <= 1000 -> ∀ y ∈ [(z : Int)], i64R y := fun z hz y hy => by obtain rfl := List.mem_singleton.1 hy; unfold i64R; omega
 have HWI1 := hide (fun (W : World) (hW : Below w.heap.size w W) => jn3 ((h1.below hW).below (jdc W (.cells #[.int .i64 (dn : Int)] 3))) (by have := hs.l1; omega) hs.w1 (some ⟨W.heap.size, 0, none⟩) 1 1 [(dn : Int)] (jgt W (dn : Int)) rfl (by omega) (hR1 dn (by omega)))
 have HDL := hide (fun (v : Value) (k : Nat) (hk : k <= 48) (s' : List Nat) (W : World) (hv : SetV W v s') (hl : s'.length <= 64) (hw : W64 s') => jq4 (hv.below (jdc W (.cells #[.int .i64 (k : Int)] 3))) (by omega) hw (some ⟨W.heap.size, 0, none⟩) 1 1 [(k : Int)] (jgt W (k : Int)) rfl (by omega) (hR1 k (by omega)))
 have HWI2 := hide (fun (v : Value) (s' : List Nat) (W : World) (hv : SetV W v s') (hl : s'.length <= 64) (hw : W64 s') => jn3 (hv.below (jdc W (.cells #[.int .i64 (dn : Int)] 3))) (by omega) hw (some ⟨W.heap.size, 0, none⟩) 1 1 [(dn : Int)] (jgt W (dn : Int)) rfl (by omega) (hR1 dn (by omega)))
 have HNE := hide (fun (v : Value) (s' : List Nat) (W : World) (hv : SetV W v s') (hl : s'.length <= 128) (ht : Tidy s') => jqb hv (by omega) ht)
 have HF64 := hide (fun k => jed (f := f) (d := (dn : Int)) hs.w2 k)
 have HFL := hide (fun k => (show (delF f (dn : Int) k s.2).length <= 64 from Nat.le_trans (jjb k) hs.l2))
 have HFY := hide (fun (k : Nat) (hc : f.kinds[k]? = some 2 /\ f.base[k]? = some (dn : Int)) => (show delF f (dn : Int) (k + 1) s.2 = ja3 (delF f (dn : Int) k s.2) [(k : Int)] from by rw [delF, if_pos hc]))
 have HFN := hide (fun (k : Nat) (hc : ¬ (f.kinds[k]? = some 2 /\ f.base[k]? = some (dn : Int))) => (show delF f (dn : Int) (k + 1) s.2 = delF f (dn : Int) k s.2 from by rw [delF, if_neg hc]))
 have HF0 := hide (show delF f (dn : Int) 0 s.2 = s.2 from rfl)
 have HTW := hide (show W64 (ja3 (delF f (dn : Int) f.kinds.length s.2) [(dn : Int)]) from jag (HF64.out _) _)
 have HTT := hide (show Tidy (ja3 (delF f (dn : Int) f.kinds.length s.2) [(dn : Int)]) from jcd _ _)
 have HTL := hide (show (ja3 (delF f (dn : Int) f.kinds.length s.2) [(dn : Int)]).length <= 64 from Nat.le_trans (jb5 _ _) (HFL.out _))
 have HJT := hide (show Tidy (jaw [ja3 (delF f (dn : Int) f.kinds.length s.2) [(dn : Int)], ofL [(dn : Int)]]) from jc1 _)
 have HJL := hide (show (jaw [ja3 (delF f (dn : Int) f.kinds.length s.2) [(dn : Int)], ofL [(dn : Int)]]).length <= 128 from by
  rw [jd3]
  exact Nat.le_trans (jd0 _) (Nat.le_trans (jdv _ _) (by have := HTL.out; omega)))
 rw [h68, if_pos rfl, hd] at HSE
 rw [hd]
 have HIK := hide (fun (W : World) (hW : Below w.heap.size w W) => hi.keep (w := w) (S := (· < B)) (up hW hB) (fun _ h => h))
 obtain ⟨kd, hkd⟩ : ∃ kd, f.kinds[dn]? = some kd := ⟨_, List.getElem?_eq_getElem hdl⟩
 have HKD := hide hkd
 have hnd2 : jdp f x s.2 = (decide (kd = 2) && (!(x.op == 16) || hasB s.2 x.a)) := by rw [hnd, hkd]; simp
 have HKQ := hide (fun (m : Nat) (hm : m < f.kinds.length) => (show ∃ y b, f.kinds[m]? = some y /\ f.base[m]? = some b from ⟨_, _, List.getElem?_eq_getElem hm, List.getElem?_eq_getElem (by rw [hbl]; exact hm)⟩))
 obtain ⟨Ak, ck, rfl, hck, hmk⟩ := hi.1.open'
 obtain ⟨Ab, cb, rfl, hcb, hmb⟩ := hi.2.1.open'
 obtain ⟨As, cs, rfl, hcs, hms⟩ := hi.2.2.1.open'
 obtain ⟨Ax, cx, rfl, hcx, hmx⟩ := hx.1.open'
 have HSE := hide (fun (W : World) => HSE.out W Ax x.args.length cx)
 have HS2 := hide (fun (W : World) (hW : Below w.heap.size w W) => h2.below hW)
 obtain ⟨nd, hndn⟩ := zl (jdp f x s.2)
 rw [hndn] at hnd2 ⊢
 obtain ⟨TT, hTT⟩ := zl (ja3 (delF f (dn : Int) f.kinds.length s.2) [(dn : Int)])
 have HTE := hide hTT
 rw [hTT] at HTW HTT HTL HJT HJL
 rw [hTT]
 obtain ⟨DF, hDF⟩ : ∃ DF : Nat -> List Nat, (fun k => delF f (dn : Int) k s.2) = DF := ⟨_, rfl⟩
 have hDF2 : ∀ k, delF f (dn : Int) k s.2 = DF k := fun k => by rw [<- hDF]
 simp only [hDF2] at HF64 HFL HFY HFN HF0 HTE
 generalize hasB s.2 x.a = ha at *
 generalize jaw [s.1, ofL [(dn : Int)]] = J1 at *
 obtain ⟨sh, hsh⟩ := zl (!(x.op == 16) || ha)
 rw [hsh] at hnd2
 have HND := hide hnd2
 have HSH := hide hsh
 obtain ⟨lk, hlk⟩ := zl f.kinds.length
 rw [hlk] at HKQ hdl hk hbl HIK HTE ⊢
 rw [hbl] at HIK ⊢
 clear hi hx hs h68 hst hnd hnd2 hsh hTT hDF hDF2 hd h1 h2 hkd hxa hR1 hck hmk hcb hmb hcs hms hcx hmx hlk hbl
 generalize x.args.length = lx, x.op = xo, x.a = xa, x.b = xb, x.n = xn, x.m = xm at *
 generalize f.blocks.length = ls, f.params = fp, f.result = fr at *
 have rd0 : (0 : Int) <= (dn : Int) := by omega
 have rd1 : (dn : Int) < (lk : Int) := by omega
 go_enter Tryz.func33, Tryz.ntmps33
 go_upto_region 1 with (fail)
 obtain ⟨w1, hw1⟩ := zr ((w.alloc (.cells #[.slice Ak lk ck, .slice Ab lk cb, .int .i64 fp, .int .i64 fr, .slice As ls cs] 52)).alloc (.cells #[.int .i64 xo, .int .i64 (dn : Int), .int .i64 xa, .int .i64 xb, .int .i64 xn, .int .i64 xm, .slice Ax lx cx] 57))
 obtain ⟨h5, hh5⟩ := zl w.heap.size
 have HX0 := zy2 hw1 hh5
 have HX1 := zx2 hw1 hh5
 have HB1 := zb2 hw1
 have w1s := HB1.out.size
 have w1z := zs2 hw1 hh5
 have HK0 := zk5 HX0
 have lHX0 := HX0.out.lt
 have HK1 := zk7 HX1
 have lHX1 := HX1.out.lt
 have h5g : w.heap.size <= h5 := by omega
 rw [<- hw1, hh5]
 clear hw1 hh5
 have HBB := hide (show B <= w1.heap.size by omega)
 obtain ⟨x0, x1, x2, x3, x4, x5, x6⟩ := HK1.out w1 (Below.refl _ _)
 go_upto_region 4 with (go_at_call 57; (with_reducible refine (HSE.out _).mono ?_); rintro e w2 ⟨rfl, hb2⟩; have HC2 := hide hb2; have HB2 := hide (HB1.out.trans (hb2.mono HB1.out.size)); clear hb2)
 clear x0 x1 x2 x3 x4 x5 x6
 obtain ⟨x0, x1, x2, x3, x4, x5, x6⟩ := HK1.out w2 HC2.out
 have l12 := HC2.out.size
 have lx2 : h5 + 1 < w2.heap.size := by omega
 go_cut [12] from 25 to 33 (fun v wx => v = .bool sh /\ wx = w2)
 case first =>
  by_cases ho : xo = 16
  case pos =>
   subst ho
   obtain rfl : sh = ha := by rw [<- HSH.out]; simp
   clear HSH
   go_wp2_with (go_at_call 32; (with_reducible refine (HHA.out w2 HB2.out).mono ?_); rintro e w' ⟨rfl, rfl⟩)
   go_meet
   exact ⟨rfl, rfl⟩
  have hob : (xo == 16) = false := by simp [ho]
  have hob2 : (xo != 16) = true := by simp [ho]
  obtain rfl : sh = true := by rw [<- HSH.out, hob]; rfl
  clear HSH
  go_wp2_with fail
  go_meet
  exact ⟨rfl, rfl⟩
 case rest =>
  obtain ⟨rfl, rfl⟩ := hcut
  obtain ⟨w2, rfl⟩ := zr wc
  clear HSH x0 x1 x2 x3 x4 x5 x6 lx2
  have HU0 := hide (show SetV w2 v2 (DF 0) from by rw [HF0.out]; exact HS2.out w2 HB2.out)
  go_wp2
  go_loopw [3, 13] (fun v3 i wr => ∃ (k : Nat) (u : Value), u = v3 /\ k <= lk /\ i = .int .i64 k /\ Hid (SetV wr u (DF k)) /\ Below w2.heap.size w2 wr) (fun _ i _ => lk - (intOf i).toNat)
  case atStart => exact ⟨0, _, rfl, Nat.zero_le _, rfl, HU0, Below.refl _ _⟩
  case round =>
   obtain ⟨k, u, rfl, hkl, rfl, HU, hb⟩ := hrel
   obtain ⟨wo, rfl⟩ := zr wr
   have HC3 := hide hb
   have HD3 := hide (HC2.out.trans (hb.mono HC2.out.size))
   have HW3 := hide (HB2.out.trans (hb.mono HB2.out.size))
   have lwo := hb.size
   obtain ⟨c0, c1, c2, c3, c4⟩ := HK0.out wo HD3.out
   have l5 : h5 < wo.heap.size := by omega
   clear hb HU0
   by_cases hlt : k < lk
   case neg =>
    obtain rfl : lk = k := by omega
    have hnl : ¬ ((lk : Int) < (lk : Int)) := by omega
    have HDW := hide (show Calls Tryz.prog 59 #[u, .slice (some ⟨wo.heap.size, 0, none⟩) 1 1] (wo.alloc (.cells #[.int .i64 (dn : Int)] 3)) fun e w' => ∃ r, e = .returned r /\ SetV w' r TT /\ Below (wo.alloc (.cells #[.int .i64 (dn : Int)] 3)).heap.size (wo.alloc (.cells #[.int .i64 (dn : Int)] 3)) w' from by
     have t := HDL.out u dn (by omega) (DF lk) wo HU.out (HFL.out lk) (HF64.out lk)
     rw [HTE.out] at t
     exact t)
    have HA1 := hide (jdc wo (.cells #[.int .i64 (dn : Int)] 3))
    go_upto_region 11 with (go_at_call 59; (with_reducible refine (HDW.out).mono ?_); rintro e w4 ⟨r, rfl, hr, hb4⟩; have hq : Below wo.heap.size wo w4 := HA1.out.trans (hb4.mono HA1.out.size); have HC4 := hide (HC3.out.trans (hq.mono HC3.out.size)); have HRV := hide hr; clear hr hb4 hq)
    have HD4 := hide (HC2.out.trans (HC4.out.mono HC2.out.size))
    have HW4 := hide (HB2.out.trans (HC4.out.mono HB2.out.size))
    have lw4 := HC4.out.size
    clear c0 c1 c2 c3 c4
    obtain ⟨c0, c1, c2, c3, c4⟩ := HK0.out w4 HD4.out
    have l54 : h5 < w4.heap.size := by omega
    obtain ⟨bk, ok, hAk, hbk, ek, -⟩ := (HIK.out w4 HW4.out).1.get HKD.out
    subst hAk
    have lbk : bk < w4.heap.size := by have := HBB.out; omega
    have HA4 := hide (jdc w4 (.cells #[.int .i64 (dn : Int)] 3))
    by_cases hnt : nd = true
    case neg =>
     obtain rfl : nd = false := Bool.eq_false_iff.2 hnt
     by_cases hk2 : kd = 2
     case neg =>
      have hkb : (kd == 2) = false := by simp [hk2]
      clear HND
      have HG1 := hide (HWI1.out w4 HW4.out)
      go_wp2_with (first
       | (go_at_call 58; (with_reducible refine (HNE.out r _ w7 HRV7.out (by have := HTL.out; omega) HTT.out).mono ?_); rintro e w8 ⟨r8, rfl, hr8, hb8⟩; have HB8 := hide (HB7.out.trans (hb8.mono HB7.out.size)); have HJ8 := hide (HJ7.out.below hb8); have HRV8 := hide hr8; clear hr8 hb8)
       | (go_at_call 49; (with_reducible refine (HG1.out).mono ?_); rintro e w7 ⟨r7, rfl, hr7, hb7⟩; have hq7 : Below w4.heap.size w4 w7 := HA4.out.trans (hb7.mono HA4.out.size); have HB7 := hide (HW4.out.trans (hq7.mono HW4.out.size)); have HRV7 := hide (HRV.out.below hq7); have HJ7 := hide hr7; clear hr7 hb7 hq7))
      go_ret2
      exact ⟨_, _, rfl, HJ8.out, HRV8.out, HB8.out⟩
     subst hk2
     obtain rfl : sh = false := by have t := HND.out; simpa using t.symm
     clear HND
     have HG1 := hide (HWI1.out w4 HW4.out)
     go_wp2_with (first
      | (go_at_call 58; (with_reducible refine (HNE.out r _ w7 HRV7.out (by have := HTL.out; omega) HTT.out).mono ?_); rintro e w8 ⟨r8, rfl, hr8, hb8⟩; have HB8 := hide (HB7.out.trans (hb8.mono HB7.out.size)); have HJ8 := hide (HJ7.out.below hb8); have HRV8 := hide hr8; clear hr8 hb8)
      | (go_at_call 49; (with_reducible refine (HG1.out).mono ?_); rintro e w7 ⟨r7, rfl, hr7, hb7⟩; have hq7 : Below w4.heap.size w4 w7 := HA4.out.trans (hb7.mono HA4.out.size); have HB7 := hide (HW4.out.trans (hq7.mono HW4.out.size)); have HRV7 := hide (HRV.out.below hq7); have HJ7 := hide hr7; clear hr7 hb7 hq7))
     go_ret2
     exact ⟨_, _, rfl, HJ8.out, HRV8.out, HB8.out⟩
    subst hnt
    obtain ⟨rfl, rfl⟩ : kd = 2 /\ sh = true := by have t := HND.out; simpa using t.symm
    clear HND
    have HW5 := hide (HWI2.out r TT w4 HRV.out HTL.out HTW.out)
    go_upto_region 13 with (go_at_call 49; (with_reducible refine (HW5.out).mono ?_); rintro e w5 ⟨r5, rfl, hr5, hb5⟩; have hq5 : Below w4.heap.size w4 w5 := HA4.out.trans (hb5.mono HA4.out.size); have HC5 := hide (HC4.out.trans (hq5.mono HC4.out.size)); have HRV5 := hide hr5; clear hr5 hb5 hq5)
    have HD5 := hide (HC2.out.trans (HC5.out.mono HC2.out.size))
    have HW6 := hide (HB2.out.trans (HC5.out.mono HB2.out.size))
    have HA5 := hide (jdc w5 (.cells #[.int .i64 (dn : Int)] 3))
    have HG1 := hide (HWI1.out w5 HW6.out)
    go_wp2_with (first
     | (go_at_call 58; (with_reducible refine (HNE.out r5 _ w7 HRV7.out (by have := HJL.out; omega) HJT.out).mono ?_); rintro e w8 ⟨r8, rfl, hr8, hb8⟩; have HB8 := hide (HB7.out.trans (hb8.mono HB7.out.size)); have HJ8 := hide (HJ7.out.below hb8); have HRV8 := hide hr8; clear hr8 hb8)
     | (go_at_call 49; (with_reducible refine (HG1.out).mono ?_); rintro e w7 ⟨r7, rfl, hr7, hb7⟩; have hq7 : Below w5.heap.size w5 w7 := HA5.out.trans (hb7.mono HA5.out.size); have HB7 := hide (HW6.out.trans (hq7.mono HW6.out.size)); have HRV7 := hide (HRV5.out.below hq7); have HJ7 := hide hr7; clear hr7 hb7 hq7))
    go_ret2
    exact ⟨_, _, rfl, HJ8.out, HRV8.out, HB8.out⟩
   obtain ⟨y, b, hy, hbb⟩ := HKQ.out k hlt
   obtain ⟨bk, ok, hAk, hbk, ek, -⟩ := (HIK.out wo HW3.out).1.get hy
   subst hAk
   obtain ⟨bb, ob, hAb, hbb2, eb, -⟩ := (HIK.out wo HW3.out).2.1.get hbb
   subst hAb
   have lbk : bk < wo.heap.size := by have := HBB.out; omega
   have lbb : bb < wo.heap.size := by have := HBB.out; omega
   have rk0 : (0 : Int) <= (k : Int) := by omega
   have rk1 : (k : Int) < (lk : Int) := by omega
   have HFY1 := hide (fun (h1 : y = 2) (h2 : b = (dn : Int)) => HFY.out k ⟨by rw [hy, h1], by rw [hbb, h2]⟩)
   have HFN1 := hide (fun (h : ¬ (y = 2 /\ b = (dn : Int))) => HFN.out k (by rw [hy, hbb]; exact fun h2 => h ⟨Option.some.inj h2.1, Option.some.inj h2.2⟩))
   clear hy hbb
   by_cases hk2 : y = 2
   case neg =>
    have hkb : (y == 2) = false := by simp [hk2]
    go_wp2
    go_roundw
    case rel => exact ⟨k + 1, _, rfl, by omega, by go_num, hide (by rw [HFN1.out (fun h => hk2 h.1)]; exact HU.out), HC3.out⟩
    case measure => simp [intOf]; omega
   subst hk2
   by_cases hb2 : b = (dn : Int)
   case neg =>
    have hbb2' : (b == (dn : Int)) = false := by simp [hb2]
    go_wp2
    go_roundw
    case rel => exact ⟨k + 1, _, rfl, by omega, by go_num, hide (by rw [HFN1.out (fun h => hb2 h.2)]; exact HU.out), HC3.out⟩
    case measure => simp [intOf]; omega
   subst hb2
   have HDW := hide (HDL.out u k (by omega) (DF k) wo HU.out (HFL.out k) (HF64.out k))
   have HA1 := hide (jdc wo (.cells #[.int .i64 (k : Int)] 3))
   go_wp2_with (go_at_call 59; (with_reducible refine (HDW.out).mono ?_); rintro e w4 ⟨r, rfl, hr, hb4⟩; have hq : Below wo.heap.size wo w4 := HA1.out.trans (hb4.mono HA1.out.size); have HC4 := hide (HC3.out.trans (hq.mono HC3.out.size)); have HRV := hide hr; clear hr hb4 hq)
   go_roundw
   case rel => exact ⟨k + 1, _, rfl, by omega, by go_num, hide (by rw [HFY1.out (by first | rfl | trivial) (by first | rfl | trivial)]; exact HRV.out), HC4.out⟩
   case measure => simp [intOf]; omega
theorem jk8 (vk vb vs : Value) (f : FunV) (x : InsV) (va : Value) (w : World) (B : Nat) (hB : B <= w.heap.size) (hi : FunI w (· < B) vk vb vs f) (hx : InsI w (· < B) va x) (v1 v2 : Value) (s : KSt) (hs : GoodK f s) (h1 : SetV w v1 s.1) (h2 : SetV w v2 s.2) (hk : f.kinds.length <= 48) (hbl : f.base.length = f.kinds.length) (hD : DerB f) (hd : ja9 x.op 68 = true -> 0 <= x.d /\ x.d < f.kinds.length) :
  Calls Tryz.prog 33 #[.agg #[vk, vb, .int .i64 f.params, .int .i64 f.result, vs], .agg #[.int .i64 x.op, .int .i64 x.d, .int .i64 x.a, .int .i64 x.b, .int .i64 x.n, .int .i64 x.m, va], v1, v2] w fun e w' => ∃ r1 r2, e = .returned (.tuple #[r1, r2]) /\ SetV w' r1 (jb2 f x s).1 /\ SetV w' r2 (jb2 f x s).2 /\ Below w.heap.size w w' := by
 cases h68 : ja9 x.op 68 with
 | false => exact rstep_no vk vb vs f x va w B hB hi hx v1 v2 s hs h1 h2 h68
 | true =>
  obtain ⟨d0, d1⟩ := hd h68
  exact jq9 vk vb vs f x va w B hB hi hx v1 v2 s hs h1 h2 h68 x.d.toNat (by omega) (by omega) hk hbl hD
theorem jod (vk vb vs : Value) (f : FunV) (b : Nat) (hb : b < f.blocks.length) (w : World) (B : Nat) (hB : B <= w.heap.size) (hi : FunI w (· < B) vk vb vs f) (v1 v2 : Value) (s : KSt) (hs : GoodK f s) (h1 : SetV w v1 s.1) (h2 : SetV w v2 s.2) (hok : KOk f) (hD : DerB f) :
  Calls Tryz.prog 51 #[.agg #[vk, vb, .int .i64 f.params, .int .i64 f.result, vs], .int .i64 (b : Int), v1, v2] w fun e w' => ∃ r1 r2, e = .returned (.tuple #[r1, r2]) /\ SetV w' r1 (blkW f b s).1 /\ SetV w' r2 (blkW f b s).2 /\ Below w.heap.size w w' := by
 have HIK := hide (fun (W : World) (hW : Below w.heap.size w W) => hi.keep (w := w) (S := (· < B)) (up hW hB) (fun _ h => h))
 obtain ⟨l, hl⟩ : ∃ l, f.blocks[b]? = some l := ⟨_, List.getElem?_eq_getElem hb⟩
 have hlm := List.mem_of_getElem? hl
 have hblk : blkW f b s = thrW f l s := by unfold blkW; rw [hl]
 rw [hblk]
 have HST := hide (fun (x : InsV) (hx : x ∈ l) (va : Value) (W : World) (hW : Below w.heap.size w W) (hxi : InsI W (· < B) va x) (u1 u2 : Value) (t : KSt) (ht : GoodK f t) (g1 : SetV W u1 t.1) (g2 : SetV W u2 t.2) => jk8 vk vb vs f x va W B (by have := hW.size; omega) (HIK.out W hW) hxi u1 u2 t ht g1 g2 hok.kinds hok.bl hD (hok.sets l hlm x hx))
 have HSG := hide (fun (x : InsV) (hx : x ∈ l) (t : KSt) (ht : GoodK f t) => jfh ht hok.kinds (hok.sets l hlm x hx))
 obtain ⟨TH, hTH⟩ : ∃ TH : Nat -> KSt, (fun k => thrW f (l.take k) s) = TH := ⟨_, rfl⟩
 have hTH2 : ∀ k, thrW f (l.take k) s = TH k := fun k => by rw [<- hTH]
 have HTS := hide (fun (k : Nat) (x : InsV) (hx : l[k]? = some x) => (show TH (k + 1) = jb2 f x (TH k) from by rw [<- hTH2, <- hTH2, List.take_add_one, hx]; exact jdu f (l.take k) x s))
 have HT0 := hide (show TH 0 = s from by rw [<- hTH2, List.take_zero]; rfl)
 have HTL := hide (show TH l.length = thrW f l s from by rw [<- hTH2, List.take_length])
 have HGS := hide hs
 have HS1 := hide (fun (W : World) (hW : Below w.heap.size w W) => h1.below hW)
 have HS2 := hide (fun (W : World) (hW : Below w.heap.size w W) => h2.below hW)
 obtain ⟨Ak, ck, rfl, hck, hmk⟩ := hi.1.open'
 obtain ⟨Ab, cb, rfl, hcb, hmb⟩ := hi.2.1.open'
 obtain ⟨As, cs, rfl, hcs, hms⟩ := hi.2.2.1.open'
 rw [<- HTL.out]
 obtain ⟨bb, ob, Al, cl, hAs, hbb, d0, hli⟩ := hi.2.2.1.get hl
 subst hAs
 have hm4 : l.length <= 9223372036854775807 := by obtain ⟨A, c, -, h1, h2⟩ := hli.open'; omega
 have hbk40 := hok.flow.1
 obtain ⟨ll, hll⟩ := zl l.length
 have HLL := hide hll
 have HLI := hide (fun (W : World) (hW : Below w.heap.size w W) => hli.keep (S' := (· < B)) (up hW hB) (fun _ h => h))
 rw [hll] at HLI hm4 d0 ⊢
 clear hi hs h1 h2 hok hTH hTH2 hblk hli hl hll
 generalize f.kinds.length = lk, f.base.length = lb, f.blocks.length = ls, f.params = fp, f.result = fr at *
 have rb0 : (0 : Int) <= (b : Int) := by omega
 have rb1 : (b : Int) < (ls : Int) := by omega
 go_enter Tryz.func51, Tryz.ntmps51
 go_upto_region 1 with (fail)
 obtain ⟨w1, hw1⟩ := zr (w.alloc (.cells #[.slice Ak lk ck, .slice Ab lb cb, .int .i64 fp, .int .i64 fr, .slice (some ⟨bb, ob, none⟩) ls cs] 52))
 obtain ⟨h5, hh5⟩ := zl w.heap.size
 have HX0 := zx1 hw1 hh5
 have HB1 := zb1 hw1
 have w1s := HB1.out.size
 have w1z := zs1 hw1 hh5
 have HK0 := zk5 HX0
 have lHX0 := HX0.out.lt
 have h5g : w.heap.size <= h5 := by omega
 rw [<- hw1, hh5]
 clear hw1 hh5
 obtain ⟨c0, c1, c2, c3, c4⟩ := HK0.out w1 (Below.refl _ _)
 have d1 := (HB1.out.cell (p := ⟨bb, ob + b, none⟩) (show bb < w.heap.size by omega)).trans d0
 have lbb : bb < w1.heap.size := by omega
 have HU1 := hide (show SetV w1 v1 (TH 0).1 from by rw [HT0.out]; exact HS1.out w1 HB1.out)
 have HU2 := hide (show SetV w1 v2 (TH 0).2 from by rw [HT0.out]; exact HS2.out w1 HB1.out)
 have HG0 := hide (show GoodK f (TH 0) from by rw [HT0.out]; exact HGS.out)
 go_wp2
 clear c0 c1 c2 c3 c4 d1 d0
 go_loopw [2, 3, 11] (fun a1 a2 i wr => ∃ (k3 : Nat) (u1 u2 : Value), u1 = a1 /\ u2 = a2 /\ k3 <= ll /\ i = .int .i64 k3 /\ Hid (SetV wr u1 (TH k3).1) /\ Hid (SetV wr u2 (TH k3).2) /\ Hid (GoodK f (TH k3)) /\ Below w1.heap.size w1 wr) (fun _ _ i _ => ll - (intOf i).toNat)
 case atStart => exact ⟨0, _, _, rfl, rfl, Nat.zero_le _, rfl, HU1, HU2, HG0, Below.refl _ _⟩
 case round =>
  obtain ⟨k3, u1, u2, rfl, rfl, hk3, rfl, HU1', HU2', HG, hb⟩ := hrel
  obtain ⟨wo, rfl⟩ := zr wr
  have HC3 := hide hb
  have HW3 := hide (HB1.out.trans (hb.mono HB1.out.size))
  have lwo := hb.size
  clear hb HU1 HU2 HG0
  by_cases hlt : k3 < ll
  case neg =>
   obtain rfl : ll = k3 := by omega
   have hnl : ¬ ((ll : Int) < (ll : Int)) := by omega
   go_wp2
   go_ret2
   exact ⟨_, _, rfl, HU1'.out, HU2'.out, HW3.out⟩
  obtain ⟨x, hx⟩ : ∃ x, l[k3]? = some x := ⟨_, List.getElem?_eq_getElem (by have := HLL.out; omega)⟩
  obtain ⟨bx, ox, Ay, cy, hAl, hbx, ⟨z0, z1, z2, z3, z4, z5, z6⟩, hxi⟩ := (HLI.out wo HW3.out).get hx
  subst hAl
  have hxm := List.mem_of_getElem? hx
  have HSX := hide (HST.out x hxm (.slice Ay x.args.length cy) wo.drew (ja0 HW3.out 1) hxi u1 u2 (TH k3) HG.out HU1'.out HU2'.out)
  have HSN := hide (HSG.out x hxm (TH k3) HG.out)
  have hTE := HTS.out k3 x hx
  rw [<- hTE] at HSX HSN
  clear hxi hx hxm hTE
  generalize x.args.length = ly, x.op = yo, x.d = yd, x.a = ya, x.b = yb, x.n = yn, x.m = ym at *
  have lbx : bx < wo.heap.size := by omega
  have lh5 : h5 < wo.heap.size := by omega
  have rk0 : (0 : Int) <= (k3 : Int) := by omega
  have rk1 : (k3 : Int) < (ll : Int) := by omega
  have HQF := hide (fun (W : World) (hW : Below wo.heap.size wo W) => HK0.out W (HC3.out.trans (hW.mono HC3.out.size)))
  have HQX := hide (fun (W : World) (hW : Below wo.heap.size wo W) => And.intro ((hW.cell (p := ⟨bx, ox + k3 * 7, none⟩) lbx).trans z0) (And.intro ((hW.cell (p := ⟨bx, ox + k3 * 7 + 1, none⟩) lbx).trans z1) (And.intro ((hW.cell (p := ⟨bx, ox + k3 * 7 + 2, none⟩) lbx).trans z2) (And.intro ((hW.cell (p := ⟨bx, ox + k3 * 7 + 3, none⟩) lbx).trans z3) (And.intro ((hW.cell (p := ⟨bx, ox + k3 * 7 + 4, none⟩) lbx).trans z4) (And.intro ((hW.cell (p := ⟨bx, ox + k3 * 7 + 5, none⟩) lbx).trans z5) ((hW.cell (p := ⟨bx, ox + k3 * 7 + 6, none⟩) lbx).trans z6)))))))
  obtain ⟨c0, c1, c2, c3, c4⟩ := HQF.out wo (Below.refl _ _)
  go_wp2_with fail
  go_region_held3 (fun w' => (w'.cell? ⟨h5, 0, none⟩ = some (.slice Ak lk ck) /\ w'.cell? ⟨h5, 1, none⟩ = some (.slice Ab lb cb) /\ w'.cell? ⟨h5, 2, none⟩ = some (.int .i64 fp) /\ w'.cell? ⟨h5, 3, none⟩ = some (.int .i64 fr) /\ w'.cell? ⟨h5, 4, none⟩ = some (.slice (some ⟨bb, ob, none⟩) ls cs)) /\ w'.cell? ⟨bx, ox + k3 * 7, none⟩ = some (.int .i64 yo) /\ w'.cell? ⟨bx, ox + k3 * 7 + 1, none⟩ = some (.int .i64 yd) /\ w'.cell? ⟨bx, ox + k3 * 7 + 2, none⟩ = some (.int .i64 ya) /\ w'.cell? ⟨bx, ox + k3 * 7 + 3, none⟩ = some (.int .i64 yb) /\ w'.cell? ⟨bx, ox + k3 * 7 + 4, none⟩ = some (.int .i64 yn) /\ w'.cell? ⟨bx, ox + k3 * 7 + 5, none⟩ = some (.int .i64 ym) /\ w'.cell? ⟨bx, ox + k3 * 7 + 6, none⟩ = some (.slice Ay ly cy)) (first | go_keep | (exact q8))
   (first
    | (go_at_call 33; refine (HSX.out).mono ?_; rintro e w8 ⟨r1, r2, rfl, hr1, hr2, hb8⟩; have hb8' : Below wo.heap.size wo w8 := ⟨hb8.os, hb8.tape, hb8.output, hb8.size, hb8.block⟩; have q8 := And.intro (HQF.out w8 hb8') (HQX.out w8 hb8'); have HB8 := hide hb8'; have HR1 := hide hr1; have HR2 := hide hr2; clear hb8 hb8' hr1 hr2))
  go_wp2
  go_roundw
  case rel => exact ⟨k3 + 1, _, _, rfl, rfl, by omega, by go_num, HR1, HR2, HSN, HC3.out.trans (HB8.out.mono HC3.out.size)⟩
  case measure => simp [intOf]; omega
def allW : Nat -> List Nat
 | 0 => []
 | k + 1 => jaw [allW k, ofL [(k : Int)]]
theorem jlo : ∀ k, Tidy (allW k)
 | 0 => je5
 | k + 1 => jc1 _
theorem jfa : ∀ k, W64 (allW k)
 | 0 => W64.nil
 | k + 1 => by rw [allW, jd3]; exact (jgp (jfa k) _).neat
theorem jfb : ∀ k, (allW k).length <= 64
 | 0 => by simp [allW]
 | k + 1 => by rw [allW, jd3]; exact Nat.le_trans (jd0 _) (Nat.le_trans (jdv _ _) (by have := jfb k; omega))
theorem jd8 (m : Nat) : ∀ k, k <= 4096 -> (hasB (allW k) (m : Int) = true ↔ m < k)
 | 0, _ => by simp [allW, jgd]
 | k + 1, hk => by
  rw [allW, jdz, Bool.or_eq_true, jd8 m k (by omega), decide_eq_true_eq, List.mem_singleton]
  omega
theorem rall_any (vk vb vs : Value) (f : FunV) (w : World) (B : Nat) (hB : B <= w.heap.size) (hi : FunI w (· < B) vk vb vs f) (hk : f.kinds.length <= 48) :
  Calls Tryz.prog 48 #[.agg #[vk, vb, .int .i64 f.params, .int .i64 f.result, vs]] w fun e w' => ∃ r, e = .returned r /\ SetV w' r (allW f.kinds.length) /\ Below w.heap.size w w' := by
 have HWI := hide (fun (v : Value) (k : Nat) (hk : k <= 48) (W : World) (hv : SetV W v (allW k)) => jn3 (hv.below (jdc W (.cells #[.int .i64 (k : Int)] 3))) (by have := jfb k; omega) (jfa k) (some ⟨W.heap.size, 0, none⟩) 1 1 [(k : Int)] (jgt W (k : Int)) rfl (by omega) (fun y hy => by obtain rfl := List.mem_singleton.1 hy; unfold i64R; omega))
 have HWS := hide (fun k => (show jaw [allW k, ofL [(k : Int)]] = allW (k + 1) from rfl))
 obtain ⟨Ak, ck, rfl, hck, hmk⟩ := hi.1.open'
 obtain ⟨Ab, cb, rfl, hcb, hmb⟩ := hi.2.1.open'
 obtain ⟨As, cs, rfl, hcs, hms⟩ := hi.2.2.1.open'
 generalize f.kinds.length = lk, f.base.length = lb, f.blocks.length = ls, f.params = fp, f.result = fr at *
 clear hi
 go_enter Tryz.func48, Tryz.ntmps48
 go_upto_region 1 with (fail)
 obtain ⟨w1, hw1⟩ := zr (w.alloc (.cells #[.slice Ak lk ck, .slice Ab lb cb, .int .i64 fp, .int .i64 fr, .slice As ls cs] 52))
 obtain ⟨h5, hh5⟩ := zl w.heap.size
 have HX1 := zx1 hw1 hh5
 have HB1 := zb1 hw1
 have HK1 := zk5 HX1
 have HUP := hide (fun (W : World) (hW : Below w1.heap.size w1 W) => HB1.out.trans (hW.mono HB1.out.size))
 have l1 := HX1.out.lt
 have hw1s := HB1.out.size
 rw [<- hw1, hh5]
 clear hw1 hh5
 obtain ⟨c0, c1, c2, c3, c4⟩ := HK1.out w1 (Below.refl _ _)
 have HU0 := hide (show SetV w1 (.slice none 0 0) (allW 0) from ⟨none, 0, rfl, Nat.le_refl _, by omega, Sl.nil _ _ _ _⟩)
 clear c0 c1 c2 c3 c4
 go_wp2
 go_loopw [3, 4] (fun a i wr => ∃ (k : Nat) (u : Value), u = a /\ k <= lk /\ i = .int .i64 k /\ Hid (SetV wr u (allW k)) /\ Below w1.heap.size w1 wr) (fun _ i _ => lk - (intOf i).toNat)
 case atStart => exact ⟨0, _, rfl, Nat.zero_le _, rfl, HU0, Below.refl _ _⟩
 case round =>
  obtain ⟨k, u, rfl, hkl, rfl, HU, hb⟩ := hrel
  obtain ⟨wo, rfl⟩ := zr wr
  have HC3 := hide hb
  obtain ⟨c0, c1, c2, c3, c4⟩ := HK1.out wo hb
  have lwo := hb.size
  have lh5 : h5 < wo.heap.size := by omega
  clear hb HU0
  by_cases hlt : k < lk
  case neg =>
   obtain rfl : lk = k := by omega
   have hnl : ¬ ((lk : Int) < (lk : Int)) := by omega
   go_wp2
   go_ret
   exact ⟨_, rfl, HU.out, HB1.out.trans (HC3.out.mono HB1.out.size)⟩
  have HWI2 := hide (HWI.out u k (by omega) wo HU.out)
  rw [HWS.out] at HWI2
  have HA1 := hide (jdc wo (.cells #[.int .i64 (k : Int)] 3))
  have rk1 : (k : Int) < (lk : Int) := by omega
  go_wp2_with (go_at_call 49; (with_reducible refine (HWI2.out).mono ?_); rintro e w4 ⟨r, rfl, hr, hb4⟩; have hq : Below wo.heap.size wo w4 := HA1.out.trans (hb4.mono HA1.out.size); have HC4 := hide (HC3.out.trans (hq.mono HC3.out.size)); have HRV := hide hr; clear hr hb4 hq)
  go_roundw
  case rel => exact ⟨k + 1, _, rfl, by omega, by go_num, HRV, HC4.out⟩
  case measure => simp [intOf]; omega
theorem mem_edges {f : FunV} {e : Int × Int} : e ∈ jbi f ↔ ∃ b : Nat, b < f.blocks.length /\ e.1 = (b : Int) /\ e.2 ∈ nxt f b := by
 unfold jbi jcp
 simp only [List.mem_flatMap, List.mem_range, List.mem_map]
 constructor
 ·rintro ⟨b, hb, c, hc, rfl⟩
  exact ⟨b, hb, rfl, hc⟩
 ·rintro ⟨b, hb, h1, h2⟩
  exact ⟨b, hb, e.2, h2, by rw [<- h1]⟩
theorem jnw {f : FunV} (hk : f.kinds.length <= 48) {a b : Nat} (ha : a <= f.kinds.length) (hb : b <= f.kinds.length) : GoodK f (allW a, allW b) where
 t1 := jlo a
 t2 := jlo b
 w1 := jfa a
 w2 := jfa b
 l1 := jfb a
 l2 := jfb b
 bnd := fun k m h => by
  cases k
  ·have := (jd8 m a (by omega)).1 ((jc7 (allW a, allW b) m).1 h); omega
  ·have := (jd8 m b (by omega)).1 ((jbr (allW a, allW b) m).1 h); omega
structure SI (f : FunV) (σ : Nat -> KSt) : Prop where
 good : ∀ b, GoodK f (σ b)
 none : ∀ b : Nat, ¬ Pth f 0 (b : Int) -> σ b = ([], [])
 zero : leS (semK (σ 0)) (kIni f)
 above : ∀ b : Nat, Pth f 0 (b : Int) -> leS (kAt f b) (semK (σ b))
def updS (σ : Nat -> KSt) (c : Nat) (s : KSt) (b : Nat) : KSt := if b = c then s else σ b
theorem jdt (σ : Nat -> KSt) (c : Nat) (s : KSt) : updS σ c s c = s := by simp [updS]
theorem jch {σ : Nat -> KSt} {c b : Nat} {s : KSt} (h : b ≠ c) : updS σ c s b = σ b := by simp [updS, h]
theorem jpr {σ : Nat -> KSt} {c : Nat} : updS σ c (σ c) = σ := funext fun b => by
 by_cases h : b = c
 ·subst h; rw [jdt]
 ·rw [jch h]
def iniS (f : FunV) (R : Nat -> Bool) (b : Nat) : KSt := if b = 0 then (allW f.params.toNat, []) else if R b = true then (allW f.kinds.length, allW f.kinds.length) else ([], [])
theorem jkx {f : FunV} (h : KOk f) (k : Bool) (m : Nat) : semK ((allW f.params.toNat, []) : KSt) k m ↔ kIni f k m := by
 have := h.pn
 have := h.pk
 have := h.kinds
 cases k
 ·rw [jc7]
  unfold kIni
  rw [jd8 m _ (by omega)]
  constructor
  ·intro h1; exact ⟨rfl, by omega, by omega⟩
  ·rintro ⟨-, h1, h2⟩; omega
 ·rw [jbr]
  unfold kIni
  simp [jgd]
theorem SI.start {f : FunV} (h : KOk f) {R : Nat -> Bool} (hR : ∀ b : Nat, b < f.blocks.length -> (R b = true ↔ Pth f 0 (b : Int))) (hRn : ∀ b : Nat, ¬ b < f.blocks.length -> R b = false) : SI f (iniS f R) where
 good := fun b => by
  have := h.pn
  have := h.pk
  unfold iniS
  split
  ·have g := jnw h.kinds (a := f.params.toNat) (b := 0) (by omega) (by omega)
   exact g
  ·split
   ·exact jnw h.kinds (Nat.le_refl _) (Nat.le_refl _)
   ·exact GoodK.nil f
 none := fun b hb => by
  unfold iniS
  rw [if_neg (fun e => hb (by subst e; exact Pth.refl _ _)), if_neg]
  intro hr
  by_cases hl : b < f.blocks.length
  ·exact hb ((hR b hl).1 hr)
  ·rw [hRn b hl] at hr; cases hr
 zero := fun k m hm => (jkx h k m).1 (by unfold iniS at hm; rw [if_pos rfl] at hm; exact hm)
 above := fun b hb k m hm => by
  unfold iniS
  split
  ·rename_i e
   subst e
   exact (jkx h k m).2 ((jdy f).zero k m hm)
  ·have hl : b < f.blocks.length := by
    obtain ⟨n, h1, h2⟩ := Pth.nat h.flow (a := 0) hb h.one
    omega
   rw [if_pos ((hR b hl).2 hb)]
   have h1 := ((jdy f).inK h.flow hb).1 k m hm
   have := h.kinds
   cases k
   ·exact (jc7 (allW f.kinds.length, allW f.kinds.length) m).2 ((jd8 m _ (by omega)).2 h1)
   ·exact (jbr (allW f.kinds.length, allW f.kinds.length) m).2 ((jd8 m _ (by omega)).2 h1)
section
variable {f : FunV} {σ : Nat -> KSt} {b c : Nat}
theorem SI.upd (h : SI f σ) (hk : KOk f) (hb : Pth f 0 (b : Int)) (hc : (c : Int) ∈ nxt f b) : SI f (updS σ c (jbd (σ c) (blkW f b (σ b)))) := by
 have hg := jcx hk b (h.good b)
 have hl : leS (semK (jbd (σ c) (blkW f b (σ b)))) (semK (σ c)) := fun k m hm => ((jb9 _ _ k m).1 hm).1
 have hcp : Pth f 0 (c : Int) := hb.trans (Pth.step (by omega) (by rwa [Int.toNat_natCast]))
 refine ⟨fun x => ?_, fun x hx => ?_, ?_, fun x hx => ?_⟩
 ·by_cases e : x = c
  ·subst e; rw [jdt]; exact (h.good x).meet hg.1
  ·rw [jch e]; exact h.good x
 ·rw [jch (fun e => hx (by rw [e]; exact hcp))]
  exact h.none x hx
 ·by_cases e : 0 = c
  ·subst e; rw [jdt]; exact hl.trans h.zero
  ·rw [jch e]; exact h.zero
 ·by_cases e : x = c
  ·subst e
   rw [jdt]
   exact fun k m hm => (jb9 _ _ k m).2 ⟨h.above x hx k m hm, (hg.2 k m).2 (jdx b (h.above b hb) k m ((jdy f).edge b x hb hc k m hm))⟩
  ·rw [jch e]; exact h.above x hx
def potT (f : FunV) (σ : Nat -> KSt) : Nat := ((List.range f.blocks.length).map (fun b => potS f (some (σ b)))).sum
theorem potT_upd {s : KSt} (hc : c < f.blocks.length) (h : potS f (some s) < potS f (some (σ c))) : potT f (updS σ c s) < potT f σ := by
 unfold potT
 refine jhv hc (fun x hx => by rw [jch hx]) ?_
 rw [jdt]
 exact h
theorem jo3 {n B : Nat} {g : Nat -> Nat} (h : ∀ b, b < n -> g b <= B) : ((List.range n).map g).sum <= n * B := by
 induction n with
 | zero => simp
 | succ n ih =>
  rw [List.range_succ, List.map_append, List.sum_append]
  simp only [List.map_cons, List.map_nil, List.sum_cons, List.sum_nil, Nat.add_zero]
  have := ih (fun b hb => h b (by omega))
  have := h n (by omega)
  rw [Nat.succ_mul]
  omega
theorem potT_le (f : FunV) (σ : Nat -> KSt) : potT f σ <= f.blocks.length * (2 * f.kinds.length) := jo3 fun b _ => jis f (σ b)
def Kept (f : FunV) (σ : Nat -> KSt) (e : Int × Int) : Prop := ∀ b c : Nat, e = ((b : Int), (c : Int)) -> Pth f 0 (b : Int) -> leS (semK (σ c)) (kBlk f b (semK (σ b)))
def Rest (f : FunV) (σ : Nat -> KSt) : Prop := ∀ e ∈ jbi f, Kept f σ e
theorem SI.at (h : SI f σ) (hk : KOk f) (hr : Rest f σ) (b : Nat) : KAt f b (σ b) := by
 by_cases hb : Pth f 0 (b : Int)
 ·have hs : Sol f (fun b => semK (σ b)) := ⟨h.zero, fun x c hx hc => by
   have hl : x < f.blocks.length := by
    obtain ⟨n, h1, h2⟩ := Pth.nat hk.flow (a := 0) hx hk.one
    omega
   exact hr ((x : Int), (c : Int)) (mem_edges.2 ⟨x, hl, rfl, hc⟩) x c rfl hx⟩
  exact .inl ⟨hb, h.good b, fun k m => ⟨fun hm => hs.le b k m hm, h.above b hb k m⟩⟩
 ·exact .inr ⟨hb, h.none b hb⟩
structure PS (f : FunV) (P0 : Nat) (j : Nat) (σ : Nat -> KSt) : Prop where
 si : SI f σ
 way : Rest f σ \/ potT f σ < P0 \/ (potT f σ = P0 /\ ∀ e ∈ (jbi f).take j, Kept f σ e)
theorem PS.start (h : SI f σ) : PS f (potT f σ) 0 σ := ⟨h, .inr (.inr ⟨rfl, by simp⟩)⟩
theorem jkm {s t : KSt} (hs : GoodK f s) (ht : GoodK f t) : jbd t s = t ↔ leS (semK t) (semK s) := by
 constructor
 ·intro e k m h
  have h2 : semK (jbd t s) k m := e.symm ▸ h
  exact ((jb9 _ _ k m).1 h2).2
 ·intro h
  exact (ht.meet hs).ext ht fun k m => ⟨fun h2 => ((jb9 _ _ k m).1 h2).1, fun h2 => (jb9 _ _ k m).2 ⟨h2, h k m h2⟩⟩
theorem PS.skip {P0 j : Nat} (h : PS f P0 j σ) (he : (jbi f)[j]? = some ((b : Int), (c : Int))) (hb : ¬ Pth f 0 (b : Int)) : PS f P0 (j + 1) σ := by
 refine ⟨h.si, ?_⟩
 rcases h.way with h1 | h1 | ⟨h1, h2⟩
 ·exact .inl h1
 ·exact .inr (.inl h1)
 ·refine .inr (.inr ⟨h1, fun e hm => ?_⟩)
  rw [List.take_add_one, he] at hm
  simp only [Option.toList_some, List.mem_append, List.mem_singleton] at hm
  rcases hm with hm | rfl
  ·exact h2 e hm
  ·intro b' c' e2 hp
   injection e2 with e3 e4
   obtain rfl : b = b' := by omega
   exact absurd hp hb
theorem PS.step {P0 j : Nat} (h : PS f P0 j σ) (hk : KOk f) (he : (jbi f)[j]? = some ((b : Int), (c : Int))) (hb : Pth f 0 (b : Int)) : PS f P0 (j + 1) (updS σ c (jbd (σ c) (blkW f b (σ b)))) := by
 have hmem := List.mem_of_getElem? he
 obtain ⟨b', hb', e1, hc⟩ := mem_edges.1 hmem
 have e1' : (b : Int) = (b' : Int) := e1
 obtain rfl : b = b' := by omega
 have hc' : (c : Int) ∈ nxt f b := hc
 have hcl : c < f.blocks.length := by have := hk.flow.2.2 b _ hc'; omega
 have hg := jcx hk b (h.si.good b)
 refine ⟨h.si.upd hk hb hc', ?_⟩
 by_cases hm : jbd (σ c) (blkW f b (σ b)) = σ c
 ·rw [hm, jpr]
  have hkept : Kept f σ ((b : Int), (c : Int)) := fun b2 c2 e2 hp => by
   injection e2 with e3 e4
   obtain rfl : b = b2 := by omega
   obtain rfl : c = c2 := by omega
   exact fun k m hx => (hg.2 k m).1 ((jkm hg.1 (h.si.good c)).1 hm k m hx)
  rcases h.way with h1 | h1 | ⟨h1, h2⟩
  ·exact .inl h1
  ·exact .inr (.inl h1)
  ·refine .inr (.inr ⟨h1, fun e hx => ?_⟩)
   rw [List.take_add_one, he] at hx
   simp only [Option.toList_some, List.mem_append, List.mem_singleton] at hx
   rcases hx with hx | rfl
   ·exact h2 e hx
   ·exact hkept
 ·have hl : leS (semK (jbd (σ c) (blkW f b (σ b)))) (semK (σ c)) := fun k m hm => ((jb9 _ _ k m).1 hm).1
  have hp := potT_upd (f := f) (σ := σ) hcl (jql ((h.si.good c).meet hg.1) (h.si.good c) hl hm)
  rcases h.way with h1 | h1 | ⟨h1, h2⟩
  ·exact absurd ((jkm hg.1 (h.si.good c)).2 (fun k m hx => (hg.2 k m).2 (h1 _ hmem b c rfl hb k m hx))) hm
  ·exact .inr (.inl (by omega))
  ·exact .inr (.inl (by omega))
structure TS (f : FunV) (t : Nat) (σ : Nat -> KSt) : Prop where
 si : SI f σ
 way : Rest f σ \/ potT f σ + t <= f.blocks.length * (2 * f.kinds.length)
theorem TS.start (h : SI f σ) : TS f 0 σ := ⟨h, .inr (by have := potT_le f σ; omega)⟩
def TP (f : FunV) (t j : Nat) (σ : Nat -> KSt) : Prop := ∃ P0, PS f P0 j σ /\ (P0 = 0 \/ P0 + t <= f.blocks.length * (2 * f.kinds.length))
theorem TS.go {t : Nat} (h : TS f t σ) : TP f t 0 σ := by
 rcases h.way with h1 | h1
 ·exact ⟨0, ⟨h.si, .inl h1⟩, .inl rfl⟩
 ·exact ⟨_, PS.start h.si, .inr h1⟩
theorem TP.skip {t j : Nat} (h : TP f t j σ) (he : (jbi f)[j]? = some ((b : Int), (c : Int))) (hb : ¬ Pth f 0 (b : Int)) : TP f t (j + 1) σ := let ⟨P0, h1, h2⟩ := h; ⟨P0, h1.skip he hb, h2⟩
theorem TP.step {t j : Nat} (h : TP f t j σ) (hk : KOk f) (he : (jbi f)[j]? = some ((b : Int), (c : Int))) (hb : Pth f 0 (b : Int)) : TP f t (j + 1) (updS σ c (jbd (σ c) (blkW f b (σ b)))) := let ⟨P0, h1, h2⟩ := h; ⟨P0, h1.step hk he hb, h2⟩
theorem TP.si {t j : Nat} (h : TP f t j σ) : SI f σ := let ⟨_, h1, _⟩ := h; h1.si
theorem TP.done {t j : Nat} (h : TP f t j σ) (hj : (jbi f).length <= j) : TS f (t + 1) σ := by
 obtain ⟨P0, h1, h2⟩ := h
 refine ⟨h1.si, ?_⟩
 rcases h1.way with h3 | h3 | ⟨h3, h4⟩
 ·exact .inl h3
 ·exact .inr (by omega)
 ·rw [List.take_of_length_le hj] at h4
  exact .inl h4
theorem TS.end {t : Nat} (h : TS f t σ) (hk : KOk f) (ht : f.blocks.length * (2 * f.kinds.length) < t) (b : Nat) : KAt f b (σ b) := by
 rcases h.way with h1 | h1
 ·exact h.si.at hk h1 b
 ·omega
end
def AV (w : World) (g n : Nat) (τ : Nat -> List Nat) : Prop := ∃ vs : Nat -> Value, Box w g ((List.range n).map vs).toArray 79 /\ ∀ b, b < n -> SetV w (vs b) (τ b)
theorem SetV.far {w : World} {g j : Nat} {cs : Array Value} {T : TypeId} {v u : Value} {s : List Nat} (h : SetV w v s) (hb : Box w g cs T) (hc : ∀ (i : Nat) (x : Value), cs[i]? = some x -> ∃ A n c, x = .slice A n c) : SetV (w.setCell ⟨g, j, none⟩ u) v s := by
 obtain ⟨A, c, e, h1, h2, h3⟩ := h
 refine ⟨A, c, e, h1, h2, fun hp => ?_⟩
 obtain ⟨b, o, e2, h4, h5⟩ := h3 hp
 have hne : b ≠ g := fun e3 => by
  subst e3
  have h6 := h5 0 hp
  rw [cell_of_row w b (o + 0) cs T (0, 0) hb] at h6
  obtain ⟨A', n', c', h7⟩ := hc _ _ h6
  cases h7
 refine ⟨b, o, e2, by rw [World.size_setCell]; exact h4, fun i hi => ?_⟩
 rw [World.cell?_of_block (w := w) (a := ⟨b, o + i, none⟩) (heap_setCell_other w ⟨g, j, none⟩ b u hne)]
 exact h5 i hi
theorem AV.slices {w : World} {n : Nat} {τ : Nat -> List Nat} {vs : Nat -> Value} (hv : ∀ b, b < n -> SetV w (vs b) (τ b)) : ∀ (i : Nat) (x : Value), (((List.range n).map vs).toArray)[i]? = some x -> ∃ A n c, x = .slice A n c := fun i x hx => by
 rw [List.getElem?_toArray, List.getElem?_map] at hx
 by_cases hi : i < n
 ·rw [List.getElem?_range hi] at hx
  obtain rfl := Option.some.inj hx
  obtain ⟨A, c, e, -⟩ := hv i hi
  exact ⟨A, _, c, e⟩
 ·rw [List.getElem?_eq_none (by simp; omega)] at hx
  cases hx
section
variable {w w' : World} {g n b : Nat} {τ τ' : Nat -> List Nat} {v : Value} {s : List Nat}
theorem AV.below (h : AV w g n τ) (hb : Below w.heap.size w w') : AV w' g n τ := let ⟨vs, h1, h2⟩ := h; ⟨vs, h1.below hb, fun b hl => (h2 b hl).below hb⟩
theorem AV.ext (h : AV w g n τ) (e : ∀ b, b < n -> τ b = τ' b) : AV w g n τ' := let ⟨vs, h1, h2⟩ := h; ⟨vs, h1, fun b hl => e b hl ▸ h2 b hl⟩
theorem AV.lt (h : AV w g n τ) : g < w.heap.size := let ⟨_, h1, _⟩ := h; h1.lt
theorem AV.cell (h : AV w g n τ) (hb : b < n) : ∃ A m c, w.cell? ⟨g, b, none⟩ = some (.slice A m c) /\ w.frozen? ⟨g, b, none⟩ = false /\ SetV w (.slice A m c) (τ b) := by
 obtain ⟨vs, h1, h2⟩ := h
 obtain ⟨A, c, e, h3⟩ := h2 b hb
 obtain ⟨h4, h5⟩ := h1.cell b (v := vs b) (by simp [hb])
 rw [e] at h4
 exact ⟨A, _, c, h4, h5, ⟨A, c, rfl, h3⟩⟩
theorem AV.set (h : AV w g n τ) (hv : SetV w v s) : AV (w.setCell ⟨g, b, none⟩ v) g n (fun x => if x = b then s else τ x) := by
 obtain ⟨vs, h1, h2⟩ := h
 have hs := AV.slices h2
 refine ⟨fun x => if x = b then v else vs x, ?_, fun x hx => ?_⟩
 ·have h3 := h1.set b v
  have e : (((List.range n).map vs).toArray).setIfInBounds b v = ((List.range n).map (fun x => if x = b then v else vs x)).toArray := by
   rw [List.setIfInBounds_toArray]
   congr 1
   apply List.ext_getElem
   ·simp
   ·intro i h1 h2
    rw [List.getElem_set]
    simp only [List.getElem_map, List.getElem_range]
    by_cases e : b = i
    ·subst e; simp
    ·rw [if_neg e, if_neg (fun h => e h.symm)]
  rw [e] at h3
  exact h3
 ·by_cases e : x = b
  ·simp only [if_pos e]
   exact hv.far h1 hs
  ·simp only [if_neg e]
   exact (h2 x hx).far h1 hs
theorem AV.other {g' b' m : Nat} {υ : Nat -> List Nat} (h : AV w g n τ) (h' : AV w g' m υ) (hne : g ≠ g') {u : Value} : AV (w.setCell ⟨g', b', none⟩ u) g n τ := by
 obtain ⟨vs, h1, h2⟩ := h
 obtain ⟨us, h3, h4⟩ := h'
 exact ⟨vs, h1.other hne, fun b hb => (h2 b hb).far h3 (AV.slices h4)⟩
theorem SetV.at (hv : SetV w v s) {g' b' m : Nat} {υ : Nat -> List Nat} (h' : AV w g' m υ) {u : Value} : SetV (w.setCell ⟨g', b', none⟩ u) v s := by
 obtain ⟨us, h3, h4⟩ := h'
 exact hv.far h3 (AV.slices h4)
theorem AV.ini (h : Box w g ((List.replicate n (Value.slice none 0 0))).toArray 79) : AV w g n (fun _ => []) := by
 refine ⟨fun _ => .slice none 0 0, ?_, fun b hb => ⟨none, 0, rfl, Nat.le_refl _, by omega, Sl.nil _ _ _ _⟩⟩
 rw [show (List.range n).map (fun _ => Value.slice none 0 0) = List.replicate n (Value.slice none 0 0) by simp [List.map_const']]
 exact h
end
theorem jrt : (Tryz.prog.info? 79).map (fun i => (i.zero, i.size, i.bytes)) = some (some (.slice none 0 0), 1, 24) := by kernel_rfl
theorem jkq (n : Nat) : madeCells (Value.slice none 0 0).cells (n * 1) = (List.replicate n (Value.slice none 0 0)).toArray := by
 unfold madeCells
 apply Array.ext
 ·simp
 ·intro i h1 h2
  simp [Value.cells, Nat.mod_one]
def MK2S (w1 : World) (n : Nat) (a b : Value) (wx : World) : Prop :=
 ∃ ga gb, a = .slice (some ⟨ga, 0, none⟩) n n /\ b = .slice (some ⟨gb, 0, none⟩) n n /\ ga ≠ gb /\ (w1.heap.size <= ga /\ w1.heap.size <= gb) /\ Below w1.heap.size w1 wx /\ AV wx ga n (fun _ => []) /\ AV wx gb n (fun _ => [])
theorem mk2hS (w : World) (o1 o2 : Obj) : ((w.alloc o1).alloc o2).drew.heap[w.heap.size]? = some o1 /\ ((w.alloc o1).alloc o2).drew.heap[w.heap.size + 1]? = some o2 := by
 have h1 := heap_alloc_new w o1
 have h2 := heap_alloc_new (w.alloc o1) o2
 simp only [World.size_alloc] at h2
 exact ⟨(Below.heap_alloc _ _ _ (by simp only [World.size_alloc]; omega)).trans h1, h2⟩
theorem jr1 {w1 : World} {n ga gb : Nat} {Z : Array Value} {o1 o2 : Obj} (hZ : Z = (List.replicate n (Value.slice none 0 0)).toArray) (hne : ga ≠ gb) (hge : w1.heap.size <= ga /\ w1.heap.size <= gb)
  (h1 : ((w1.alloc o1).alloc o2).drew.heap[ga]? = some (.cells Z 79)) (h2 : ((w1.alloc o1).alloc o2).drew.heap[gb]? = some (.cells Z 79)) :
  MK2S w1 n (.slice (some ⟨ga, 0, none⟩) n n) (.slice (some ⟨gb, 0, none⟩) n n) ((w1.alloc o1).alloc o2).drew := by
 subst hZ
 exact ⟨ga, gb, rfl, rfl, hne, hge, ((((Below.refl _ _).alloc (Nat.le_refl _) _).alloc (by simp only [World.size_alloc]; omega) _).drew), AV.ini h1, AV.ini h2⟩
theorem jhs {f : FunV} (hok : jbn f) {m : List Bool} (h : WGZ f (-1) 0 m) (hc : CloZ f (-1) m) (b : Nat) : metB m (b : Int) = true ↔ Pth f 0 (b : Int) := by
 constructor
 ·intro hm
  exact h.snd (fun z => Pth f 0 z) (Pth.refl _ _) (fun x hx v hv _ => hx.trans (Pth.step (by omega) (by rwa [Int.toNat_natCast]))) b hm
 ·intro hp
  exact hp (fun z => metB m z = true) h.met (fun x hx v hv => hc x hx v hv (by have := hok.2.2 x v hv; omega))
attribute [local go_sem ↓] Go.wp_at_zero Go.wp_at_succ
theorem AV.two {w : World} {g1 g2 n b : Nat} {τ υ : Nat -> List Nat} {v u : Value} {s t : List Nat} (h1 : AV w g1 n τ) (h2 : AV w g2 n υ) (hne : g1 ≠ g2) (hv : SetV w v s) (hu : SetV w u t) :
  AV ((w.setCell ⟨g1, b, none⟩ v).setCell ⟨g2, b, none⟩ u) g1 n (fun x => if x = b then s else τ x) /\ AV ((w.setCell ⟨g1, b, none⟩ v).setCell ⟨g2, b, none⟩ u) g2 n (fun x => if x = b then t else υ x) :=
 ⟨(h1.set hv).other (h2.other h1 (fun e => hne e.symm) (b' := b) (u := v)) hne, (h2.other h1 (fun e => hne e.symm)).set (hu.at h1)⟩
theorem AV.apart {w : World} {g n b o : Nat} {τ : Nat -> List Nat} {k : IntKind} {z : Int} (h : AV w g n τ) (hc : w.cell? ⟨b, o, none⟩ = some (.int k z)) : b ≠ g := fun e => by
 subst e
 obtain ⟨vs, h1, h2⟩ := h
 rw [cell_of_row w b o _ _ (0, 0) h1] at hc
 obtain ⟨A, m, c, h3⟩ := AV.slices h2 _ _ hc
 cases h3
def F2 (g1 g2 : Nat) (w w' : World) : Prop := w.heap.size <= w'.heap.size /\ ∀ k, k < w.heap.size -> k ≠ g1 -> k ≠ g2 -> w'.heap[k]? = w.heap[k]?
theorem F2.refl (g1 g2 : Nat) (w : World) : F2 g1 g2 w w := ⟨Nat.le_refl _, fun _ _ _ _ => rfl⟩
theorem F2.below {g1 g2 : Nat} {w a b : World} (h : F2 g1 g2 w a) (hb : Below a.heap.size a b) : F2 g1 g2 w b := ⟨Nat.le_trans h.1 hb.size, fun k h1 h2 h3 => (hb.block k (by have := h.1; omega)).trans (h.2 k h1 h2 h3)⟩
theorem F2.set1 {g1 g2 j : Nat} {w a : World} {v : Value} (h : F2 g1 g2 w a) : F2 g1 g2 w (a.setCell ⟨g1, j, none⟩ v) := ⟨by rw [World.size_setCell]; exact h.1, fun k h1 h2 h3 => (heap_setCell_other a ⟨g1, j, none⟩ k v h2).trans (h.2 k h1 h2 h3)⟩
theorem F2.set2 {g1 g2 j : Nat} {w a : World} {v : Value} (h : F2 g1 g2 w a) : F2 g1 g2 w (a.setCell ⟨g2, j, none⟩ v) := ⟨by rw [World.size_setCell]; exact h.1, fun k h1 h2 h3 => (heap_setCell_other a ⟨g2, j, none⟩ k v h3).trans (h.2 k h1 h2 h3)⟩
theorem F2.cell {g1 g2 b o : Nat} {w w' : World} (h : F2 g1 g2 w w') (h0 : b < w.heap.size) (h1 : b ≠ g1) (h2 : b ≠ g2) : w'.cell? ⟨b, o, none⟩ = w.cell? ⟨b, o, none⟩ := World.cell?_of_block (a := ⟨b, o, none⟩) (h.2 b h0 h1 h2)
theorem extF {m : List Bool} {k : Nat} {l : List Nat} (h : metB m (k : Int) = false) (b : Nat) : (if b < k /\ metB m (b : Int) = true then l else []) = (if b < k + 1 /\ metB m (b : Int) = true then l else []) := by
 by_cases e : b = k
 ·subst e
  rw [if_neg (fun h => by omega), if_neg (fun h2 => by rw [h] at h2; cases h2.2)]
 ·simp only [show (b < k + 1 ↔ b < k) by omega]
theorem extT {m : List Bool} {k : Nat} {l : List Nat} (h : metB m (k : Int) = true) (b : Nat) : (if b = k then l else if b < k /\ metB m (b : Int) = true then l else []) = (if b < k + 1 /\ metB m (b : Int) = true then l else []) := by
 by_cases e : b = k
 ·subst e
  rw [if_pos rfl, if_pos ⟨by omega, h⟩]
 ·rw [if_neg e]
  simp only [show (b < k + 1 ↔ b < k) by omega]
theorem upd1 (ς : Nat -> KSt) (c : Nat) (k : KSt) (x : Nat) : (if x = c then (jbd (ς c) k).1 else (ς x).1) = (updS ς c (jbd (ς c) k) x).1 := by
 unfold updS
 split <;> rfl
theorem upd2 (ς : Nat -> KSt) (c : Nat) (k : KSt) (x : Nat) : (if x = c then (jbd (ς c) k).2 else (ς x).2) = (updS ς c (jbd (ς c) k) x).2 := by
 unfold updS
 split <;> rfl
theorem metB_out {m : List Bool} {b : Nat} (h : ¬ b < m.length) : metB m (b : Int) = false := by
 unfold metB
 rw [Int.toNat_natCast, List.getD_eq_getElem?_getD, List.getElem?_eq_none (by omega)]
 rfl
theorem jm1 (vk vb vs : Value) (f : FunV) (w : World) (B : Nat) (hB : B <= w.heap.size) (hi : FunI w (· < B) vk vb vs f) (hok : KOk f) (hD : DerB f) :
  Calls Tryz.prog 28 #[.agg #[vk, vb, .int .i64 f.params, .int .i64 f.result, vs]] w fun e w' => ∃ (g1 g2 : Nat) (σ : Nat -> KSt), e = .returned (.tuple #[.slice (some ⟨g1, 0, none⟩) f.blocks.length f.blocks.length, .slice (some ⟨g2, 0, none⟩) f.blocks.length f.blocks.length]) /\ AV w' g1 f.blocks.length (fun b => (σ b).1) /\ AV w' g2 f.blocks.length (fun b => (σ b).2) /\ (∀ b, KAt f b (σ b)) /\ Below w.heap.size w w' := by
 have HIK := hide (fun (W : World) (hW : Below w.heap.size w W) => hi.keep (w := w) (S := (· < B)) (up hW hB) (fun _ h => h))
 have HAL := hide (fun (W : World) (hW : Below w.heap.size w W) => rall_any vk vb vs f W B (by have := hW.size; omega) (HIK.out W hW) hok.kinds)
 have HBK := hide (fun (b : Nat) (hb : b < f.blocks.length) (v1 v2 : Value) (s : KSt) (hs : GoodK f s) (W : World) (hW : Below w.heap.size w W) (h1 : SetV W v1 s.1) (h2 : SetV W v2 s.2) => jod vk vb vs f b hb W B (by have := hW.size; omega) (HIK.out W hW) v1 v2 s hs h1 h2 hok hD)
 have HWT := hide (fun (W : World) (hW : Below w.heap.size w W) => (show Calls Tryz.prog 29 #[.agg #[vk, vb, .int .i64 f.params, .int .i64 f.result, vs], .int .i64 0, .int .i64 (-1)] W fun e w' => ∃ bm m, e = .returned (.slice (some ⟨bm, 0, none⟩) f.blocks.length f.blocks.length) /\ W.heap.size <= bm /\ MB w' bm m /\ (m.length = f.blocks.length /\ ∀ b : Nat, (metB m (b : Int) = true ↔ Pth f 0 (b : Int))) /\ Below W.heap.size W w' from
  (jfx vk vb vs f (-1) 0 (by omega) W B (by have := hW.size; omega) (HIK.out W hW) hok.flow hok.one).mono fun e w' ⟨bm, m, h1, h2, h3, h4, h5⟩ => ⟨bm, m, h1, h2, h3, ⟨h4.1.len, fun b => jhs hok.flow h4.1 h4.2 b⟩, h5⟩))
 have HED := hide (fun (W : World) (hW : Below w.heap.size w W) => joa vk vb vs f W B (by have := hW.size; omega) (HIK.out W hW) hok.flow)
 have HWI := hide (fun (v : Value) (k : Nat) (hk : k <= 48) (W : World) (hv : SetV W v (allW k)) => jn3 (hv.below (jdc W (.cells #[.int .i64 (k : Int)] 3))) (by have := jfb k; omega) (jfa k) (some ⟨W.heap.size, 0, none⟩) 1 1 [(k : Int)] (jgt W (k : Int)) rfl (by omega) (fun y hy => by obtain rfl := List.mem_singleton.1 hy; unfold i64R; omega))
 have HWS := hide (fun k => (show jaw [allW k, ofL [(k : Int)]] = allW (k + 1) from rfl))
 have HT0 := hide (fun (m : List Bool) (hl : m.length = f.blocks.length) (hm : ∀ b : Nat, (metB m (b : Int) = true ↔ Pth f 0 (b : Int))) => (show TS f 0 (iniS f (fun b => metB m (b : Int))) from TS.start (SI.start hok (fun b _ => hm b) (fun b hb => metB_out (by rw [hl]; exact hb)))))
 have HI1 := hide (fun (m : List Bool) (b : Nat) => (show (iniS f (fun b => metB m (b : Int)) b).1 = if b = 0 then allW f.params.toNat else if metB m (b : Int) = true then allW f.kinds.length else [] from by unfold iniS; split <;> (try split) <;> rfl))
 have HI2 := hide (fun (m : List Bool) (b : Nat) => (show (iniS f (fun b => metB m (b : Int)) b).2 = if b = 0 then [] else if metB m (b : Int) = true then allW f.kinds.length else [] from by unfold iniS; split <;> (try split) <;> rfl))
 have HTG := hide (fun (t : Nat) (σ : Nat -> KSt) (h : TS f t σ) => h.go)
 have HTK := hide (fun (t j b c : Nat) (σ : Nat -> KSt) (h : TP f t j σ) (he : (jbi f)[j]? = some ((b : Int), (c : Int))) (hb : ¬ Pth f 0 (b : Int)) => h.skip he hb)
 have HTS := hide (fun (t j b c : Nat) (σ : Nat -> KSt) (h : TP f t j σ) (he : (jbi f)[j]? = some ((b : Int), (c : Int))) (hb : Pth f 0 (b : Int)) => h.step hok he hb)
 have HTD := hide (fun (t j : Nat) (σ : Nat -> KSt) (h : TP f t j σ) (hj : (jbi f).length <= j) => h.done hj)
 have HTE := hide (fun (t : Nat) (σ : Nat -> KSt) (h : TS f t σ) (ht : f.blocks.length * (2 * f.kinds.length) < t) (b : Nat) => h.end hok ht b)
 have HTI := hide (fun (t j : Nat) (σ : Nat -> KSt) (h : TP f t j σ) => h.si)
 have HBG := hide (fun (b : Nat) (s : KSt) (hs : GoodK f s) => (jcx hok b hs).1)
 have HEM := hide (fun (j : Nat) (e : Int × Int) (he : (jbi f)[j]? = some e) => (show ∃ b c : Nat, e = ((b : Int), (c : Int)) /\ b < f.blocks.length /\ c < f.blocks.length from by
  obtain ⟨b, hb, h1, h2⟩ := mem_edges.1 (List.mem_of_getElem? he)
  have h3 := hok.flow.2.2 b _ h2
  exact ⟨b, e.2.toNat, by rw [<- h1, Int.toNat_of_nonneg h3.1], hb, by omega⟩))
 have HEL := hide (jp2 hok.flow)
 obtain ⟨Ak, ck, rfl, hck, hmk⟩ := hi.1.open'
 obtain ⟨Ab, cb, rfl, hcb, hmb⟩ := hi.2.1.open'
 obtain ⟨As, cs, rfl, hcs, hms⟩ := hi.2.2.1.open'
 have hls1 := hok.one
 have hls40 := hok.flow.1
 have hlk48 := hok.kinds
 have hpn := hok.pn
 have hpk := hok.pk
 obtain ⟨pn, hpnn⟩ : ∃ pn : Nat, f.params = (pn : Int) := ⟨f.params.toNat, by omega⟩
 rw [hpnn] at HAL HBK HWT HED HI1 hpk ⊢
 simp only [Int.toNat_natCast] at HI1
 clear hi hok hpn hpnn
 generalize f.kinds.length = lk, f.base.length = lb, f.blocks.length = ls, f.result = fr at *
 go_enter Tryz.func28, Tryz.ntmps28
 go_upto_region 1 with (fail)
 obtain ⟨w1, hw1⟩ := zr (w.alloc (.cells #[.slice Ak lk ck, .slice Ab lb cb, .int .i64 (pn : Int), .int .i64 fr, .slice As ls cs] 52))
 obtain ⟨h5, hh5⟩ := zl w.heap.size
 have HX1 := zx1 hw1 hh5
 have HB1 := zb1 hw1
 have HK1 := zk5 HX1
 have HUP := hide (fun (W : World) (hW : Below w1.heap.size w1 W) => HB1.out.trans (hW.mono HB1.out.size))
 have l1 := HX1.out.lt
 have hw1s := HB1.out.size
 rw [<- hw1, hh5]
 clear hw1 hh5
 obtain ⟨c0, c1, c2, c3, c4⟩ := HK1.out w1 (Below.refl _ _)
 have hmake : ∀ W : World, (Instr.makeSlice 74 (.int .i64 (ls : Int)) (.int .i64 (ls : Int))).run Tryz.prog W = .ok (.slice (some ⟨W.heap.size, 0, none⟩) ls ls) (W.alloc (.cells (madeCells (Value.slice none 0 0).cells (ls * 1)) 79)) := fun W => ji6 74 79 Tryz.underlying74 jrt (by omega) ls (by omega) W
 obtain ⟨mc, hmc⟩ := zl (madeCells (Value.slice none 0 0).cells (ls * 1))
 rw [hmc] at hmake
 have HMC := hide (show mc = (List.replicate ls (Value.slice none 0 0)).toArray by rw [<- hmc]; exact jkq _)
 clear hmc
 go_upto_region 2 with (fail)
 go_cut [5, 6] from 19 to 22 (fun a b wx => MK2S w1 ls a b wx)
 case first =>
  go_region
  all_goals
   go_wp2_with fail
   go_meet
  all_goals first
   | exact jr1 HMC.out (by omega) (by omega) (mk2hS _ _ _).1 (mk2hS _ _ _).2
   | exact jr1 HMC.out (by omega) (by omega) (mk2hS _ _ _).2 (mk2hS _ _ _).1
 case rest =>
  obtain ⟨wm, rfl⟩ := zr wc
  obtain ⟨g1, g2, rfl, rfl, hgne, ⟨hg1, hg2⟩, hbm, ha1, ha2⟩ := hcut
  have HBM := hide hbm
  have HV1 := hide ha1
  have HV2 := hide ha2
  have hg1l := ha1.lt
  have hg2l := ha2.lt
  have hg1h : g1 ≠ h5 := by omega
  have hg2h : g2 ≠ h5 := by omega
  have hmsz := hbm.size
  clear hbm ha1 ha2 hmake
  clear c0 c1 c2 c3 c4
  obtain ⟨c0, c1, c2, c3, c4⟩ := HK1.out wm HBM.out
  have l5m : h5 < wm.heap.size := by omega
  go_upto_region 4 with (go_at_call 29; (with_reducible refine (HWT.out wm (HUP.out wm HBM.out)).mono ?_); rintro e wn ⟨bm, m, rfl, hbm2, hmb, ⟨hml, hmp⟩, hbn⟩; have HBN := hide hbn; have HMB := hide hmb; have HMP := hide hmp; have HML := hide hml; clear hbn hmb hmp hml)
  have HCN := hide (HBM.out.trans (HBN.out.mono hmsz))
  have hnsz := HBN.out.size
  have hbg1 : bm ≠ g1 := by omega
  have hbg2 : bm ≠ g2 := by omega
  have hbh : bm ≠ h5 := by omega
  have hbml : bm < wn.heap.size := HMB.out.lt
  have HV1 := hide (HV1.out.below HBN.out)
  have HV2 := hide (HV2.out.below HBN.out)
  clear c0 c1 c2 c3 c4 l5m
  go_wp2
  go_loopw [8] (fun i wr => ∃ k : Nat, k <= ls /\ i = .int .i64 k /\ Hid (AV wr g1 ls (fun b => if b < k /\ metB m (b : Int) = true then allW lk else [])) /\ Hid (AV wr g2 ls (fun b => if b < k /\ metB m (b : Int) = true then allW lk else [])) /\ Hid (F2 g1 g2 wn wr) /\ Below w1.heap.size w1 wr) (fun i _ => ls - (intOf i).toNat)
  case atStart => exact ⟨0, Nat.zero_le _, rfl, hide (HV1.out.ext (fun b hb => by simp)), hide (HV2.out.ext (fun b hb => by simp)), hide (F2.refl _ _ _), HCN.out⟩
  case round =>
   obtain ⟨k, hk, rfl, HA1, HA2, HF, hb⟩ := hrel
   obtain ⟨wo, rfl⟩ := zr wr
   clear HV1 HV2
   have HC := hide hb
   have HWO := hide (HUP.out wo hb)
   have lwo := HF.out.1
   obtain ⟨c0, c1, c2, c3, c4⟩ := HK1.out wo hb
   have l5 : h5 < wo.heap.size := by omega
   clear hb
   by_cases hlt : k < ls
   case pos =>
    have rk0 : (0 : Int) <= (k : Int) := by omega
    have rk1 : (k : Int) < (ls : Int) := by omega
    have hmk := (HF.out.cell (o := k) hbml hbg1 hbg2).trans (HMB.out.cell (b := k) (by rw [HML.out]; exact hlt)).1
    have lbm : bm < wo.heap.size := by omega
    cases hmb : metB m (k : Int) with
    | false =>
     rw [hmb] at hmk
     have HMF := hide hmb
     clear hmb
     go_wp2
     go_roundw
     case rel => exact ⟨k + 1, by omega, by go_num, hide (HA1.out.ext (fun b hb => (extF HMF.out b))), hide (HA2.out.ext (fun b hb => (extF HMF.out b))), HF, HC.out⟩
     case measure => simp [intOf]; omega
    | true =>
     rw [hmb] at hmk
     have HMF := hide hmb
     clear hmb
     have HAL0 := hide (HAL.out wo.drew (ja0 HWO.out 1))
     have HQF := hide (fun (W : World) (hW : Below wo.heap.size wo W) => HK1.out W (HC.out.trans (hW.mono HC.out.size)))
     have HWU := hide (fun (W : World) (hW : Below wo.heap.size wo W) => HWO.out.trans (hW.mono HWO.out.size))
     go_wp2_with fail
     go_region_held3 (fun w' => w'.cell? ⟨h5, 0, none⟩ = some (.slice Ak lk ck) /\ w'.cell? ⟨h5, 1, none⟩ = some (.slice Ab lb cb) /\ w'.cell? ⟨h5, 2, none⟩ = some (.int .i64 (pn : Int)) /\ w'.cell? ⟨h5, 3, none⟩ = some (.int .i64 fr) /\ w'.cell? ⟨h5, 4, none⟩ = some (.slice As ls cs)) (first | go_keep | (exact q7) | (exact q6))
       (first
        | (go_at_call 48; (with_reducible refine (HAL.out w6 (HWU.out w6 HD6.out)).mono ?_); rintro e w7 ⟨r7, rfl, ⟨A7, d7, e7, hs7⟩, hb7⟩; subst e7; have hc7 := HD6.out.trans (hb7.mono HD6.out.size); have q7 := HQF.out w7 hc7; have HD7 := hide hc7; have HR7 := hide (show SetV w7 (.slice A7 (allW lk).length d7) (allW lk) from ⟨A7, d7, rfl, hs7⟩); have HR6b := hide (HR6.out.below hb7); have HG1 := hide (HA1.out.below hc7); have HG2 := hide (HA2.out.below hc7); obtain ⟨_, _, _, z1, f1, -⟩ := HG1.out.cell hlt; obtain ⟨_, _, _, z2, f2, -⟩ := HG2.out.cell hlt; clear hb7 hc7 hs7)
        | (go_at_call 48; refine HAL0.out.mono ?_; rintro e w6 ⟨r6, rfl, ⟨A6, d6, e6, hs6⟩, hb6⟩; subst e6; have hc6 : Below wo.heap.size wo w6 := ⟨hb6.os, hb6.tape, hb6.output, hb6.size, hb6.block⟩; have q6 := HQF.out w6 hc6; have HD6 := hide hc6; have HR6 := hide (show SetV w6 (.slice A6 (allW lk).length d6) (allW lk) from ⟨A6, d6, rfl, hs6⟩); clear hb6 hc6 hs6))
     have HTW := hide (AV.two (b := k) HG1.out HG2.out hgne HR6b.out HR7.out)
     go_wp2
     go_roundw
     case rel => exact ⟨k + 1, by omega, by go_num, hide (HTW.out.1.ext (fun b hb => (extT HMF.out b))), hide (HTW.out.2.ext (fun b hb => (extT HMF.out b))), hide ((HF.out.below HD7.out).set1.set2), Below.setCell (p := ⟨g2, _, none⟩) (Below.setCell (p := ⟨g1, _, none⟩) (HC.out.trans (HD7.out.mono HC.out.size)) (by simpa using hg1) _) (by simpa using hg2) _⟩
     case measure => simp [intOf]; omega
   obtain rfl : ls = k := by omega
   have hnl : ¬ ((ls : Int) < (ls : Int)) := by omega
   have rl0 : (0 : Int) < (ls : Int) := by omega
   obtain ⟨_, _, _, z1, f1, -⟩ := HA1.out.cell (b := 0) (by omega)
   obtain ⟨_, _, _, z2, f2, -⟩ := HA2.out.cell (b := 0) (by omega)
   have hg1w : g1 < wo.heap.size := by omega
   have hg2w : g2 < wo.heap.size := by omega
   have HNV := hide (show SetV wo (.slice none 0 0) [] from ⟨none, 0, rfl, Nat.le_refl _, by omega, Sl.nil _ _ _ _⟩)
   have HTW := hide (AV.two (b := 0) HA1.out HA2.out hgne HNV.out HNV.out)
   go_wp2
   obtain ⟨w9, hw9⟩ := zr ((wo.setCell ⟨g1, 0, none⟩ (.slice none 0 0)).setCell ⟨g2, 0, none⟩ (.slice none 0 0))
   rw [<- hw9]
   have HB1 := hide (show AV w9 g1 ls (fun x => if x = 0 then [] else if x < ls /\ metB m (x : Int) = true then allW lk else []) from by rw [hw9]; exact HTW.out.1)
   have HB2 := hide (show AV w9 g2 ls (fun x => if x = 0 then [] else if x < ls /\ metB m (x : Int) = true then allW lk else []) from by rw [hw9]; exact HTW.out.2)
   have HF9 := hide (show F2 g1 g2 wn w9 from by rw [hw9]; exact HF.out.set1.set2)
   have HC9 := hide (show Below w1.heap.size w1 w9 from by rw [hw9]; exact Below.setCell (p := ⟨g2, _, none⟩) (Below.setCell (p := ⟨g1, _, none⟩) HC.out (by simpa using hg1) _) (by simpa using hg2) _)
   clear hw9 HTW HNV z1 f1 z2 f2 HA1 HA2 HF HC c0 c1 c2 c3 c4 l5 hg1w hg2w
   go_loopw [9] (fun i wr => ∃ v : Nat, v <= pn /\ i = .int .i64 v /\ Hid (AV wr g1 ls (fun x => if x = 0 then allW v else if metB m (x : Int) = true then allW lk else [])) /\ Hid (AV wr g2 ls (fun x => if x = 0 then [] else if metB m (x : Int) = true then allW lk else [])) /\ Hid (F2 g1 g2 wn wr) /\ Below w1.heap.size w1 wr) (fun i _ => pn - (intOf i).toNat)
   case atStart => exact ⟨0, Nat.zero_le _, rfl, hide (HB1.out.ext (fun x hx => by simp [hx, allW])), hide (HB2.out.ext (fun x hx => by simp [hx])), HF9, HC9.out⟩
   case round =>
    obtain ⟨v, hv, rfl, HA1, HA2, HF, hb⟩ := hrel
    obtain ⟨wp, rfl⟩ := zr wr
    clear HB1 HB2 HF9 HC9
    have HC := hide hb
    have HWP := hide (HUP.out wp hb)
    have lwp := HF.out.1
    obtain ⟨c0, c1, c2, c3, c4⟩ := HK1.out wp hb
    have l5 : h5 < wp.heap.size := by omega
    clear hb
    by_cases hlt : v < pn
    case pos =>
     have rv1 : (v : Int) < (pn : Int) := by omega
     obtain ⟨A1, m1, d1, z1, f1, hs1⟩ := HA1.out.cell (b := 0) (by omega)
     rw [if_pos rfl] at hs1
     have HWI2 := hide (HWI.out (.slice A1 m1 d1) v (by omega) wp hs1)
     rw [HWS.out] at HWI2
     clear hs1
     have HL1 := hide (jdc wp (.cells #[.int .i64 (v : Int)] 3))
     have lg1 := HA1.out.lt
     go_upto_region 12 with (go_at_call 49; (with_reducible refine (HWI2.out).mono ?_); rintro e w4 ⟨r, rfl, ⟨A4, d4, e4, hs4⟩, hb4⟩; subst e4; have hq : Below wp.heap.size wp w4 := HL1.out.trans (hb4.mono HL1.out.size); have HQ4 := hide hq; have HR4 := hide (show SetV w4 (.slice A4 (allW (v + 1)).length d4) (allW (v + 1)) from ⟨A4, d4, rfl, hs4⟩); have HG1 := hide (HA1.out.below hq); obtain ⟨_, _, _, y1, g1f, -⟩ := HG1.out.cell (b := 0) (by omega); have lg4 := HG1.out.lt; clear hs4 hb4 hq)
     have HG2 := hide (HA2.out.below HQ4.out)
     go_wp2
     go_roundw
     case rel => exact ⟨v + 1, by omega, by go_num, hide ((HG1.out.set (b := 0) HR4.out).ext (fun x hx => by by_cases e : x = 0 <;> simp [e])), hide (HG2.out.other HG1.out (fun e => hgne e.symm)), hide ((HF.out.below HQ4.out).set1), Below.setCell (p := ⟨g1, _, none⟩) (HC.out.trans (HQ4.out.mono HC.out.size)) (by simpa using hg1) _⟩
     case measure => simp [intOf]; omega
    obtain rfl : pn = v := by omega
    have hnp : ¬ ((pn : Int) < (pn : Int)) := by omega
    go_upto_region 15 with (go_at_call 50; (with_reducible refine (HED.out wp HWP.out).mono ?_); rintro e we ⟨ve, rfl, hve, hbe⟩; have HBE := hide hbe; have HVE := hide hve; clear hve hbe)
    have HCE := hide (HC.out.trans (HBE.out.mono HC.out.size))
    have HFE := hide (HF.out.below HBE.out)
    have HA1 := hide (show AV we g1 ls (fun b => (iniS f (fun b => metB m (b : Int)) b).1) from (HA1.out.below HBE.out).ext (fun x hx => (HI1.out m x).symm))
    have HA2 := hide (show AV we g2 ls (fun b => (iniS f (fun b => metB m (b : Int)) b).2) from (HA2.out.below HBE.out).ext (fun x hx => (HI2.out m x).symm))
    have HTS0 := hide (HT0.out m HML.out HMP.out)
    generalize iniS f (fun b => metB m (b : Int)) = σ0 at *
    clear HI1 HI2 HT0 HF HC HWI HWS HAL c0 c1 c2 c3 c4 l5
    obtain ⟨Ae, ce, hve, -, -, hes⟩ := HVE.out.sl
    subst hve
    obtain ⟨le, hle⟩ := zl ((jbi f).length)
    have HLE := hide hle
    rw [hle] at HEL HTD
    rw [hle]
    have HES := hide hes
    clear hes hle HVE
    have lwe := HFE.out.1
    have hle80 : le <= 80 := HEL.out
    obtain ⟨NL, hNL⟩ : ∃ NL : Nat, ls * lk = NL := ⟨_, rfl⟩
    have hNLb : NL <= 40 * 48 := by rw [<- hNL]; exact Nat.mul_le_mul hls40 hlk48
    have e1 : IntKind.i64.wrap ((ls : Int) * (lk : Int)) = (NL : Int) := by
     rw [show (ls : Int) * (lk : Int) = (NL : Int) by rw [<- hNL]; push_cast; rfl]
     exact IntWalk.i64_in _ ⟨by omega, by omega⟩
    have e2 : IntKind.i64.wrap ((NL : Int) * 2) = ((NL * 2 : Nat) : Int) := by
     rw [show (NL : Int) * 2 = ((NL * 2 : Nat) : Int) by push_cast; rfl]
     exact IntWalk.i64_in _ ⟨by omega, by omega⟩
    have e3 : IntKind.i64.wrap (((NL * 2 : Nat) : Int) + 2) = ((NL * 2 + 2 : Nat) : Int) := by
     rw [show ((NL * 2 : Nat) : Int) + 2 = ((NL * 2 + 2 : Nat) : Int) by push_cast; rfl]
     exact IntWalk.i64_in _ ⟨by omega, by omega⟩
    obtain ⟨N2, hN2⟩ : ∃ N2 : Nat, NL * 2 = N2 := ⟨_, rfl⟩
    rw [hN2] at e2 e3
    obtain ⟨TT, hTT⟩ : ∃ TT : Nat, N2 + 2 = TT := ⟨_, rfl⟩
    rw [hTT] at e3
    have HNT := hide (show ls * (2 * lk) < TT by rw [<- hTT, <- hN2, <- hNL, Nat.mul_comm 2 lk, <- Nat.mul_assoc]; omega)
    have hTTb : TT <= 10000 := by omega
    clear hNL hN2 hTT
    go_wp2
    have HAE1 := hide HA1.out
    have HAE2 := hide HA2.out
    have HMCE := hide (fun (b : Nat) (hb : b < ls) => (show we.cell? ⟨bm, b, none⟩ = some (.bool (metB m (b : Int))) from (HFE.out.cell hbml hbg1 hbg2).trans (HMB.out.cell (b := b) (by rw [HML.out]; exact hb)).1))
    have hbme : bm < we.heap.size := by omega
    go_loopw [11] (fun i wr => ∃ (t : Nat) (σ : Nat -> KSt), t <= TT /\ i = .int .i64 t /\ Hid (AV wr g1 ls (fun b => (σ b).1)) /\ Hid (AV wr g2 ls (fun b => (σ b).2)) /\ Hid (TS f t σ) /\ Hid (F2 g1 g2 we wr) /\ Below w1.heap.size w1 wr) (fun i _ => TT - (intOf i).toNat)
    case atStart => exact ⟨0, σ0, Nat.zero_le _, rfl, HA1, HA2, HTS0, hide (F2.refl _ _ _), HCE.out⟩
    case round =>
     obtain ⟨t, σ, ht, rfl, HT1, HT2, HTT, HFT, hb⟩ := hrel
     obtain ⟨wt, rfl⟩ := zr wr
     clear HA1 HA2 HTS0
     have HCT := hide hb
     obtain ⟨c0, c1, c2, c3, c4⟩ := HK1.out wt hb
     have lwt := hb.size
     have l5 : h5 < wt.heap.size := by omega
     clear hb
     by_cases hltt : t < TT
     case neg =>
      obtain rfl : TT = t := by omega
      have hnt : ¬ ((TT : Int) < (TT : Int)) := by omega
      go_wp2
      go_ret2
      exact ⟨g1, g2, rfl, σ, HT1.out, HT2.out, HTE.out TT σ HTT.out HNT.out, HUP.out wt HCT.out⟩
     have rt1 : (t : Int) < (TT : Int) := by omega
     have HTP0 := hide (HTG.out t σ HTT.out)
     go_wp2
     clear c0 c1 c2 c3 c4 l5
     go_loopw [12] (fun i wr => ∃ (j : Nat) (σ : Nat -> KSt), j <= le /\ i = .int .i64 j /\ Hid (AV wr g1 ls (fun b => (σ b).1)) /\ Hid (AV wr g2 ls (fun b => (σ b).2)) /\ Hid (TP f t j σ) /\ Hid (F2 g1 g2 we wr) /\ Below w1.heap.size w1 wr) (fun i _ => le - (intOf i).toNat)
     case atStart => exact ⟨0, σ, Nat.zero_le _, rfl, HT1, HT2, HTP0, HFT, HCT.out⟩
     case round =>
      obtain ⟨j, ς, hj, rfl, HU1, HU2, HTP, HFU, hb⟩ := hrel
      obtain ⟨wo4, rfl⟩ := zr wr
      clear HT1 HT2 HTT HFT HCT HTP0 lwt
      have HCU := hide hb
      have lw4 := HFU.out.1
      have lw14 := hb.size
      clear hb
      by_cases hltj : j < le
      case neg =>
       obtain rfl : le = j := by omega
       have hnj : ¬ ((le : Int) < (le : Int)) := by omega
       go_wp2
       go_roundw
       case rel => exact ⟨t + 1, ς, by omega, by go_num, HU1, HU2, hide (HTD.out t le ς HTP.out (Nat.le_refl _)), HFU, HCU.out⟩
       case measure => simp [intOf]; omega
      obtain ⟨p, hp⟩ : ∃ p, (jbi f)[j]? = some p := ⟨_, List.getElem?_eq_getElem (by have := HLE.out; omega)⟩
      obtain ⟨b, c, rfl, hbl, hcl⟩ := HEM.out j p hp
      have HPE := hide hp
      obtain ⟨be, oe, hAe, hbe, hec⟩ := HES.out (by have := HLE.out; omega)
      obtain ⟨e0, e1'⟩ := hec j _ hp
      have hbe1 : be ≠ g1 := HAE1.out.apart e0
      have hbe2 : be ≠ g2 := HAE2.out.apart e0
      subst hAe
      have k0 := (HFU.out.cell hbe hbe1 hbe2).trans e0
      have k1 := (HFU.out.cell hbe hbe1 hbe2).trans e1'
      have lbe : be < wo4.heap.size := by omega
      have rj0 : (0 : Int) <= (j : Int) := by omega
      have rj1 : (j : Int) < (le : Int) := by omega
      have rb0 : (0 : Int) <= (b : Int) := by omega
      have rb1 : (b : Int) < (ls : Int) := by omega
      have rc0 : (0 : Int) <= (c : Int) := by omega
      have rc1 : (c : Int) < (ls : Int) := by omega
      clear hec hp e0 e1'
      go_upto_region 22 with (fail)
      obtain ⟨w6, hw6⟩ := zr (wo4.alloc (.cells #[.int .i64 (b : Int), .int .i64 (c : Int)] 106))
      obtain ⟨h9, hh9⟩ := zl wo4.heap.size
      have HFX0 := zx1 hw6 hh9
      have HB6 := zb1 hw6
      have w6s := HB6.out.size
      have w6z := zs1 hw6 hh9
      have HFK0 := zk2 HFX0
      have lHFX0 := HFX0.out.lt
      have h9g : wo4.heap.size <= h9 := by omega
      rw [<- hw6, hh9]
      clear hw6 hh9
      have HC6 := hide (HCU.out.trans (HB6.out.mono HCU.out.size))
      have HW6 := hide (HUP.out w6 HC6.out)
      have HF6 := hide (HFU.out.below HB6.out)
      have HU1 := hide (HU1.out.below HB6.out)
      have HU2 := hide (HU2.out.below HB6.out)
      have hmc := (HF6.out.cell hbme hbg1 hbg2).trans (HMCE.out b hbl)
      obtain ⟨k0, k1⟩ := HFK0.out w6 (Below.refl _ _)
      have lw6 := HF6.out.1
      have lbm6 : bm < w6.heap.size := by omega
      have HPB := hide (HMP.out b)
      cases hmb : metB m (b : Int) with
      | false =>
       rw [hmb] at hmc HPB
       clear hmb
       have hnp : ¬ Pth f 0 (b : Int) := fun h => by have := HPB.out.2 h; cases this
       have HSK := hide (HTK.out t j b c ς HTP.out HPE.out hnp)
       clear hnp
       go_wp2
       go_roundw
       case rel => exact ⟨j + 1, ς, by omega, by go_num, HU1, HU2, HSK, HF6, HC6.out⟩
       case measure => simp [intOf]; omega
      | true =>
       rw [hmb] at hmc HPB
       clear hmb
       have hpb : Pth f 0 (b : Int) := HPB.out.1 rfl
       have HSS := hide (HTS.out t j b c ς HTP.out HPE.out hpb)
       have HGB := hide ((HTI.out t j ς HTP.out).good b)
       have HGC := hide ((HTI.out t j ς HTP.out).good c)
       have HGK := hide (HBG.out b (ς b) HGB.out)
       clear hpb HPB
       obtain ⟨A1, m1, d1, z1, -, hs1⟩ := HU1.out.cell hbl
       obtain ⟨A2, m2, d2, z2, -, hs2⟩ := HU2.out.cell hbl
       have HBX := hide (HBK.out b hbl (.slice A1 m1 d1) (.slice A2 m2 d2) (ς b) HGB.out w6.drew (ja0 HW6.out 1) hs1 hs2)
       clear hs1 hs2
       have lg1 := HU1.out.lt
       have lg2 := HU2.out.lt
       have HQF := hide (fun (W : World) (hW : Below w6.heap.size w6 W) => And.intro (HK1.out W (HC6.out.trans (hW.mono HC6.out.size))) (And.intro (HFK0.out W hW).1 (And.intro (HFK0.out W hW).2 (And.intro ((hW.cell (p := ⟨g1, b, none⟩) lg1).trans z1) ((hW.cell (p := ⟨g2, b, none⟩) lg2).trans z2)))))
       obtain ⟨⟨c0, c1, c2, c3, c4⟩, -⟩ := HQF.out w6 (Below.refl _ _)
       have l56 : h5 < w6.heap.size := by omega
       go_wp2_with fail
       go_region_held3 (fun w' => (w'.cell? ⟨h5, 0, none⟩ = some (.slice Ak lk ck) /\ w'.cell? ⟨h5, 1, none⟩ = some (.slice Ab lb cb) /\ w'.cell? ⟨h5, 2, none⟩ = some (.int .i64 (pn : Int)) /\ w'.cell? ⟨h5, 3, none⟩ = some (.int .i64 fr) /\ w'.cell? ⟨h5, 4, none⟩ = some (.slice As ls cs)) /\ w'.cell? ⟨h9, 0, none⟩ = some (.int .i64 (b : Int)) /\ w'.cell? ⟨h9, 1, none⟩ = some (.int .i64 (c : Int)) /\ w'.cell? ⟨g1, b, none⟩ = some (.slice A1 m1 d1) /\ w'.cell? ⟨g2, b, none⟩ = some (.slice A2 m2 d2)) (first | go_keep | (exact q7))
        (first
         | (go_at_call 51; refine HBX.out.mono ?_; rintro e w7 ⟨r1, r2, rfl, hr1, hr2, hb7⟩; have hc7 : Below w6.heap.size w6 w7 := ⟨hb7.os, hb7.tape, hb7.output, hb7.size, hb7.block⟩; have q7 := HQF.out w7 hc7; have HD7 := hide hc7; have HR1 := hide hr1; have HR2 := hide hr2; clear hb7 hc7 hr1 hr2))
       have HC7 := hide (HC6.out.trans (HD7.out.mono HC6.out.size))
       have HF7 := hide (HF6.out.below HD7.out)
       have HU1 := hide (HU1.out.below HD7.out)
       have HU2 := hide (HU2.out.below HD7.out)
       have HE7 := hide ((HFK0.out w7 HD7.out).2)
       have lw7 := HD7.out.size
       have l97 : h9 < w7.heap.size := by omega
       have h9g1 : h9 ≠ g1 := by omega
       have h9g2 : h9 ≠ g2 := by omega
       clear c0 c1 c2 c3 c4 l56 k0 k1 z1 z2 hmc HQF HBX
       go_wp2_with fail
       obtain ⟨A3, m3, d3, z3, f3, hs3⟩ := HU1.out.cell hcl
       have lg3 := HU1.out.lt
       have HM3 := hide (rmeetV (w := w7.drewN 1) (show SetV (w7.drewN 1) (.slice A3 m3 d3) (ς c).1 from hs3) (show SetV (w7.drewN 1) r1 (blkW f b (ς b)).1 from HR1.out) (by have := HGC.out.l1; omega) (by have := HGK.out.l1; omega) HGC.out.w1 HGK.out.w1)
       clear hs3
       have HS3 := hide (fun (W : World) (hW : Below w7.heap.size w7 W) => And.intro ((hW.cell (p := ⟨h9, 1, none⟩) l97).trans HE7.out) ((hW.cell (p := ⟨g1, c, none⟩) lg3).trans z3))
       refine jaa (fun w' => w'.cell? ⟨h9, 1, none⟩ = some (.int .i64 (c : Int)) /\ w'.cell? ⟨g1, c, none⟩ = some (.slice A3 m3 d3)) 11 (by kernel_rfl) ⟨HE7.out, z3⟩ ?_
       have hSd := HS3.out (w7.drewN 1) (ja0 (Below.refl _ _) 1)
       refine tilM 0 (Or.inr hSd) ?_
       refine tilM 1 (Or.inr hSd) ?_
       refine tilM 3 (Or.inr hSd) ?_
       refine tilM 4 (Or.inr hSd) ?_
       refine tilM 8 (Or.inr hSd) ?_
       refine tilT 2 hSd ?_
       refine tilT 5 hSd ?_
       refine tilM 6 (Or.inr hSd) ?_
       refine tilT 7 hSd ?_
       refine ja2 (rs := [9]) (by kernel_rfl) (by simp) ?_
       refine AllTil.cons rfl (fun K hK => ?_) AllTil.nil
       rw [if_pos (by rfl)]
       go_simp
       go_at_call 52
       refine HM3.out.mono ?_
       rintro e w8 ⟨r8, rfl, ⟨A8, d8, e8, hs8⟩, hb8⟩
       subst e8
       have hc8 : Below w7.heap.size w7 w8 := ⟨hb8.os, hb8.tape, hb8.output, hb8.size, hb8.block⟩
       have HD8 := hide hc8
       have q8 := HS3.out w8 hc8
       have HR8 := hide (show SetV w8 (.slice A8 (jce (ς c).1 (blkW f b (ς b)).1).length d8) (jce (ς c).1 (blkW f b (ς b)).1) from ⟨A8, d8, rfl, hs8⟩)
       obtain ⟨y0, y1⟩ := q8
       have y2 := (World.frozen?_of_block (a := ⟨g1, c, none⟩) (hc8.block g1 lg3)).trans f3
       clear hb8 hc8 hs8
       try go_wp2_with fail
       refine hK.out _ _ ⟨y0, y1⟩ ?_
       clear hK K
       try simp only [tilS, Act.put]
       refine tilM 10 (Or.inr ⟨y0, y1⟩) ?_
       refine ja2 (rs := [11]) (by kernel_rfl) (by simp) ?_
       refine AllTil.last rfl (by rfl) (fun K hK => ?_)
       rw [if_pos (by rfl)]
       go_simp
       refine hK.out _ _ ?_
       clear hK K
       try simp only [tilS, Act.put]
       refine jac (by kernel_rfl) ?_ _
       obtain ⟨w9, hw9⟩ := zr (w8.setCell ⟨g1, c, none⟩ (.slice A8 (jce (ς c).1 (blkW f b (ς b)).1).length d8))
       clear hSd HS3 z3 f3 y0 y1 y2 HM3
       have HC9 := hide (show Below w1.heap.size w1 w9 from by rw [hw9]; exact Below.setCell (p := ⟨g1, _, none⟩) (HC7.out.trans (HD8.out.mono HC7.out.size)) (by simpa using hg1) _)
       have HF9 := hide (show F2 g1 g2 we w9 from by rw [hw9]; exact (HF7.out.below HD8.out).set1)
       have HV1 := hide (show AV w9 g1 ls _ from by rw [hw9]; exact (HU1.out.below HD8.out).set HR8.out)
       have HV2 := hide (show AV w9 g2 ls _ from by rw [hw9]; exact (HU2.out.below HD8.out).other (HU1.out.below HD8.out) (fun e => hgne e.symm))
       have HR2 := hide (show SetV w9 r2 _ from by rw [hw9]; exact (HR2.out.below HD8.out).at (HU1.out.below HD8.out))
       have HE9 := hide (show w9.cell? ⟨h9, 1, none⟩ = some (.int .i64 (c : Int)) from by rw [hw9]; exact (World.cell?_of_block (a := ⟨h9, 1, none⟩) (heap_setCell_other w8 ⟨g1, c, none⟩ h9 _ h9g1)).trans ((HD8.out.cell (p := ⟨h9, 1, none⟩) l97).trans HE7.out))
       have lw9 : w7.heap.size <= w9.heap.size := by rw [hw9, World.size_setCell]; exact HD8.out.size
       have l99 : h9 < w9.heap.size := by omega
       rw [<- hw9]
       clear hw9 HU1 HU2 HE7 HC7 HF7 HD8 HR8 HR1
       go_wp2_with fail
       obtain ⟨A3, m3, d3, z3, f3, hs3⟩ := HV2.out.cell hcl
       have lg3 := HV2.out.lt
       have HM3 := hide (rmeetV (w := w9.drewN 1) (show SetV (w9.drewN 1) (.slice A3 m3 d3) (ς c).2 from hs3) (show SetV (w9.drewN 1) r2 (blkW f b (ς b)).2 from HR2.out) (by have := HGC.out.l2; omega) (by have := HGK.out.l2; omega) HGC.out.w2 HGK.out.w2)
       clear hs3
       have HS3 := hide (fun (W : World) (hW : Below w9.heap.size w9 W) => And.intro ((hW.cell (p := ⟨h9, 1, none⟩) l99).trans HE9.out) ((hW.cell (p := ⟨g2, c, none⟩) lg3).trans z3))
       refine jaa (fun w' => w'.cell? ⟨h9, 1, none⟩ = some (.int .i64 (c : Int)) /\ w'.cell? ⟨g2, c, none⟩ = some (.slice A3 m3 d3)) 11 (by kernel_rfl) ⟨HE9.out, z3⟩ ?_
       have hSd := HS3.out (w9.drewN 1) (ja0 (Below.refl _ _) 1)
       refine tilM 0 (Or.inr hSd) ?_
       refine tilM 1 (Or.inr hSd) ?_
       refine tilM 3 (Or.inr hSd) ?_
       refine tilM 4 (Or.inr hSd) ?_
       refine tilM 8 (Or.inr hSd) ?_
       refine tilT 2 hSd ?_
       refine tilT 5 hSd ?_
       refine tilM 6 (Or.inr hSd) ?_
       refine tilT 7 hSd ?_
       refine ja2 (rs := [9]) (by kernel_rfl) (by simp) ?_
       refine AllTil.cons rfl (fun K hK => ?_) AllTil.nil
       rw [if_pos (by rfl)]
       go_simp
       go_at_call 52
       refine HM3.out.mono ?_
       rintro e wa ⟨ra, rfl, ⟨Aa, da, ea, hsa⟩, hba⟩
       subst ea
       have hca : Below w9.heap.size w9 wa := ⟨hba.os, hba.tape, hba.output, hba.size, hba.block⟩
       have HDa := hide hca
       have qa := HS3.out wa hca
       have HRa := hide (show SetV wa (.slice Aa (jce (ς c).2 (blkW f b (ς b)).2).length da) (jce (ς c).2 (blkW f b (ς b)).2) from ⟨Aa, da, rfl, hsa⟩)
       obtain ⟨y0, y1⟩ := qa
       have y2 := (World.frozen?_of_block (a := ⟨g2, c, none⟩) (hca.block g2 lg3)).trans f3
       clear hba hca hsa
       try go_wp2_with fail
       refine hK.out _ _ ⟨y0, y1⟩ ?_
       clear hK K
       try simp only [tilS, Act.put]
       refine tilM 10 (Or.inr ⟨y0, y1⟩) ?_
       refine ja2 (rs := [11]) (by kernel_rfl) (by simp) ?_
       refine AllTil.last rfl (by rfl) (fun K hK => ?_)
       rw [if_pos (by rfl)]
       go_simp
       refine hK.out _ _ ?_
       clear hK K
       try simp only [tilS, Act.put]
       refine jac (by kernel_rfl) ?_ _
       obtain ⟨wz, hwz⟩ := zr (wa.setCell ⟨g2, c, none⟩ (.slice Aa (jce (ς c).2 (blkW f b (ς b)).2).length da))
       clear hSd HS3 z3 f3 y0 y1 y2 HM3
       have HCz := hide (show Below w1.heap.size w1 wz from by rw [hwz]; exact Below.setCell (p := ⟨g2, _, none⟩) (HC9.out.trans (HDa.out.mono HC9.out.size)) (by simpa using hg2) _)
       have HFz := hide (show F2 g1 g2 we wz from by rw [hwz]; exact (HF9.out.below HDa.out).set2)
       have HZ2 := hide (show AV wz g2 ls _ from by rw [hwz]; exact (HV2.out.below HDa.out).set HRa.out)
       have HZ1 := hide (show AV wz g1 ls _ from by rw [hwz]; exact (HV1.out.below HDa.out).other (HV2.out.below HDa.out) hgne)
       rw [<- hwz]
       clear hwz HV1 HV2 HE9 HC9 HF9 HDa HRa HR2
       go_wp2
       go_roundw
       case rel => exact ⟨j + 1, updS ς c (jbd (ς c) (blkW f b (ς b))), by omega, by go_num, hide (HZ1.out.ext (fun x hx => upd1 _ _ _ _)), hide (HZ2.out.ext (fun x hx => upd2 _ _ _ _)), HSS, HFz, HCz.out⟩
       case measure => simp [intOf]; omega
end Go.Proofs.YthbnbaikdcfbmaaGreatDoor
