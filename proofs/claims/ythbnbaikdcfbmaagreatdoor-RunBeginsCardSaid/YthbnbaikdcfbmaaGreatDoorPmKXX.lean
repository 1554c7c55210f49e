/- Layer 8, the reference: signs, map3, is, Fits. Condition: the program, and the instruction, are of a form that may be. -/
import Derived.Test.YthbnbaikdcfbmaaGreatDoorPmSIns
set_option linter.unusedSimpArgs false
set_option linter.unusedVariables false
set_option maxHeartbeats 4000000
set_option maxRecDepth 100000
namespace Go.Proofs.YthbnbaikdcfbmaaGreatDoor
open Go.RowKit
def sgN (op : Int) (i : Nat) : Nat := if rowN op i = 0 then 45 else rowN op i
theorem jq1 (f : FunV) (op : Int) (i : Nat) (v : Int) : letB f (sgN op i) v = letB f (rowN op i) v := by
 unfold sgN
 split
 ·rename_i h
  rw [h]
  rfl
 ·rfl
theorem sg_one : ∀ j : Nat, j < 24 -> 1 <= j -> ∀ i : Nat, i < 3 -> (sgN (j : Int) i = 45 \/ sgN (j : Int) i = 105 \/ sgN (j : Int) i = 114 \/ sgN (j : Int) i = 100) := by decide
theorem jo8 (op : Int) (h : 1 <= op /\ op <= 23) (w : World) :
  Calls Tryz.prog 54 #[.int .i64 op] w fun e w' => ∃ q0 q1 q2 : UInt8, e = .returned (.string ⟨#[q0, q1, q2]⟩) /\ (q0.toNat = sgN op 0 /\ q1.toNat = sgN op 1 /\ q2.toNat = sgN op 2) /\ w = w' := by
 have hc : op = 1 \/ op = 2 \/ op = 3 \/ op = 4 \/ op = 5 \/ op = 6 \/ op = 7 \/ op = 8 \/ op = 9 \/ op = 10 \/ op = 11 \/ op = 12 \/ op = 13 \/ op = 14 \/ op = 15 \/ op = 16 \/ op = 17 \/ op = 18 \/ op = 19 \/ op = 20 \/ op = 21 \/ op = 22 \/ op = 23 := by omega
 rcases hc with rfl | rfl | rfl | rfl | rfl | rfl | rfl | rfl | rfl | rfl | rfl | rfl | rfl | rfl | rfl | rfl | rfl | rfl | rfl | rfl | rfl | rfl | rfl
 all_goals
  clear h
  go_enter Tryz.func54, Tryz.ntmps54
  go_wp2
  go_ret
  exact ⟨_, _, _, rfl, ⟨by decide, by decide, by decide⟩, rfl⟩
theorem jqc (c : Nat) (k : Int) (h : kLet c = some k) (hc : c = 105 \/ c = 114 \/ c = 100) (w : World) :
  Calls Tryz.prog 76 #[.int .u8 (c : Int)] w fun e w' => e = .returned (.int .i64 k) /\ w = w' := by
 rcases hc with rfl | rfl | rfl
 all_goals
  have hk := h
  unfold kLet at hk
  simp at hk
  subst hk
  clear h
  go_enter Tryz.func76, Tryz.ntmps76
  go_wp2
  go_ret
  exact ⟨rfl, rfl⟩
theorem ris_any (vk vb vs : Value) (f : FunV) (v : Int) (c : Nat) (hc : c = 45 \/ c = 105 \/ c = 114 \/ c = 100) (w : World) (B : Nat) (hB : B <= w.heap.size) (hi : FunI w (· < B) vk vb vs f) :
  Calls Tryz.prog 55 #[.agg #[vk, vb, .int .i64 f.params, .int .i64 f.result, vs], .int .i64 v, .int .u8 (c : Int)] w fun e w' => e = .returned (.bool (letB f c v)) /\ Below w.heap.size w w' := by
 by_cases h45 : c = 45
 ·subst h45
  have hl : letB f 45 v = true := rfl
  rw [hl]
  obtain ⟨Ak, ck, rfl, hck, hmk⟩ := hi.1.open'
  obtain ⟨Ab, cb, rfl, hcb, hmb⟩ := hi.2.1.open'
  obtain ⟨As, cs, rfl, hcs, hms⟩ := hi.2.2.1.open'
  generalize f.kinds.length = lk, f.base.length = lb, f.blocks.length = ls, f.params = fp, f.result = fr at *
  clear hl hi
  go_enter Tryz.func55, Tryz.ntmps55
  go_upto_region 1 with (fail)
  obtain ⟨w1, hw1⟩ := zr (w.alloc (.cells #[.slice Ak lk ck, .slice Ab lb cb, .int .i64 fp, .int .i64 fr, .slice As ls cs] 52))
  obtain ⟨h5, hh5⟩ := zl w.heap.size
  have HX1 := zx1 hw1 hh5
  have HB1 := zb1 hw1
  have HK1 := zk5 HX1
  have HUP := hide (fun (W : World) (hW : Below w1.heap.size w1 W) => HB1.out.trans (hW.mono HB1.out.size))
  have l1 := HX1.out.lt
  have hw1s := HB1.out.size
  rw [<- hw1, hh5]
  clear hw1 hh5
  obtain ⟨c0, c1, c2, c3, c4⟩ := HK1.out w1 (Below.refl _ _)
  go_wp2
  go_ret
  exact ⟨rfl, HB1.out⟩
 have hc3 : c = 105 \/ c = 114 \/ c = 100 := by omega
 obtain ⟨k, hk⟩ : ∃ k, kLet c = some k := by rcases hc3 with rfl | rfl | rfl <;> exact ⟨_, rfl⟩
 have hl : letB f c v = isK f v k := by unfold letB; rw [hk]
 rw [hl]
 have HM := hide (fun (W : World) => (show Calls Tryz.prog 76 #[.int .u8 (c : Int)] W fun e w' => e = .returned (.int .i64 k) /\ w' = W from (jqc c k hk hc3 W).mono fun e w' h => ⟨h.1, h.2.symm⟩))
 have h45b : (((c : Nat) : Int) == 45) = false := by simp; omega
 have HKK := hide (fun (W : World) (hW : Below w.heap.size w W) => (hi.keep (w := w) (S := (· < B)) (up hW hB) (fun _ h => h)).1)
 have hcu : (c : Int) <= 255 := by omega
 clear hl hk h45 hc hc3
 by_cases hv : jbt f v = true
 case neg =>
  have hr : isK f v k = false := by unfold isK; rw [Bool.eq_false_iff.2 hv]; rfl
  rw [hr]
  have hv2 : ¬ (0 <= v /\ v < f.kinds.length) := fun h => hv (by unfold jbt; rw [inB_iff]; omega)
  obtain ⟨Ak, ck, rfl, hck, hmk⟩ := hi.1.open'
  obtain ⟨Ab, cb, rfl, hcb, hmb⟩ := hi.2.1.open'
  obtain ⟨As, cs, rfl, hcs, hms⟩ := hi.2.2.1.open'
  generalize f.kinds.length = lk, f.base.length = lb, f.blocks.length = ls, f.params = fp, f.result = fr at *
  clear hr hv hi HKK
  by_cases h0 : v < 0
  ·have d0 : decide (v ≥ 0) = false := by simp; omega
   go_enter Tryz.func55, Tryz.ntmps55
   go_upto_region 1 with (fail)
   obtain ⟨w1, hw1⟩ := zr (w.alloc (.cells #[.slice Ak lk ck, .slice Ab lb cb, .int .i64 fp, .int .i64 fr, .slice As ls cs] 52))
   obtain ⟨h5, hh5⟩ := zl w.heap.size
   have HX1 := zx1 hw1 hh5
   have HB1 := zb1 hw1
   have HK1 := zk5 HX1
   have HUP := hide (fun (W : World) (hW : Below w1.heap.size w1 W) => HB1.out.trans (hW.mono HB1.out.size))
   have l1 := HX1.out.lt
   have hw1s := HB1.out.size
   rw [<- hw1, hh5]
   clear hw1 hh5
   obtain ⟨c0, c1, c2, c3, c4⟩ := HK1.out w1 (Below.refl _ _)
   go_wp2_with fail
   go_quiet (fail)
   go_wp2
   go_ret
   exact ⟨rfl, ja0 HB1.out _⟩
  have d0 : decide (v ≥ 0) = true := by simp; omega
  have d1 : decide (v < (lk : Int)) = false := by simp; omega
  go_enter Tryz.func55, Tryz.ntmps55
  go_upto_region 1 with (fail)
  obtain ⟨w1, hw1⟩ := zr (w.alloc (.cells #[.slice Ak lk ck, .slice Ab lb cb, .int .i64 fp, .int .i64 fr, .slice As ls cs] 52))
  obtain ⟨h5, hh5⟩ := zl w.heap.size
  have HX1 := zx1 hw1 hh5
  have HB1 := zb1 hw1
  have HK1 := zk5 HX1
  have HUP := hide (fun (W : World) (hW : Below w1.heap.size w1 W) => HB1.out.trans (hW.mono HB1.out.size))
  have l1 := HX1.out.lt
  have hw1s := HB1.out.size
  rw [<- hw1, hh5]
  clear hw1 hh5
  obtain ⟨c0, c1, c2, c3, c4⟩ := HK1.out w1 (Below.refl _ _)
  go_wp2_with fail
  go_quiet (fail)
  go_wp2
  go_ret
  exact ⟨rfl, ja0 HB1.out _⟩
 have hv2 := jc6 hv
 obtain ⟨m, rfl⟩ : ∃ m : Nat, v = (m : Int) := ⟨v.toNat, by omega⟩
 obtain ⟨y, hy⟩ : ∃ y, f.kinds[m]? = some y := ⟨_, List.getElem?_eq_getElem (by omega)⟩
 have hr : isK f (m : Int) k = (y == k) := jd1 hy
 rw [hr]
 have HY := hide hy
 obtain ⟨Ak, ck, rfl, hck, hmk⟩ := hi.1.open'
 obtain ⟨Ab, cb, rfl, hcb, hmb⟩ := hi.2.1.open'
 obtain ⟨As, cs, rfl, hcs, hms⟩ := hi.2.2.1.open'
 generalize f.kinds.length = lk, f.base.length = lb, f.blocks.length = ls, f.params = fp, f.result = fr at *
 have d0 : decide ((m : Int) ≥ 0) = true := by simp
 have d1 : decide ((m : Int) < (lk : Int)) = true := by simp; omega
 have d2 : (0 : Int) <= (m : Int) := by omega
 have d3 : (m : Int) < (lk : Int) := by omega
 clear hr hv hv2 hi hy
 go_enter Tryz.func55, Tryz.ntmps55
 go_upto_region 1 with (fail)
 obtain ⟨w1, hw1⟩ := zr (w.alloc (.cells #[.slice Ak lk ck, .slice Ab lb cb, .int .i64 fp, .int .i64 fr, .slice As ls cs] 52))
 obtain ⟨h5, hh5⟩ := zl w.heap.size
 have HX1 := zx1 hw1 hh5
 have HB1 := zb1 hw1
 have HK1 := zk5 HX1
 have HUP := hide (fun (W : World) (hW : Below w1.heap.size w1 W) => HB1.out.trans (hW.mono HB1.out.size))
 have l1 := HX1.out.lt
 have hw1s := HB1.out.size
 rw [<- hw1, hh5]
 clear hw1 hh5
 obtain ⟨c0, c1, c2, c3, c4⟩ := HK1.out w1 (Below.refl _ _)
 obtain ⟨bk, ok, hAk, hbk, hck2, -⟩ := (HKK.out w1 HB1.out).get HY.out
 subst hAk
 have lbk : bk < w1.heap.size := by omega
 go_wp2_with fail
 go_quiet ((go_at_call 76; exact Calls.quiet_of_same (HM.out _)))
 go_wp2
 go_ret
 exact ⟨rfl, ja0 HB1.out _⟩
structure FitF (p : List FunV) (f : FunV) (x : InsV) : Prop where
 bl : f.base.length = f.kinds.length
 k3 : ∀ (m : Nat) (y : Int), f.kinds[m]? = some y -> y = 0 \/ y = 1 \/ y = 2
 op : 1 <= x.op /\ x.op <= 23
 dv : x.op = 2 \/ x.op = 15 \/ x.op = 16 \/ x.op = 19 -> 0 <= x.d /\ x.d < f.kinds.length
 av : x.op = 2 \/ x.op = 15 \/ x.op = 16 \/ x.op = 23 -> 0 <= x.a /\ x.a < f.kinds.length
 call : x.op = 19 -> (∃ (n : Nat) (g : FunV), x.n = (n : Int) /\ p[n]? = some g /\ x.args.length <= g.kinds.length) /\ ∀ v ∈ x.args, 0 <= v /\ v < f.kinds.length
theorem jsb {p : List FunV} {f : FunV} {x : InsV} (h : jad p = true) (hf : f ∈ p) (hm : jcf p f x = true) : FitF p f x := by
 obtain ⟨-, -, -, hall⟩ := jal h
 obtain ⟨⟨h1, -, h3⟩, -, -, -, -⟩ := jah (hall f hf)
 obtain ⟨m1, -, m3, m4, m5⟩ := jcm hm
 refine ⟨h1, fun m y hy => ?_, jiv m1, fun ho => ?_, fun ho => ?_, fun ho => ⟨?_, fun v hv => ?_⟩⟩
 ·have hlt := (List.getElem?_eq_some_iff.1 hy).1
  obtain ⟨b, hb⟩ : ∃ b, f.base[m]? = some b := ⟨_, List.getElem?_eq_getElem (by omega)⟩
  have h4 := h3 (y, b) (List.mem_iff_getElem?.2 ⟨m, by rw [List.getElem?_zip_eq_some]; exact ⟨hy, hb⟩⟩)
  unfold jdd at h4
  by_cases h2 : y = 2
  ·exact .inr (.inr h2)
  ·rw [if_neg h2] at h4
   simp only [Bool.and_eq_true] at h4
   have h5 := h4.1
   unfold valB at h5
   simp at h5
   omega
 ·refine jc6 (m3 ?_)
  rcases ho with ho | ho | ho | ho <;> rw [ho] <;> decide
 ·refine jc6 (m4 x.a ?_)
  unfold jas
  rcases ho with ho | ho | ho | ho <;> rw [ho, if_pos (by decide)] <;> simp
 ·unfold jc9 at m5
  rw [if_neg (by omega), if_neg (by omega), if_neg (by omega), if_neg (by omega), if_pos ho] at m5
  unfold jbk at m5
  simp only [Bool.and_eq_true, inB_iff, decide_eq_true_eq] at m5
  obtain ⟨⟨h6, h7⟩, h8⟩ := m5
  cases hg : p[x.n.toNat]? with
  | none => rw [hg] at h8; cases h8
  | some g =>
   rw [hg] at h8
   simp at h8
   have := (jah (hall g (List.mem_of_getElem? hg))).2.1
   exact ⟨x.n.toNat, g, by omega, hg, by omega⟩
 ·refine jc6 (m4 v ?_)
  unfold jas
  rw [ho, if_pos (show ja9 19 76 = true by decide)]
  simp [hv]
theorem fit_row {p : List FunV} {f : FunV} {x : InsV} {b0 b1 b2 : Bool} (h0 : letB f (sgN x.op 0) x.d = b0) (h1 : letB f (sgN x.op 1) x.a = b1) (h2 : letB f (sgN x.op 2) x.b = b2) : fitB p f x = (b0 && (b1 && b2) && jb4 p f x) := by
 unfold fitB rowB
 rw [<- jq1 f x.op 0, <- jq1 f x.op 1, <- jq1 f x.op 2, h0, h1, h2]
theorem fit_move {p : List FunV} {f : FunV} {x : InsV} {d a : Nat} {kd ka : Int} (ho : x.op = 2) (hd : x.d = (d : Int)) (ha : x.a = (a : Int)) (hkd : f.kinds[d]? = some kd) (hka : f.kinds[a]? = some ka)
  (k3 : ∀ (m : Nat) (y : Int), f.kinds[m]? = some y -> y = 0 \/ y = 1 \/ y = 2) : jb4 p f x = (kd == ka && kd != 2) := by
 unfold jb4
 rw [if_pos ho, hd, ha, jd1 hkd, jd1 hka, jd1 hkd, jd1 hka]
 rcases k3 d kd hkd with rfl | rfl | rfl <;> rcases k3 a ka hka with rfl | rfl | rfl <;> rfl
theorem jhc {f : FunV} {d : Nat} {b : Int} (h : f.base[d]? = some b) : jeg f (d : Int) = b := by
 have hd := (List.getElem?_eq_some_iff.1 h).1
 unfold jeg
 rw [if_pos (by rw [inB_iff]; omega), Int.toNat_natCast, List.getD_eq_getElem?_getD, h]
 rfl
theorem jp0 {p : List FunV} {f : FunV} {x : InsV} {d : Nat} {b : Int} (ho : x.op = 15) (hd : x.d = (d : Int)) (hb : f.base[d]? = some b) : jb4 p f x = (b == x.a) := by
 unfold jb4
 rw [if_neg (by omega), if_pos ho, hd, jhc hb]
theorem jsa {p : List FunV} {f : FunV} {x : InsV} {d a : Nat} {b c : Int} (ho : x.op = 16) (hd : x.d = (d : Int)) (ha : x.a = (a : Int)) (hb : f.base[d]? = some b) (hc : f.base[a]? = some c) : jb4 p f x = (b == c) := by
 unfold jb4
 rw [if_neg (by omega), if_neg (by omega), if_pos ho, hd, ha, jhc hb, jhc hc]
theorem fit_ret {p : List FunV} {f : FunV} {x : InsV} {a : Nat} {k : Int} (ho : x.op = 23) (ha : x.a = (a : Int)) (hk : f.kinds[a]? = some k) : jb4 p f x = (k == f.result) := by
 unfold jb4
 rw [if_neg (by omega), if_neg (by omega), if_neg (by omega), if_neg (by omega), if_pos ho, ha, jd1 hk]
theorem fit_else {p : List FunV} {f : FunV} {x : InsV} (h1 : x.op ≠ 2) (h2 : x.op ≠ 15) (h3 : x.op ≠ 16) (h4 : x.op ≠ 19) (h5 : x.op ≠ 23) : jb4 p f x = true := by
 unfold jb4
 rw [if_neg h1, if_neg h2, if_neg h3, if_neg h4, if_neg h5]
def je3 (f g : FunV) (l : List Int) (k : Nat) : Bool := (List.range k).all (fun i => decide ((i : Int) < g.kinds.length) && isK f (l.getD i 0) (g.kinds.getD i 0))
theorem jmu {f g : FunV} {l : List Int} {k v : Nat} {y z : Int} (hv : l[k]? = some (v : Int)) (hy : f.kinds[v]? = some y) (hz : g.kinds[k]? = some z) : je3 f g l (k + 1) = (je3 f g l k && (y == z)) := by
 have hk := (List.getElem?_eq_some_iff.1 hz).1
 unfold je3
 rw [List.range_succ, List.all_append]
 simp only [List.all_cons, List.all_nil, Bool.and_true]
 rw [List.getD_eq_getElem?_getD, hv, List.getD_eq_getElem?_getD, hz, Option.getD_some, Option.getD_some, jd1 hy, decide_eq_true (by omega), Bool.true_and]
theorem jsu {f g : FunV} {l : List Int} {k : Nat} (hk : k <= l.length) (h : je3 f g l k = false) : jln f g l = false := by
 unfold je3 at h
 unfold jln
 rw [Bool.eq_false_iff] at h ⊢
 intro h2
 apply h
 rw [List.all_eq_true] at h2 ⊢
 exact fun i hi => h2 i (List.mem_range.2 (by have := List.mem_range.1 hi; omega))
theorem fit_call {p : List FunV} {f g : FunV} {x : InsV} {d n : Nat} {k : Int} (ho : x.op = 19) (hn : x.n = (n : Int)) (hg : p[n]? = some g) (hd : x.d = (d : Int)) (hk : f.kinds[d]? = some k) : jb4 p f x = (je3 f g x.args x.args.length && (k == g.result)) := by
 unfold jb4
 rw [if_neg (by omega), if_neg (by omega), if_neg (by omega), if_pos ho]
 unfold jmr
 rw [if_neg (by omega), hn, Int.toNat_natCast, hg, hd]
 show (jln f g x.args && isK f (d : Int) g.result) = _
 rw [jd1 hk]
 rfl
theorem jk9 (vp : Value) (p : List FunV) (f : FunV) (n : Nat) (x : InsV) (va : Value) (w : World) (B : Nat) (hB : B <= w.heap.size) (hp : FunsV w (· < B) vp p) (hf : p[n]? = some f) (hx : InsI w (· < B) va x) (hF : FitF p f x) :
  Calls Tryz.prog 30 #[.agg #[vp], .int .i64 (n : Int), .agg #[.int .i64 x.op, .int .i64 x.d, .int .i64 x.a, .int .i64 x.b, .int .i64 x.n, .int .i64 x.m, va]] w fun e w' => e = .returned (.bool (fitB p f x)) /\ Below w.heap.size w w' := by
 have HSG := hide (fun W => jo8 x.op hF.op W)
 obtain ⟨on, hon⟩ : ∃ on : Nat, x.op = (on : Int) := ⟨x.op.toNat, by have := hF.op; omega⟩
 have hon2 : 1 <= on /\ on < 24 := by have := hF.op; omega
 have HS1 := hide (fun i (hi : i < 3) => (show sgN x.op i = 45 \/ sgN x.op i = 105 \/ sgN x.op i = 114 \/ sgN x.op i = 100 from by rw [hon]; exact sg_one on hon2.2 hon2.1 i hi))
 have HPK := hide (fun (W : World) (hW : Below w.heap.size w W) => hp.keep (up hW hB) (fun _ h => h))
 obtain ⟨Ap, cp, rfl, hcp, hmp⟩ := hp.open'
 obtain ⟨bg, og, Ak, ck, Ab, cb, As, cs, hAp, hbgb, ⟨e0, e1, e2, e3, e4⟩, hi⟩ := hp.get hf
 subst hAp
 have HIK := hide (fun (W : World) (hW : Below w.heap.size w W) => hi.keep (w := w) (S := (· < B)) (up hW hB) (fun _ h => h))
 have HIS := hide (fun (v : Int) (c : Nat) hc (W : World) (hW : Below w.heap.size w W) => ris_any (.slice Ak f.kinds.length ck) (.slice Ab f.base.length cb) (.slice As f.blocks.length cs) f v c hc W B (by have := hW.size; omega) (HIK.out W hW))
 have HXK := hide (fun (W : World) (hW : Below w.heap.size w W) => hx.1.keep (up hW hB) (fun _ h => h))
 obtain ⟨Ax, cx, rfl, hcx, hmx⟩ := hx.1.open'
 obtain ⟨b0, hb0⟩ := zl (letB f (sgN x.op 0) x.d)
 obtain ⟨b1, hb1⟩ := zl (letB f (sgN x.op 1) x.a)
 obtain ⟨b2, hb2⟩ := zl (letB f (sgN x.op 2) x.b)
 have HR := hide (fit_row (p := p) hb0 hb1 hb2)
 have HB0 := hide hb0
 have HB1' := hide hb1
 have HB2' := hide hb2
 have HKQ := hide (fun (v : Int) (h : 0 <= v /\ v < f.kinds.length) => (show ∃ (m : Nat) (y : Int), v = (m : Int) /\ m < f.kinds.length /\ f.kinds[m]? = some y from ⟨v.toNat, f.kinds[v.toNat]'(by omega), by omega, by omega, List.getElem?_eq_getElem (by omega)⟩))
 have HBQ := hide (fun (m : Nat) (h : m < f.kinds.length) => (show ∃ (y : Int), f.base[m]? = some y from ⟨_, List.getElem?_eq_getElem (by rw [hF.bl]; exact h)⟩))
 have HO2 := hide (fun (ho : x.op = 2) => (show ∃ (d a : Nat) (kd ka : Int), x.d = (d : Int) /\ x.a = (a : Int) /\ d < f.kinds.length /\ a < f.kinds.length /\ f.kinds[d]? = some kd /\ f.kinds[a]? = some ka /\ jb4 p f x = (kd == ka && kd != 2) from by
  obtain ⟨d, kd, h1, h2, h3⟩ := HKQ.out x.d (hF.dv (.inl ho))
  obtain ⟨a, ka, h4, h5, h6⟩ := HKQ.out x.a (hF.av (.inl ho))
  exact ⟨d, a, kd, ka, h1, h4, h2, h5, h3, h6, fit_move ho h1 h4 h3 h6 hF.k3⟩))
 have HO15 := hide (fun (ho : x.op = 15) => (show ∃ (d : Nat) (b : Int), x.d = (d : Int) /\ d < f.kinds.length /\ f.base[d]? = some b /\ jb4 p f x = (b == x.a) from by
  obtain ⟨d, kd, h1, h2, h3⟩ := HKQ.out x.d (hF.dv (.inr (.inl ho)))
  obtain ⟨b, hb⟩ := HBQ.out d h2
  exact ⟨d, b, h1, h2, hb, jp0 ho h1 hb⟩))
 have HO16 := hide (fun (ho : x.op = 16) => (show ∃ (d a : Nat) (b c : Int), x.d = (d : Int) /\ x.a = (a : Int) /\ d < f.kinds.length /\ a < f.kinds.length /\ f.base[d]? = some b /\ f.base[a]? = some c /\ jb4 p f x = (b == c) from by
  obtain ⟨d, kd, h1, h2, h3⟩ := HKQ.out x.d (hF.dv (.inr (.inr (.inl ho))))
  obtain ⟨a, ka, h4, h5, h6⟩ := HKQ.out x.a (hF.av (.inr (.inr (.inl ho))))
  obtain ⟨b, hb⟩ := HBQ.out d h2
  obtain ⟨c, hc⟩ := HBQ.out a h5
  exact ⟨d, a, b, c, h1, h4, h2, h5, hb, hc, jsa ho h1 h4 hb hc⟩))
 have HO23 := hide (fun (ho : x.op = 23) => (show ∃ (a : Nat) (k : Int), x.a = (a : Int) /\ a < f.kinds.length /\ f.kinds[a]? = some k /\ jb4 p f x = (k == f.result) from by
  obtain ⟨a, ka, h4, h5, h6⟩ := HKQ.out x.a (hF.av (.inr (.inr (.inr ho))))
  exact ⟨a, ka, h4, h5, h6, fit_ret ho h4 h6⟩))
 have HOE := hide (fun h1 h2 h3 h4 h5 => @fit_else p f x h1 h2 h3 h4 h5)
 have HO19 := hide (fun (ho : x.op = 19) => (show ∃ (d m : Nat) (g : FunV) (k : Int), x.d = (d : Int) /\ d < f.kinds.length /\ f.kinds[d]? = some k /\ x.n = (m : Int) /\ p[m]? = some g /\ x.args.length <= g.kinds.length /\ (∀ v ∈ x.args, 0 <= v /\ v < f.kinds.length) /\ jb4 p f x = (je3 f g x.args x.args.length && (k == g.result)) from by
  obtain ⟨d, kd, h1, h2, h3⟩ := HKQ.out x.d (hF.dv (.inr (.inr (.inr ho))))
  obtain ⟨⟨m, g, h4, h5, h6⟩, h7⟩ := hF.call ho
  exact ⟨d, m, g, kd, h1, h2, h3, h4, h5, h6, h7, fit_call ho h4 h5 h1 h3⟩))
 have hbl := hF.bl.symm
 obtain ⟨R, hR⟩ := zl (fitB p f x)
 obtain ⟨r, hr⟩ := zl (jb4 p f x)
 rw [hR, hr] at HR
 rw [hR]
 rw [hr] at HO2 HO15 HO16 HO23 HOE HO19
 obtain ⟨lk, hlk⟩ := zl f.kinds.length
 have hnl := (List.getElem?_eq_some_iff.1 hf).1
 obtain ⟨np, hnp⟩ := zl p.length
 have HNP := hide hnp
 rw [hnp] at hnl hcp HPK
 rw [hnp]
 rw [hlk] at HIS HKQ HBQ HO2 HO15 HO16 HO23 HO19 hbl e0
 rw [hbl.symm] at e1 HIS
 have HLK := hide hlk
 clear hp hi hx hf hb0 hb1 hb2 hR hr hF hon hnp hlk hbl
 generalize x.args = xl, x.op = xo, x.d = xd, x.a = xa, x.b = xb, x.n = xn, x.m = xm at *
 generalize f.blocks.length = ls, f.params = fp, f.result = fr at *
 obtain ⟨lx, hlx⟩ := zl xl.length
 have HLX := hide hlx
 rw [hlx] at hcx HO19 HXK ⊢
 have d0 : decide ((n : Int) < 0) = false := by simp
 have d1 : decide ((n : Int) ≥ (np : Int)) = false := by simp; omega
 have d2 : (0 : Int) <= (n : Int) := by omega
 have d3 : (n : Int) < (np : Int) := by omega
 have hlx63 : lx <= 9223372036854775807 := by omega
 clear hlx hcx hmx hcp hmp
 go_enter Tryz.func30, Tryz.ntmps30
 go_upto_region 1 with (fail)
 obtain ⟨w1, hw1⟩ := zr ((w.alloc (.cells #[.slice (some ⟨bg, og, none⟩) np cp] 24)).alloc (.cells #[.int .i64 xo, .int .i64 xd, .int .i64 xa, .int .i64 xb, .int .i64 xn, .int .i64 xm, .slice Ax lx cx] 57))
 obtain ⟨h5, hh5⟩ := zl w.heap.size
 have HX0 := zy2 hw1 hh5
 have HX1 := zx2 hw1 hh5
 have HB1 := zb2 hw1
 have w1s := HB1.out.size
 have w1z := zs2 hw1 hh5
 have HK0 := zk1 HX0
 have lHX0 := HX0.out.lt
 have HK1 := zk7 HX1
 have lHX1 := HX1.out.lt
 have h5g : w.heap.size <= h5 := by omega
 rw [<- hw1, hh5]
 clear hw1 hh5
 have p0 := HK0.out w1 (Below.refl _ _)
 have g0 := (HB1.out.cell (p := ⟨bg, og + n * 5, none⟩) (show bg < w.heap.size by omega)).trans e0
 have g1 := (HB1.out.cell (p := ⟨bg, og + n * 5 + 1, none⟩) (show bg < w.heap.size by omega)).trans e1
 have g2 := (HB1.out.cell (p := ⟨bg, og + n * 5 + 2, none⟩) (show bg < w.heap.size by omega)).trans e2
 have g3 := (HB1.out.cell (p := ⟨bg, og + n * 5 + 3, none⟩) (show bg < w.heap.size by omega)).trans e3
 have g4 := (HB1.out.cell (p := ⟨bg, og + n * 5 + 4, none⟩) (show bg < w.heap.size by omega)).trans e4
 have lbg : bg < w1.heap.size := by omega
 go_upto_region 4 with (fail)
 obtain ⟨w2, hw2⟩ := zr (w1.alloc (.cells #[.slice Ak lk ck, .slice Ab lk cb, .int .i64 fp, .int .i64 fr, .slice As ls cs] 52))
 obtain ⟨h6, hh6⟩ := zl w1.heap.size
 have HFX0 := zx1 hw2 hh6
 have HB2 := zb1 hw2
 have w2s := HB2.out.size
 have w2z := zs1 hw2 hh6
 have HFK0 := zk5 HFX0
 have lHFX0 := HFX0.out.lt
 have h6g : w1.heap.size <= h6 := by omega
 rw [<- hw2, hh6]
 clear hw2 hh6
 have HUP := hide (fun (W : World) (hW : Below w2.heap.size w2 W) => HB1.out.trans ((HB2.out.trans (hW.mono HB2.out.size)).mono HB1.out.size))
 have HXC := hide (fun (W : World) (hW : Below w2.heap.size w2 W) => HK1.out W (HB2.out.trans (hW.mono HB2.out.size)))
 have HPC := hide (fun (W : World) (hW : Below w2.heap.size w2 W) => HK0.out W (HB2.out.trans (hW.mono HB2.out.size)))
 have HSS := hide (fun (W : World) (hW : Below w2.heap.size w2 W) => And.intro (HFK0.out W hW) (And.intro (HXC.out W hW).2.1 (And.intro (HXC.out W hW).2.2.1 (HXC.out W hW).2.2.2.1)))
 obtain ⟨x0, x1, x2, x3, x4, x5, x6⟩ := HXC.out w2 (Below.refl _ _)
 clear e0 e1 e2 e3 e4 g0 g1 g2 g3 g4 p0 lbg
 go_upto_region 5 with (go_at_call 54; (with_reducible refine (HSG.out _).mono ?_); rintro e w' ⟨q0, q1, q2, rfl, ⟨hq0, hq1, hq2⟩, rfl⟩; have HQ0 := hide hq0; have HQ1 := hide hq1; have HQ2 := hide hq2; clear hq0 hq1 hq2)
 have HI0 := hide (fun (W : World) (hW : Below w2.heap.size w2 W) => (show Calls Tryz.prog 55 #[.agg #[.slice Ak lk ck, .slice Ab lk cb, .int .i64 fp, .int .i64 fr, .slice As ls cs], .int .i64 xd, .int .u8 (q0.toNat : Int)] W fun e w' => e = .returned (.bool b0) /\ Below W.heap.size W w' from by have t := HIS.out xd q0.toNat (by rw [HQ0.out]; exact HS1.out 0 (by omega)) W (HUP.out W hW); rw [HQ0.out, HB0.out, <- HQ0.out] at t; exact t))
 have HI1 := hide (fun (W : World) (hW : Below w2.heap.size w2 W) => (show Calls Tryz.prog 55 #[.agg #[.slice Ak lk ck, .slice Ab lk cb, .int .i64 fp, .int .i64 fr, .slice As ls cs], .int .i64 xa, .int .u8 (q1.toNat : Int)] W fun e w' => e = .returned (.bool b1) /\ Below W.heap.size W w' from by have t := HIS.out xa q1.toNat (by rw [HQ1.out]; exact HS1.out 1 (by omega)) W (HUP.out W hW); rw [HQ1.out, HB1'.out, <- HQ1.out] at t; exact t))
 have HI2 := hide (fun (W : World) (hW : Below w2.heap.size w2 W) => (show Calls Tryz.prog 55 #[.agg #[.slice Ak lk ck, .slice Ab lk cb, .int .i64 fp, .int .i64 fr, .slice As ls cs], .int .i64 xb, .int .u8 (q2.toNat : Int)] W fun e w' => e = .returned (.bool b2) /\ Below W.heap.size W w' from by have t := HIS.out xb q2.toNat (by rw [HQ2.out]; exact HS1.out 2 (by omega)) W (HUP.out W hW); rw [HQ2.out, HB2'.out, <- HQ2.out] at t; exact t))
 clear x0 x1 x2 x3 x4 x5 x6
 cases b0
 case false =>
  refine wp_region_held_drew (S := (fun w' => (w'.cell? ⟨h6, 0, none⟩ = some (.slice Ak lk ck) /\ w'.cell? ⟨h6, 1, none⟩ = some (.slice Ab lk cb) /\ w'.cell? ⟨h6, 2, none⟩ = some (.int .i64 fp) /\ w'.cell? ⟨h6, 3, none⟩ = some (.int .i64 fr) /\ w'.cell? ⟨h6, 4, none⟩ = some (.slice As ls cs)) /\ w'.cell? ⟨h5 + 1, 1, none⟩ = some (.int .i64 xd) /\ w'.cell? ⟨h5 + 1, 2, none⟩ = some (.int .i64 xa) /\ w'.cell? ⟨h5 + 1, 3, none⟩ = some (.int .i64 xb))) (by kernel_rfl) (HSS.out w2.drew (ja0 (Below.refl _ _) 1)) (fun hHeld => ?_)
  have HD9 := hide (show Below w2.heap.size w2 (w2.drewN 1) from ja0 (Below.refl _ _) 1)
  refine tilH 0 (by assumption) ?_
  refine tilH 1 (by assumption) ?_
  refine tilH 2 (by assumption) ?_
  refine tilH 3 (by assumption) ?_
  refine tilH 4 (by assumption) ?_
  refine wpAnyH_ready (rs := [5]) (by kernel_rfl) (by simp) ?_
  refine AllReadyH.cons rfl (fun K hK => ?_) AllReadyH.nil
  rw [if_pos (by rfl)]
  go_simp
  go_at_call 55
  refine (HI0.out _ HD9.out).mono ?_
  rintro e wv0 ⟨rfl, hbwv0⟩
  have hcwv0 : Below w2.heap.size w2 wv0 := Below.trans HD9.out (Below.mono hbwv0 (Below.size HD9.out))
  have qwv0 := HSS.out wv0 hcwv0
  have Hwv0 := hide hcwv0
  clear hbwv0 hHeld
  try go_wp2_with fail
  refine hK.out _ _ qwv0 (fun hHeld => ?_)
  clear hK K hcwv0 qwv0
  try simp only [tilS, Act.put]
  refine tilH 6 (by assumption) ?_
  refine tilH 7 (by assumption) ?_
  refine tilU 8 (by assumption) ?_
  refine tilU 9 (by assumption) ?_
  refine tilU 10 (by assumption) ?_
  refine tilU 11 (by assumption) ?_
  refine tilU 12 (by assumption) ?_
  refine tilU 13 (by assumption) ?_
  refine tilU 14 (by assumption) ?_
  refine tilH 15 (by assumption) ?_
  refine tilH 16 (by assumption) ?_
  refine tilU 17 (by assumption) ?_
  refine tilU 18 (by assumption) ?_
  refine tilU 19 (by assumption) ?_
  refine tilU 20 (by assumption) ?_
  refine tilU 21 (by assumption) ?_
  refine tilU 22 (by assumption) ?_
  refine tilU 23 (by assumption) ?_
  refine tilH 24 (by assumption) ?_
  refine wpAnyH_done (by kernel_rfl) ?_ _
  go_wp2
  go_ret
  exact ⟨by rw [HR.out]; rfl, HUP.out wv0 Hwv0.out⟩
 cases b1
 case false =>
  refine wp_region_held_drew (S := (fun w' => (w'.cell? ⟨h6, 0, none⟩ = some (.slice Ak lk ck) /\ w'.cell? ⟨h6, 1, none⟩ = some (.slice Ab lk cb) /\ w'.cell? ⟨h6, 2, none⟩ = some (.int .i64 fp) /\ w'.cell? ⟨h6, 3, none⟩ = some (.int .i64 fr) /\ w'.cell? ⟨h6, 4, none⟩ = some (.slice As ls cs)) /\ w'.cell? ⟨h5 + 1, 1, none⟩ = some (.int .i64 xd) /\ w'.cell? ⟨h5 + 1, 2, none⟩ = some (.int .i64 xa) /\ w'.cell? ⟨h5 + 1, 3, none⟩ = some (.int .i64 xb))) (by kernel_rfl) (HSS.out w2.drew (ja0 (Below.refl _ _) 1)) (fun hHeld => ?_)
  have HD9 := hide (show Below w2.heap.size w2 (w2.drewN 1) from ja0 (Below.refl _ _) 1)
  refine tilH 0 (by assumption) ?_
  refine tilH 1 (by assumption) ?_
  refine tilH 2 (by assumption) ?_
  refine tilH 3 (by assumption) ?_
  refine tilH 4 (by assumption) ?_
  refine wpAnyH_ready (rs := [5]) (by kernel_rfl) (by simp) ?_
  refine AllReadyH.cons rfl (fun K hK => ?_) AllReadyH.nil
  rw [if_pos (by rfl)]
  go_simp
  go_at_call 55
  refine (HI0.out _ HD9.out).mono ?_
  rintro e wv0 ⟨rfl, hbwv0⟩
  have hcwv0 : Below w2.heap.size w2 wv0 := Below.trans HD9.out (Below.mono hbwv0 (Below.size HD9.out))
  have qwv0 := HSS.out wv0 hcwv0
  have Hwv0 := hide hcwv0
  clear hbwv0 hHeld
  try go_wp2_with fail
  refine hK.out _ _ qwv0 (fun hHeld => ?_)
  clear hK K hcwv0 qwv0
  try simp only [tilS, Act.put]
  refine tilH 6 (by assumption) ?_
  refine tilH 7 (by assumption) ?_
  refine tilH 8 (by assumption) ?_
  refine tilH 9 (by assumption) ?_
  refine tilH 10 (by assumption) ?_
  refine tilH 11 (by assumption) ?_
  refine tilH 12 (by assumption) ?_
  refine wpAnyH_ready (rs := [13]) (by kernel_rfl) (by simp) ?_
  refine AllReadyH.cons rfl (fun K hK => ?_) AllReadyH.nil
  rw [if_pos (by rfl)]
  go_simp
  go_at_call 55
  refine (HI1.out _ Hwv0.out).mono ?_
  rintro e wv1 ⟨rfl, hbwv1⟩
  have hcwv1 : Below w2.heap.size w2 wv1 := Below.trans Hwv0.out (Below.mono hbwv1 (Below.size Hwv0.out))
  have qwv1 := HSS.out wv1 hcwv1
  have Hwv1 := hide hcwv1
  clear hbwv1 hHeld
  try go_wp2_with fail
  refine hK.out _ _ qwv1 (fun hHeld => ?_)
  clear hK K hcwv1 qwv1
  try simp only [tilS, Act.put]
  refine tilH 14 (by assumption) ?_
  refine tilH 15 (by assumption) ?_
  refine tilH 16 (by assumption) ?_
  refine tilU 17 (by assumption) ?_
  refine tilU 18 (by assumption) ?_
  refine tilU 19 (by assumption) ?_
  refine tilU 20 (by assumption) ?_
  refine tilU 21 (by assumption) ?_
  refine tilU 22 (by assumption) ?_
  refine tilU 23 (by assumption) ?_
  refine tilH 24 (by assumption) ?_
  refine wpAnyH_done (by kernel_rfl) ?_ _
  go_wp2
  go_ret
  exact ⟨by rw [HR.out]; rfl, HUP.out wv1 Hwv1.out⟩
 cases b2
 case false =>
  refine wp_region_held_drew (S := (fun w' => (w'.cell? ⟨h6, 0, none⟩ = some (.slice Ak lk ck) /\ w'.cell? ⟨h6, 1, none⟩ = some (.slice Ab lk cb) /\ w'.cell? ⟨h6, 2, none⟩ = some (.int .i64 fp) /\ w'.cell? ⟨h6, 3, none⟩ = some (.int .i64 fr) /\ w'.cell? ⟨h6, 4, none⟩ = some (.slice As ls cs)) /\ w'.cell? ⟨h5 + 1, 1, none⟩ = some (.int .i64 xd) /\ w'.cell? ⟨h5 + 1, 2, none⟩ = some (.int .i64 xa) /\ w'.cell? ⟨h5 + 1, 3, none⟩ = some (.int .i64 xb))) (by kernel_rfl) (HSS.out w2.drew (ja0 (Below.refl _ _) 1)) (fun hHeld => ?_)
  have HD9 := hide (show Below w2.heap.size w2 (w2.drewN 1) from ja0 (Below.refl _ _) 1)
  refine tilH 0 (by assumption) ?_
  refine tilH 1 (by assumption) ?_
  refine tilH 2 (by assumption) ?_
  refine tilH 3 (by assumption) ?_
  refine tilH 4 (by assumption) ?_
  refine wpAnyH_ready (rs := [5]) (by kernel_rfl) (by simp) ?_
  refine AllReadyH.cons rfl (fun K hK => ?_) AllReadyH.nil
  rw [if_pos (by rfl)]
  go_simp
  go_at_call 55
  refine (HI0.out _ HD9.out).mono ?_
  rintro e wv0 ⟨rfl, hbwv0⟩
  have hcwv0 : Below w2.heap.size w2 wv0 := Below.trans HD9.out (Below.mono hbwv0 (Below.size HD9.out))
  have qwv0 := HSS.out wv0 hcwv0
  have Hwv0 := hide hcwv0
  clear hbwv0 hHeld
  try go_wp2_with fail
  refine hK.out _ _ qwv0 (fun hHeld => ?_)
  clear hK K hcwv0 qwv0
  try simp only [tilS, Act.put]
  refine tilH 6 (by assumption) ?_
  refine tilH 7 (by assumption) ?_
  refine tilH 8 (by assumption) ?_
  refine tilH 9 (by assumption) ?_
  refine tilH 10 (by assumption) ?_
  refine tilH 11 (by assumption) ?_
  refine tilH 12 (by assumption) ?_
  refine wpAnyH_ready (rs := [13]) (by kernel_rfl) (by simp) ?_
  refine AllReadyH.cons rfl (fun K hK => ?_) AllReadyH.nil
  rw [if_pos (by rfl)]
  go_simp
  go_at_call 55
  refine (HI1.out _ Hwv0.out).mono ?_
  rintro e wv1 ⟨rfl, hbwv1⟩
  have hcwv1 : Below w2.heap.size w2 wv1 := Below.trans Hwv0.out (Below.mono hbwv1 (Below.size Hwv0.out))
  have qwv1 := HSS.out wv1 hcwv1
  have Hwv1 := hide hcwv1
  clear hbwv1 hHeld
  try go_wp2_with fail
  refine hK.out _ _ qwv1 (fun hHeld => ?_)
  clear hK K hcwv1 qwv1
  try simp only [tilS, Act.put]
  refine tilH 14 (by assumption) ?_
  refine tilH 15 (by assumption) ?_
  refine tilH 16 (by assumption) ?_
  refine tilH 17 (by assumption) ?_
  refine tilH 18 (by assumption) ?_
  refine tilH 19 (by assumption) ?_
  refine tilH 20 (by assumption) ?_
  refine tilH 21 (by assumption) ?_
  refine wpAnyH_ready (rs := [22]) (by kernel_rfl) (by simp) ?_
  refine AllReadyH.cons rfl (fun K hK => ?_) AllReadyH.nil
  rw [if_pos (by rfl)]
  go_simp
  go_at_call 55
  refine (HI2.out _ Hwv1.out).mono ?_
  rintro e wv2 ⟨rfl, hbwv2⟩
  have hcwv2 : Below w2.heap.size w2 wv2 := Below.trans Hwv1.out (Below.mono hbwv2 (Below.size Hwv1.out))
  have qwv2 := HSS.out wv2 hcwv2
  have Hwv2 := hide hcwv2
  clear hbwv2 hHeld
  try go_wp2_with fail
  refine hK.out _ _ qwv2 (fun hHeld => ?_)
  clear hK K hcwv2 qwv2
  try simp only [tilS, Act.put]
  refine tilH 23 (by assumption) ?_
  refine tilH 24 (by assumption) ?_
  refine wpAnyH_done (by kernel_rfl) ?_ _
  go_wp2
  go_ret
  exact ⟨by rw [HR.out]; rfl, HUP.out wv2 Hwv2.out⟩
 refine wp_region_held_drew (S := (fun w' => (w'.cell? ⟨h6, 0, none⟩ = some (.slice Ak lk ck) /\ w'.cell? ⟨h6, 1, none⟩ = some (.slice Ab lk cb) /\ w'.cell? ⟨h6, 2, none⟩ = some (.int .i64 fp) /\ w'.cell? ⟨h6, 3, none⟩ = some (.int .i64 fr) /\ w'.cell? ⟨h6, 4, none⟩ = some (.slice As ls cs)) /\ w'.cell? ⟨h5 + 1, 1, none⟩ = some (.int .i64 xd) /\ w'.cell? ⟨h5 + 1, 2, none⟩ = some (.int .i64 xa) /\ w'.cell? ⟨h5 + 1, 3, none⟩ = some (.int .i64 xb))) (by kernel_rfl) (HSS.out w2.drew (ja0 (Below.refl _ _) 1)) (fun hHeld => ?_)
 have HD9 := hide (show Below w2.heap.size w2 (w2.drewN 1) from ja0 (Below.refl _ _) 1)
 refine tilH 0 (by assumption) ?_
 refine tilH 1 (by assumption) ?_
 refine tilH 2 (by assumption) ?_
 refine tilH 3 (by assumption) ?_
 refine tilH 4 (by assumption) ?_
 refine wpAnyH_ready (rs := [5]) (by kernel_rfl) (by simp) ?_
 refine AllReadyH.cons rfl (fun K hK => ?_) AllReadyH.nil
 rw [if_pos (by rfl)]
 go_simp
 go_at_call 55
 refine (HI0.out _ HD9.out).mono ?_
 rintro e wv0 ⟨rfl, hbwv0⟩
 have hcwv0 : Below w2.heap.size w2 wv0 := Below.trans HD9.out (Below.mono hbwv0 (Below.size HD9.out))
 have qwv0 := HSS.out wv0 hcwv0
 have Hwv0 := hide hcwv0
 clear hbwv0 hHeld
 try go_wp2_with fail
 refine hK.out _ _ qwv0 (fun hHeld => ?_)
 clear hK K hcwv0 qwv0
 try simp only [tilS, Act.put]
 refine tilH 6 (by assumption) ?_
 refine tilH 7 (by assumption) ?_
 refine tilH 8 (by assumption) ?_
 refine tilH 9 (by assumption) ?_
 refine tilH 10 (by assumption) ?_
 refine tilH 11 (by assumption) ?_
 refine tilH 12 (by assumption) ?_
 refine wpAnyH_ready (rs := [13]) (by kernel_rfl) (by simp) ?_
 refine AllReadyH.cons rfl (fun K hK => ?_) AllReadyH.nil
 rw [if_pos (by rfl)]
 go_simp
 go_at_call 55
 refine (HI1.out _ Hwv0.out).mono ?_
 rintro e wv1 ⟨rfl, hbwv1⟩
 have hcwv1 : Below w2.heap.size w2 wv1 := Below.trans Hwv0.out (Below.mono hbwv1 (Below.size Hwv0.out))
 have qwv1 := HSS.out wv1 hcwv1
 have Hwv1 := hide hcwv1
 clear hbwv1 hHeld
 try go_wp2_with fail
 refine hK.out _ _ qwv1 (fun hHeld => ?_)
 clear hK K hcwv1 qwv1
 try simp only [tilS, Act.put]
 refine tilH 14 (by assumption) ?_
 refine tilH 15 (by assumption) ?_
 refine tilH 16 (by assumption) ?_
 refine tilH 17 (by assumption) ?_
 refine tilH 18 (by assumption) ?_
 refine tilH 19 (by assumption) ?_
 refine tilH 20 (by assumption) ?_
 refine tilH 21 (by assumption) ?_
 refine wpAnyH_ready (rs := [22]) (by kernel_rfl) (by simp) ?_
 refine AllReadyH.cons rfl (fun K hK => ?_) AllReadyH.nil
 rw [if_pos (by rfl)]
 go_simp
 go_at_call 55
 refine (HI2.out _ Hwv1.out).mono ?_
 rintro e wv2 ⟨rfl, hbwv2⟩
 have hcwv2 : Below w2.heap.size w2 wv2 := Below.trans Hwv1.out (Below.mono hbwv2 (Below.size Hwv1.out))
 have qwv2 := HSS.out wv2 hcwv2
 have Hwv2 := hide hcwv2
 clear hbwv2 hHeld
 try go_wp2_with fail
 refine hK.out _ _ qwv2 (fun hHeld => ?_)
 clear hK K hcwv2 qwv2
 try simp only [tilS, Act.put]
 refine tilH 23 (by assumption) ?_
 refine tilH 24 (by assumption) ?_
 refine wpAnyH_done (by kernel_rfl) ?_ _
 obtain ⟨w3, rfl⟩ := zr wv2
 have HC3 := hide Hwv2.out
 have hr : R = r := by rw [HR.out]; simp
 subst hr
 clear HR HI0 HI1 HI2 HIS HSG HS1 HQ0 HQ1 HQ2 HB0 HB1' HB2' hHeld Hwv0 Hwv1 Hwv2
 have HW3 := hide (HUP.out w3 HC3.out)
 have l3 := HC3.out.size
 obtain ⟨c0, c1, c2, c3, c4⟩ := HFK0.out w3 HC3.out
 obtain ⟨x0, x1, x2, x3, x4, x5, x6⟩ := HXC.out w3 HC3.out
 have lf6 : h6 < w3.heap.size := by omega
 have lx5 : h5 + 1 < w3.heap.size := by omega
 have lbw : B <= w3.heap.size := by have := HW3.out.size; omega
 have HKN := hide (fun (m : Nat) (y : Int) (hm : f.kinds[m]? = some y) (W : World) (hW : Below w3.heap.size w3 W) => (show ∃ b o, Ak = some ⟨b, o, none⟩ /\ b < w3.heap.size /\ W.cell? ⟨b, o + m, none⟩ = some (.int .i64 y) from by
  obtain ⟨b, o, h1, h2, h3, -⟩ := (HIK.out W (HW3.out.trans (hW.mono HW3.out.size))).1.get (by exact hm)
  exact ⟨b, o, h1, by omega, h3⟩))
 have HBN := hide (fun (m : Nat) (y : Int) (hm : f.base[m]? = some y) (W : World) (hW : Below w3.heap.size w3 W) => (show ∃ b o, Ab = some ⟨b, o, none⟩ /\ b < w3.heap.size /\ W.cell? ⟨b, o + m, none⟩ = some (.int .i64 y) from by
  obtain ⟨b, o, h1, h2, h3, -⟩ := (HIK.out W (HW3.out.trans (hW.mono HW3.out.size))).2.1.get (by exact hm)
  exact ⟨b, o, h1, by omega, h3⟩))
 by_cases o2 : xo = 2
 case pos =>
  obtain ⟨d, a, kd, ka, rfl, rfl, hd, ha, hkd, hka, hr⟩ := HO2.out o2
  subst o2
  obtain ⟨bk, ok, hAk, hbk, ek1⟩ := HKN.out d kd hkd w3 (Below.refl _ _)
  subst hAk
  obtain ⟨bk', ok', hAk', -, ek2⟩ := HKN.out a ka hka w3 (Below.refl _ _)
  cases hAk'
  have rd0 : (0 : Int) <= (d : Int) := by omega
  have rd1 : (d : Int) < (lk : Int) := by omega
  have ra0 : (0 : Int) <= (a : Int) := by omega
  have ra1 : (a : Int) < (lk : Int) := by omega
  clear HO2 HO15 HO16 HO23 HOE HO19 hkd hka
  by_cases hk : kd = ka
  case pos =>
   subst hk
   rw [show (kd == kd && kd != 2) = (kd != 2) by simp] at hr
   subst hr
   go_wp2_with fail
   go_quiet (fail)
   go_wp2
   go_ret
   exact ⟨rfl, ja0 HW3.out _⟩
  have hkb : (kd == ka) = false := by simp [hk]
  rw [hkb, Bool.false_and] at hr
  subst hr
  go_wp2_with fail
  go_quiet (fail)
  go_wp2
  go_ret
  exact ⟨rfl, ja0 HW3.out _⟩
 by_cases o15 : xo = 15
 case pos =>
  obtain ⟨d, b, rfl, hd, hb, hr⟩ := HO15.out o15
  subst o15
  obtain ⟨bl, ol, hAl, hbl, eb1⟩ := HBN.out d b hb w3 (Below.refl _ _)
  subst hAl
  have rd0 : (0 : Int) <= (d : Int) := by omega
  have rd1 : (d : Int) < (lk : Int) := by omega
  clear HO2 HO15 HO16 HO23 HOE HO19 hb o2
  subst hr
  go_wp2_with fail
  go_quiet (fail)
  go_wp2
  go_ret
  exact ⟨rfl, ja0 HW3.out _⟩
 by_cases o16 : xo = 16
 case pos =>
  obtain ⟨d, a, b, c, rfl, rfl, hd, ha, hb, hc, hr⟩ := HO16.out o16
  subst o16
  obtain ⟨bl, ol, hAl, hbl, eb1⟩ := HBN.out d b hb w3 (Below.refl _ _)
  subst hAl
  obtain ⟨bl', ol', hAl', -, eb2⟩ := HBN.out a c hc w3 (Below.refl _ _)
  cases hAl'
  have rd0 : (0 : Int) <= (d : Int) := by omega
  have rd1 : (d : Int) < (lk : Int) := by omega
  have ra0 : (0 : Int) <= (a : Int) := by omega
  have ra1 : (a : Int) < (lk : Int) := by omega
  clear HO2 HO15 HO16 HO23 HOE HO19 hb hc o2 o15
  subst hr
  go_wp2_with fail
  go_quiet (fail)
  go_wp2
  go_ret
  exact ⟨rfl, ja0 HW3.out _⟩
 by_cases o23 : xo = 23
 case pos =>
  obtain ⟨a, k, rfl, ha, hk, hr⟩ := HO23.out o23
  subst o23
  obtain ⟨bk, ok, hAk, hbk, ek1⟩ := HKN.out a k hk w3 (Below.refl _ _)
  subst hAk
  have ra0 : (0 : Int) <= (a : Int) := by omega
  have ra1 : (a : Int) < (lk : Int) := by omega
  clear HO2 HO15 HO16 HO23 HOE HO19 hk o2 o15 o16
  subst hr
  go_wp2_with fail
  go_quiet (fail)
  go_wp2
  go_ret
  exact ⟨rfl, ja0 HW3.out _⟩
 by_cases o19 : xo = 19
 case neg =>
  obtain rfl : R = true := HOE.out o2 o15 o16 o19 o23
  have z2 : (xo == 2) = false := by simp [o2]
  have z15 : (xo == 15) = false := by simp [o15]
  have z16 : (xo == 16) = false := by simp [o16]
  have z23 : (xo == 23) = false := by simp [o23]
  have z19 : (xo == 19) = false := by simp [o19]
  clear HO2 HO15 HO16 HO23 HOE HO19
  go_wp2
  go_ret
  exact ⟨rfl, HW3.out⟩
 obtain ⟨d, m, g, k, rfl, hd, hkd, rfl, hg, hgl, hva, hr⟩ := HO19.out o19
 subst o19
 obtain ⟨bk, ok, hAk, hbk, ekd⟩ := HKN.out d k hkd w3 (Below.refl _ _)
 subst hAk
 have rd0 : (0 : Int) <= (d : Int) := by omega
 have rd1 : (d : Int) < (lk : Int) := by omega
 obtain ⟨bq, oq, Agk, cgk, Agb, cgb, Ags, cgs, hAq, hbq, ⟨y0, y1, y2, y3, y4⟩, hig⟩ := (HPK.out w3 HW3.out).get hg
 cases hAq
 have hml := (List.getElem?_eq_some_iff.1 hg).1
 rw [HNP.out] at hml
 have HGK := hide (fun (W : World) (hW : Below w3.heap.size w3 W) => hig.1.keep (w := w3) (S := (· < B)) (S' := (· < B)) (up hW lbw) (fun _ h => h))
 have HVA := hide hva
 have HRR := hide hr
 have HKQ2 := hide (fun (k1 : Nat) (hk1 : k1 < xl.length) => (show ∃ (v : Nat) (y : Int), xl[k1]? = some (v : Int) /\ v < lk /\ f.kinds[v]? = some y from by
  have hv := hva (xl[k1]'hk1) (List.getElem_mem hk1)
  obtain ⟨v, y, h1, h2, h3⟩ := HKQ.out _ hv
  exact ⟨v, y, by rw [List.getElem?_eq_getElem hk1, h1], h2, h3⟩))
 have HGQ := hide (fun (k1 : Nat) (hk1 : k1 < lx) => (show ∃ z, g.kinds[k1]? = some z from ⟨_, List.getElem?_eq_getElem (by omega)⟩))
 have HST := hide (fun (k1 v : Nat) (y z : Int) (h1 : xl[k1]? = some (v : Int)) (h2 : f.kinds[v]? = some y) (h3 : g.kinds[k1]? = some z) => jmu h1 h2 h3)
 have HLE := hide (fun (k1 : Nat) (hk : k1 <= xl.length) (h : je3 f g xl k1 = false) => (show je3 f g xl xl.length = false from jsu hk h))
 have HA0 := hide (show je3 f g xl 0 = true from rfl)
 have lbq : bg < w3.heap.size := by omega
 have p0 := HPC.out w3 HC3.out
 have lp5 : h5 < w3.heap.size := by omega
 have rm0 : (0 : Int) <= (m : Int) := by omega
 have rm1 : (m : Int) < (np : Int) := by omega
 have HGL := hide hgl
 generalize g.kinds.length = lgk, g.base.length = lgb, g.params = gp, g.result = gr, g.blocks.length = lgs at *
 have HKD := hide hkd
 clear HO2 HO15 HO16 HO23 HOE HO19 hkd hg hva hr hig hgl
 go_upto_region 18 with (fail)
 obtain ⟨w4, hw4⟩ := zr (w3.alloc (.cells #[.slice Agk lgk cgk, .slice Agb lgb cgb, .int .i64 gp, .int .i64 gr, .slice Ags lgs cgs] 52))
 obtain ⟨h7, hh7⟩ := zl w3.heap.size
 have HGX0 := zx1 hw4 hh7
 have HB4 := zb1 hw4
 have w4s := HB4.out.size
 have w4z := zs1 hw4 hh7
 have HGC0 := zk5 HGX0
 have lHGX0 := HGX0.out.lt
 have h7g : w3.heap.size <= h7 := by omega
 rw [<- hw4, hh7]
 clear hw4 hh7
 clear y0 y1 y2 y3 y4 c0 c1 c2 c3 c4 x0 x1 x2 x3 x4 x5 x6 lf6 lx5 ekd lbq p0 lp5
 have HC4 := hide (HC3.out.trans (HB4.out.mono HC3.out.size))
 have hlgk : lx <= lgk := HGL.out
 go_wp2
 go_loopw [10] (fun i wr => ∃ k1 : Nat, k1 <= lx /\ i = .int .i64 k1 /\ Hid (je3 f g xl k1 = true) /\ Below w4.heap.size w4 wr) (fun i _ => lx - (intOf i).toNat)
 case atStart => exact ⟨0, Nat.zero_le _, rfl, HA0, Below.refl _ _⟩
 case round =>
  obtain ⟨k1, hk1, rfl, HAT, hb⟩ := hrel
  obtain ⟨wo, rfl⟩ := zr wr
  have HC5 := hide hb
  have HC6 := hide (HC4.out.trans (hb.mono HC4.out.size))
  have HC7 := hide (HB4.out.trans (hb.mono HB4.out.size))
  obtain ⟨c0, c1, c2, c3, c4⟩ := HFK0.out wo HC6.out
  obtain ⟨x0, x1, x2, x3, x4, x5, x6⟩ := HXC.out wo HC6.out
  obtain ⟨y0, y1, y2, y3, y4⟩ := HGC0.out wo hb
  have lwo := hb.size
  have l1 : h6 < wo.heap.size := by omega
  have l2 : h5 + 1 < wo.heap.size := by omega
  have l3' : h7 < wo.heap.size := by omega
  have lbk : bk < wo.heap.size := by omega
  clear hb
  by_cases hlt : k1 < lx
  case neg =>
   obtain rfl : lx = k1 := by omega
   have hnl : ¬ ((lx : Int) < (lx : Int)) := by omega
   obtain ⟨b', o', h1', -, ekd⟩ := HKN.out d k HKD.out wo HC7.out
   cases h1'
   have hR : R = (k == gr) := by rw [HRR.out, HAT.out]; rfl
   subst hR
   go_wp2_with fail
   go_quiet (fail)
   go_wp2
   go_ret
   exact ⟨rfl, ja0 (HUP.out wo HC6.out) _⟩
  obtain ⟨v, y, hxv, hvl, hvy⟩ := HKQ2.out k1 (by rw [HLX.out]; exact hlt)
  obtain ⟨z, hgz⟩ := HGQ.out k1 hlt
  have hst := hide (HST.out k1 v y z hxv hvy hgz)
  obtain ⟨bx, ox, hAx, hbx, ex, -⟩ := (HXK.out wo (HUP.out wo HC6.out)).get hxv
  subst hAx
  obtain ⟨b', o', h1', -, ek⟩ := HKN.out v y hvy wo HC7.out
  cases h1'
  obtain ⟨bz, oz, hAz, hbz, ez, -⟩ := (HGK.out wo HC7.out).get hgz
  subst hAz
  have lbx : bx < wo.heap.size := by omega
  have lbz : bz < wo.heap.size := by omega
  have rk0 : (0 : Int) <= (k1 : Int) := by omega
  have rk1 : (k1 : Int) < (lx : Int) := by omega
  have rk2 : (k1 : Int) < (lgk : Int) := by omega
  have rv0 : (0 : Int) <= (v : Int) := by omega
  have rv1 : (v : Int) < (lk : Int) := by omega
  clear hxv hvy hgz
  by_cases hyz : y = z
  case pos =>
   subst hyz
   go_wp2_with fail
   go_quiet (fail)
   go_wp2
   go_roundw
   case rel => exact ⟨k1 + 1, by omega, by go_num, hide (by rw [hst.out, HAT.out]; simp), ja0 HC5.out _⟩
   case measure => simp [intOf]; omega
  have hyb : (y == z) = false := by simp [hyz]
  have hyb2 : (y != z) = true := by simp [hyz]
  obtain rfl : R = false := by
   rw [HRR.out]
   have t := HLE.out (k1 + 1) (by rw [HLX.out]; omega) (by rw [hst.out, hyb, Bool.and_false])
   rw [HLX.out] at t
   rw [t]
   rfl
  go_wp2_with fail
  go_quiet (fail)
  go_wp2
  go_ret
  exact ⟨rfl, ja0 (HUP.out wo HC6.out) _⟩
end Go.Proofs.YthbnbaikdcfbmaaGreatDoor
