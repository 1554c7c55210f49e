/- Layer 8, the reference: signs, map3, is, Fits. Condition: the program, and the instruction, are of a form that may be. -/
import Derived.Test.YtajndgoichlnmaaGreatDoorKR
import Derived.Test.YtajndgoichlnmaaGreatDoorSIns
import Derived.Deep.RegionHeld3
set_option linter.unusedSimpArgs false
set_option linter.unusedVariables false
namespace Go.Proofs.YtajndgoichlnmaaGreatDoor
open Go.RowKit

/-- The reference's letters of an operation's kinds. -/
def sgN (op : Int) (i : Nat) : Nat := if rowN op i = 0 then 45 else rowN op i
theorem sg_let (f : FunV) (op : Int) (i : Nat) (v : Int) : letB f (sgN op i) v = letB f (rowN op i) v := by
  unfold sgN
  split
  · rename_i h
    rw [h]
    rfl
  · rfl
theorem sg_one : ∀ j : Nat, j < 24 → 1 ≤ j → ∀ i : Nat, i < 3 → (sgN (j : Int) i = 45 ∨ sgN (j : Int) i = 105 ∨ sgN (j : Int) i = 114 ∨ sgN (j : Int) i = 100) := by decide
set_option maxHeartbeats 4000000 in
set_option maxRecDepth 100000 in
theorem rsigns_any (op : Int) (h : 1 ≤ op ∧ op ≤ 23) (w : World) :
    Calls Tryz.prog 46 #[.int .i64 op] w fun e w' => ∃ q0 q1 q2 : UInt8, e = .returned (.string ⟨#[q0, q1, q2]⟩) ∧ (q0.toNat = sgN op 0 ∧ q1.toNat = sgN op 1 ∧ q2.toNat = sgN op 2) ∧ w = w' := by
  have hc : op = 1 ∨ op = 2 ∨ op = 3 ∨ op = 4 ∨ op = 5 ∨ op = 6 ∨ op = 7 ∨ op = 8 ∨ op = 9 ∨ op = 10 ∨ op = 11 ∨ op = 12 ∨ op = 13 ∨ op = 14 ∨ op = 15 ∨ op = 16 ∨ op = 17 ∨ op = 18 ∨ op = 19 ∨ op = 20 ∨ op = 21 ∨ op = 22 ∨ op = 23 := by omega
  rcases hc with rfl | rfl | rfl | rfl | rfl | rfl | rfl | rfl | rfl | rfl | rfl | rfl | rfl | rfl | rfl | rfl | rfl | rfl | rfl | rfl | rfl | rfl | rfl
  all_goals
    clear h
    go_enter Tryz.func46, Tryz.ntmps46
    go_wp2
    go_ret
    exact ⟨_, _, _, rfl, ⟨by decide, by decide, by decide⟩, rfl⟩
set_option maxHeartbeats 1000000 in
set_option maxRecDepth 100000 in
theorem rmap3_any (c : Nat) (k : Int) (h : kLet c = some k) (hc : c = 105 ∨ c = 114 ∨ c = 100) (w : World) :
    Calls Tryz.prog 73 #[.int .u8 (c : Int)] w fun e w' => e = .returned (.int .i64 k) ∧ w = w' := by
  rcases hc with rfl | rfl | rfl
  all_goals
    have hk := h
    unfold kLet at hk
    simp at hk
    subst hk
    clear h
    go_enter Tryz.func73, Tryz.ntmps73
    go_wp2
    go_ret
    exact ⟨rfl, rfl⟩
set_option maxHeartbeats 2000000 in
set_option maxRecDepth 100000 in
theorem ris_any (vk vb vs : Value) (f : FunV) (v : Int) (c : Nat) (hc : c = 45 ∨ c = 105 ∨ c = 114 ∨ c = 100) (w : World) (B : Nat) (hB : B ≤ w.heap.size) (hi : FunI w (· < B) vk vb vs f) :
    Calls Tryz.prog 47 #[.agg #[vk, vb, .int .i64 f.params, .int .i64 f.result, vs], .int .i64 v, .int .u8 (c : Int)] w fun e w' => e = .returned (.bool (letB f c v)) ∧ Below w.heap.size w w' := by
  by_cases h45 : c = 45
  · subst h45
    have hl : letB f 45 v = true := rfl
    rw [hl]
    obtain ⟨Ak, ck, rfl, hck, hmk⟩ := hi.1.open'
    obtain ⟨Ab, cb, rfl, hcb, hmb⟩ := hi.2.1.open'
    obtain ⟨As, cs, rfl, hcs, hms⟩ := hi.2.2.1.open'
    generalize f.kinds.length = lk, f.base.length = lb, f.blocks.length = ls, f.params = fp, f.result = fr at *
    clear hl hi
    go_enter Tryz.func47, Tryz.ntmps47
    go_upto_region 1 with (fail)
    obtain ⟨w1, hw1⟩ : ∃ w1, w1 = w.alloc (.cells #[.slice Ak lk ck, .slice Ab lb cb, .int .i64 fp, .int .i64 fr, .slice As ls cs] 35) := ⟨_, rfl⟩
    obtain ⟨h5, hh5⟩ : ∃ h5, w.heap.size = h5 := ⟨_, rfl⟩
    have HX1 := hide (show Box w1 h5 #[.slice Ak lk ck, .slice Ab lb cb, .int .i64 fp, .int .i64 fr, .slice As ls cs] 35 by rw [hw1, ← hh5]; exact Box.new w _ _)
    have HB1 := hide (show Below w.heap.size w w1 by rw [hw1]; exact alloc1 w _)
    have HK1 := hide (fun (W : World) (hW : Below w1.heap.size w1 W) => And.intro ((HX1.out.below hW).cell 0 (v := .slice Ak lk ck) rfl).1 (And.intro ((HX1.out.below hW).cell 1 (v := .slice Ab lb cb) rfl).1 (And.intro ((HX1.out.below hW).cell 2 (v := .int .i64 fp) rfl).1 (And.intro ((HX1.out.below hW).cell 3 (v := .int .i64 fr) rfl).1 ((HX1.out.below hW).cell 4 (v := .slice As ls cs) rfl).1))))
    have HUP := hide (fun (W : World) (hW : Below w1.heap.size w1 W) => HB1.out.trans (hW.mono HB1.out.size))
    have l1 := HX1.out.lt
    have hw1s := HB1.out.size
    rw [← hw1, hh5]
    clear hw1 hh5
    obtain ⟨c0, c1, c2, c3, c4⟩ := HK1.out w1 (Below.refl _ _)
    go_wp2
    go_ret
    exact ⟨rfl, HB1.out⟩
  have hc3 : c = 105 ∨ c = 114 ∨ c = 100 := by omega
  obtain ⟨k, hk⟩ : ∃ k, kLet c = some k := by rcases hc3 with rfl | rfl | rfl <;> exact ⟨_, rfl⟩
  have hl : letB f c v = isK f v k := by unfold letB; rw [hk]
  rw [hl]
  have HM := hide (fun (W : World) => (show Calls Tryz.prog 73 #[.int .u8 (c : Int)] W fun e w' => e = .returned (.int .i64 k) ∧ w' = W from (rmap3_any c k hk hc3 W).mono fun e w' h => ⟨h.1, h.2.symm⟩))
  have h45b : (((c : Nat) : Int) == 45) = false := by simp; omega
  have HKK := hide (fun (W : World) (hW : Below w.heap.size w W) => (hi.keep (w := w) (S := (· < B)) (up hW hB) (fun _ h => h)).1)
  have hcu : (c : Int) ≤ 255 := by omega
  clear hl hk h45 hc hc3
  by_cases hv : inVar f v = true
  case neg =>
    have hr : isK f v k = false := by unfold isK; rw [Bool.eq_false_iff.2 hv]; rfl
    rw [hr]
    have hv2 : ¬ (0 ≤ v ∧ v < f.kinds.length) := fun h => hv (by unfold inVar; rw [inB_iff]; omega)
    obtain ⟨Ak, ck, rfl, hck, hmk⟩ := hi.1.open'
    obtain ⟨Ab, cb, rfl, hcb, hmb⟩ := hi.2.1.open'
    obtain ⟨As, cs, rfl, hcs, hms⟩ := hi.2.2.1.open'
    generalize f.kinds.length = lk, f.base.length = lb, f.blocks.length = ls, f.params = fp, f.result = fr at *
    clear hr hv hi HKK
    by_cases h0 : v < 0
    · have d0 : decide (v ≥ 0) = false := by simp; omega
      go_enter Tryz.func47, Tryz.ntmps47
      go_upto_region 1 with (fail)
      obtain ⟨w1, hw1⟩ : ∃ w1, w1 = w.alloc (.cells #[.slice Ak lk ck, .slice Ab lb cb, .int .i64 fp, .int .i64 fr, .slice As ls cs] 35) := ⟨_, rfl⟩
      obtain ⟨h5, hh5⟩ : ∃ h5, w.heap.size = h5 := ⟨_, rfl⟩
      have HX1 := hide (show Box w1 h5 #[.slice Ak lk ck, .slice Ab lb cb, .int .i64 fp, .int .i64 fr, .slice As ls cs] 35 by rw [hw1, ← hh5]; exact Box.new w _ _)
      have HB1 := hide (show Below w.heap.size w w1 by rw [hw1]; exact alloc1 w _)
      have HK1 := hide (fun (W : World) (hW : Below w1.heap.size w1 W) => And.intro ((HX1.out.below hW).cell 0 (v := .slice Ak lk ck) rfl).1 (And.intro ((HX1.out.below hW).cell 1 (v := .slice Ab lb cb) rfl).1 (And.intro ((HX1.out.below hW).cell 2 (v := .int .i64 fp) rfl).1 (And.intro ((HX1.out.below hW).cell 3 (v := .int .i64 fr) rfl).1 ((HX1.out.below hW).cell 4 (v := .slice As ls cs) rfl).1))))
      have HUP := hide (fun (W : World) (hW : Below w1.heap.size w1 W) => HB1.out.trans (hW.mono HB1.out.size))
      have l1 := HX1.out.lt
      have hw1s := HB1.out.size
      rw [← hw1, hh5]
      clear hw1 hh5
      obtain ⟨c0, c1, c2, c3, c4⟩ := HK1.out w1 (Below.refl _ _)
      go_wp2_with fail
      go_quiet (fail)
      go_wp2
      go_ret
      exact ⟨rfl, below_drewN HB1.out _⟩
    have d0 : decide (v ≥ 0) = true := by simp; omega
    have d1 : decide (v < (lk : Int)) = false := by simp; omega
    go_enter Tryz.func47, Tryz.ntmps47
    go_upto_region 1 with (fail)
    obtain ⟨w1, hw1⟩ : ∃ w1, w1 = w.alloc (.cells #[.slice Ak lk ck, .slice Ab lb cb, .int .i64 fp, .int .i64 fr, .slice As ls cs] 35) := ⟨_, rfl⟩
    obtain ⟨h5, hh5⟩ : ∃ h5, w.heap.size = h5 := ⟨_, rfl⟩
    have HX1 := hide (show Box w1 h5 #[.slice Ak lk ck, .slice Ab lb cb, .int .i64 fp, .int .i64 fr, .slice As ls cs] 35 by rw [hw1, ← hh5]; exact Box.new w _ _)
    have HB1 := hide (show Below w.heap.size w w1 by rw [hw1]; exact alloc1 w _)
    have HK1 := hide (fun (W : World) (hW : Below w1.heap.size w1 W) => And.intro ((HX1.out.below hW).cell 0 (v := .slice Ak lk ck) rfl).1 (And.intro ((HX1.out.below hW).cell 1 (v := .slice Ab lb cb) rfl).1 (And.intro ((HX1.out.below hW).cell 2 (v := .int .i64 fp) rfl).1 (And.intro ((HX1.out.below hW).cell 3 (v := .int .i64 fr) rfl).1 ((HX1.out.below hW).cell 4 (v := .slice As ls cs) rfl).1))))
    have HUP := hide (fun (W : World) (hW : Below w1.heap.size w1 W) => HB1.out.trans (hW.mono HB1.out.size))
    have l1 := HX1.out.lt
    have hw1s := HB1.out.size
    rw [← hw1, hh5]
    clear hw1 hh5
    obtain ⟨c0, c1, c2, c3, c4⟩ := HK1.out w1 (Below.refl _ _)
    go_wp2_with fail
    go_quiet (fail)
    go_wp2
    go_ret
    exact ⟨rfl, below_drewN HB1.out _⟩
  have hv2 := inVar_nn hv
  obtain ⟨m, rfl⟩ : ∃ m : Nat, v = (m : Int) := ⟨v.toNat, by omega⟩
  obtain ⟨y, hy⟩ : ∃ y, f.kinds[m]? = some y := ⟨_, List.getElem?_eq_getElem (by omega)⟩
  have hr : isK f (m : Int) k = (y == k) := isK_nat hy
  rw [hr]
  have HY := hide hy
  obtain ⟨Ak, ck, rfl, hck, hmk⟩ := hi.1.open'
  obtain ⟨Ab, cb, rfl, hcb, hmb⟩ := hi.2.1.open'
  obtain ⟨As, cs, rfl, hcs, hms⟩ := hi.2.2.1.open'
  generalize f.kinds.length = lk, f.base.length = lb, f.blocks.length = ls, f.params = fp, f.result = fr at *
  have d0 : decide ((m : Int) ≥ 0) = true := by simp
  have d1 : decide ((m : Int) < (lk : Int)) = true := by simp; omega
  have d2 : (0 : Int) ≤ (m : Int) := by omega
  have d3 : (m : Int) < (lk : Int) := by omega
  clear hr hv hv2 hi hy
  go_enter Tryz.func47, Tryz.ntmps47
  go_upto_region 1 with (fail)
  obtain ⟨w1, hw1⟩ : ∃ w1, w1 = w.alloc (.cells #[.slice Ak lk ck, .slice Ab lb cb, .int .i64 fp, .int .i64 fr, .slice As ls cs] 35) := ⟨_, rfl⟩
  obtain ⟨h5, hh5⟩ : ∃ h5, w.heap.size = h5 := ⟨_, rfl⟩
  have HX1 := hide (show Box w1 h5 #[.slice Ak lk ck, .slice Ab lb cb, .int .i64 fp, .int .i64 fr, .slice As ls cs] 35 by rw [hw1, ← hh5]; exact Box.new w _ _)
  have HB1 := hide (show Below w.heap.size w w1 by rw [hw1]; exact alloc1 w _)
  have HK1 := hide (fun (W : World) (hW : Below w1.heap.size w1 W) => And.intro ((HX1.out.below hW).cell 0 (v := .slice Ak lk ck) rfl).1 (And.intro ((HX1.out.below hW).cell 1 (v := .slice Ab lb cb) rfl).1 (And.intro ((HX1.out.below hW).cell 2 (v := .int .i64 fp) rfl).1 (And.intro ((HX1.out.below hW).cell 3 (v := .int .i64 fr) rfl).1 ((HX1.out.below hW).cell 4 (v := .slice As ls cs) rfl).1))))
  have HUP := hide (fun (W : World) (hW : Below w1.heap.size w1 W) => HB1.out.trans (hW.mono HB1.out.size))
  have l1 := HX1.out.lt
  have hw1s := HB1.out.size
  rw [← hw1, hh5]
  clear hw1 hh5
  obtain ⟨c0, c1, c2, c3, c4⟩ := HK1.out w1 (Below.refl _ _)
  obtain ⟨bk, ok, hAk, hbk, hck2, -⟩ := (HKK.out w1 HB1.out).get HY.out
  subst hAk
  have lbk : bk < w1.heap.size := by omega
  go_wp2_with fail
  go_quiet ((go_at_call 73; exact Calls.quiet_of_same (HM.out _)))
  go_wp2
  go_ret
  exact ⟨rfl, below_drewN HB1.out _⟩
/-- What is asked of the instruction's function, and of what it names. -/
structure FitF (p : List FunV) (f : FunV) (x : InsV) : Prop where
  bl : f.base.length = f.kinds.length
  k3 : ∀ (m : Nat) (y : Int), f.kinds[m]? = some y → y = 0 ∨ y = 1 ∨ y = 2
  op : 1 ≤ x.op ∧ x.op ≤ 23
  dv : x.op = 2 ∨ x.op = 15 ∨ x.op = 16 ∨ x.op = 19 → 0 ≤ x.d ∧ x.d < f.kinds.length
  av : x.op = 2 ∨ x.op = 15 ∨ x.op = 16 ∨ x.op = 23 → 0 ≤ x.a ∧ x.a < f.kinds.length
  call : x.op = 19 → (∃ (n : Nat) (g : FunV), x.n = (n : Int) ∧ p[n]? = some g ∧ x.args.length ≤ g.kinds.length) ∧ ∀ v ∈ x.args, 0 ≤ v ∧ v < f.kinds.length
theorem fitF_of {p : List FunV} {f : FunV} {x : InsV} (h : progB4 p = true) (hf : f ∈ p) (hm : mayB4 p f x = true) : FitF p f x := by
  obtain ⟨-, -, -, hall⟩ := prog_parts h
  obtain ⟨⟨h1, -, h3⟩, -, -, -, -⟩ := fun_parts (hall f hf)
  obtain ⟨m1, -, m3, m4, m5⟩ := may_parts hm
  refine ⟨h1, fun m y hy => ?_, op_range m1, fun ho => ?_, fun ho => ?_, fun ho => ⟨?_, fun v hv => ?_⟩⟩
  · have hlt := (List.getElem?_eq_some_iff.1 hy).1
    obtain ⟨b, hb⟩ : ∃ b, f.base[m]? = some b := ⟨_, List.getElem?_eq_getElem (by omega)⟩
    have h4 := h3 (y, b) (List.mem_iff_getElem?.2 ⟨m, by rw [List.getElem?_zip_eq_some]; exact ⟨hy, hb⟩⟩)
    unfold baseB4 at h4
    by_cases h2 : y = 2
    · exact .inr (.inr h2)
    · rw [if_neg h2] at h4
      simp only [Bool.and_eq_true] at h4
      have h5 := h4.1
      unfold valB at h5
      simp at h5
      omega
  · refine inVar_nn (m3 ?_)
    rcases ho with ho | ho | ho | ho <;> rw [ho] <;> decide
  · refine inVar_nn (m4 x.a ?_)
    unfold usesL
    rcases ho with ho | ho | ho | ho <;> rw [ho, if_pos (by decide)] <;> simp
  · unfold numsB at m5
    rw [if_neg (by omega), if_neg (by omega), if_neg (by omega), if_neg (by omega), if_pos ho] at m5
    unfold calleeB at m5
    simp only [Bool.and_eq_true, inB_iff, decide_eq_true_eq] at m5
    obtain ⟨⟨h6, h7⟩, h8⟩ := m5
    cases hg : p[x.n.toNat]? with
    | none => rw [hg] at h8; cases h8
    | some g =>
      rw [hg] at h8
      simp at h8
      have := (fun_parts (hall g (List.mem_of_getElem? hg))).2.1
      exact ⟨x.n.toNat, g, by omega, hg, by omega⟩
  · refine inVar_nn (m4 v ?_)
    unfold usesL
    rw [ho, if_pos (show hasB4 19 76 = true by decide)]
    simp [hv]
theorem fit_row {p : List FunV} {f : FunV} {x : InsV} {b0 b1 b2 : Bool} (h0 : letB f (sgN x.op 0) x.d = b0) (h1 : letB f (sgN x.op 1) x.a = b1) (h2 : letB f (sgN x.op 2) x.b = b2) : fitB p f x = (b0 && (b1 && b2) && restB p f x) := by
  unfold fitB rowB
  rw [← sg_let f x.op 0, ← sg_let f x.op 1, ← sg_let f x.op 2, h0, h1, h2]
theorem fit_move {p : List FunV} {f : FunV} {x : InsV} {d a : Nat} {kd ka : Int} (ho : x.op = 2) (hd : x.d = (d : Int)) (ha : x.a = (a : Int)) (hkd : f.kinds[d]? = some kd) (hka : f.kinds[a]? = some ka)
    (k3 : ∀ (m : Nat) (y : Int), f.kinds[m]? = some y → y = 0 ∨ y = 1 ∨ y = 2) : restB p f x = (kd == ka && kd != 2) := by
  unfold restB
  rw [if_pos ho, hd, ha, isK_nat hkd, isK_nat hka, isK_nat hkd, isK_nat hka]
  rcases k3 d kd hkd with rfl | rfl | rfl <;> rcases k3 a ka hka with rfl | rfl | rfl <;> rfl
theorem baseN_nat {f : FunV} {d : Nat} {b : Int} (h : f.base[d]? = some b) : baseN f (d : Int) = b := by
  have hd := (List.getElem?_eq_some_iff.1 h).1
  unfold baseN
  rw [if_pos (by rw [inB_iff]; omega), Int.toNat_natCast, List.getD_eq_getElem?_getD, h]
  rfl
theorem fit_derive {p : List FunV} {f : FunV} {x : InsV} {d : Nat} {b : Int} (ho : x.op = 15) (hd : x.d = (d : Int)) (hb : f.base[d]? = some b) : restB p f x = (b == x.a) := by
  unfold restB
  rw [if_neg (by omega), if_pos ho, hd, baseN_nat hb]
theorem fit_shift {p : List FunV} {f : FunV} {x : InsV} {d a : Nat} {b c : Int} (ho : x.op = 16) (hd : x.d = (d : Int)) (ha : x.a = (a : Int)) (hb : f.base[d]? = some b) (hc : f.base[a]? = some c) : restB p f x = (b == c) := by
  unfold restB
  rw [if_neg (by omega), if_neg (by omega), if_pos ho, hd, ha, baseN_nat hb, baseN_nat hc]
theorem fit_ret {p : List FunV} {f : FunV} {x : InsV} {a : Nat} {k : Int} (ho : x.op = 23) (ha : x.a = (a : Int)) (hk : f.kinds[a]? = some k) : restB p f x = (k == f.result) := by
  unfold restB
  rw [if_neg (by omega), if_neg (by omega), if_neg (by omega), if_neg (by omega), if_pos ho, ha, isK_nat hk]
theorem fit_else {p : List FunV} {f : FunV} {x : InsV} (h1 : x.op ≠ 2) (h2 : x.op ≠ 15) (h3 : x.op ≠ 16) (h4 : x.op ≠ 19) (h5 : x.op ≠ 23) : restB p f x = true := by
  unfold restB
  rw [if_neg h1, if_neg h2, if_neg h3, if_neg h4, if_neg h5]
/-- The first k arguments fit. -/
def argsTo (f g : FunV) (l : List Int) (k : Nat) : Bool := (List.range k).all (fun i => decide ((i : Int) < g.kinds.length) && isK f (l.getD i 0) (g.kinds.getD i 0))
theorem argsTo_step {f g : FunV} {l : List Int} {k v : Nat} {y z : Int} (hv : l[k]? = some (v : Int)) (hy : f.kinds[v]? = some y) (hz : g.kinds[k]? = some z) : argsTo f g l (k + 1) = (argsTo f g l k && (y == z)) := by
  have hk := (List.getElem?_eq_some_iff.1 hz).1
  unfold argsTo
  rw [List.range_succ, List.all_append]
  simp only [List.all_cons, List.all_nil, Bool.and_true]
  rw [List.getD_eq_getElem?_getD, hv, List.getD_eq_getElem?_getD, hz, Option.getD_some, Option.getD_some, isK_nat hy, decide_eq_true (by omega), Bool.true_and]
theorem argsTo_le {f g : FunV} {l : List Int} {k : Nat} (hk : k ≤ l.length) (h : argsTo f g l k = false) : argsB f g l = false := by
  unfold argsTo at h
  unfold argsB
  rw [Bool.eq_false_iff] at h ⊢
  intro h2
  apply h
  rw [List.all_eq_true] at h2 ⊢
  exact fun i hi => h2 i (List.mem_range.2 (by have := List.mem_range.1 hi; omega))
theorem fit_call {p : List FunV} {f g : FunV} {x : InsV} {d n : Nat} {k : Int} (ho : x.op = 19) (hn : x.n = (n : Int)) (hg : p[n]? = some g) (hd : x.d = (d : Int)) (hk : f.kinds[d]? = some k) : restB p f x = (argsTo f g x.args x.args.length && (k == g.result)) := by
  unfold restB
  rw [if_neg (by omega), if_neg (by omega), if_neg (by omega), if_pos ho]
  unfold callB
  rw [if_neg (by omega), hn, Int.toNat_natCast, hg, hd]
  show (argsB f g x.args && isK f (d : Int) g.result) = _
  rw [isK_nat hk]
  rfl
end Go.Proofs.YtajndgoichlnmaaGreatDoor
