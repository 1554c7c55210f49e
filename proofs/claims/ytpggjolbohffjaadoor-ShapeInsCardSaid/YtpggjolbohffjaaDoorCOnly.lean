/- The contracts of the reader's only and count. Condition: the table of parts reads as listed (isOp). -/
import Derived.Test.YtpggjolbohffjaaDoorCRead
set_option linter.unusedSimpArgs false
set_option linter.unusedVariables false
namespace Go.Proofs.YtpggjolbohffjaaDoor
open Go.RowKit

theorem RS.fail {w : World} {g B E : Nat} {s : St} (h : RS w g B s) : ReadTo w g B (s.1, E) (w.setCell ⟨g, 1, none⟩ (.int .i64 (E : Int))) := by
  obtain ⟨A, c, l0, l1, l2, l3, l4, hb, hs, hc, hm, hL, hby, hB⟩ := h
  have hbel : Below g w (w.setCell ⟨g, 1, none⟩ (.int .i64 (E : Int))) := (Below.refl _ _).setCell (p := ⟨g, 1, none⟩) (Nat.le_refl _) _
  refine ⟨⟨A, c, l0, l1, l2, l3, l4, ?_, hs.below (hbel.mono hB), hc, hm, hL.keep (Same'.of_below (hbel.mono hB)) (fun _ h => h), hby, hB⟩, (Read.refl _ _).set (Or.inr rfl)⟩
  have := hb.set 1 (.int .i64 (E : Int))
  simpa using this
/-- What is seen of the reader. -/
theorem RS.see {w : World} {g B : Nat} {s : St} (h : RS w g B s) : w.cell? ⟨g, 1, none⟩ = some (.int .i64 (s.2 : Int)) ∧ w.frozen? ⟨g, 1, none⟩ = false := by
  obtain ⟨A, c, l0, l1, l2, l3, l4, hb, -⟩ := h
  exact hb.cell 1 rfl
theorem ReadTo.trans {w w1 w2 : World} {g B : Nat} {s t : St} (h : ReadTo w g B s w1) (h2 : ReadTo w1 g B t w2) : ReadTo w g B t w2 := ⟨h2.rs, h.read.trans h2.read⟩
theorem ReadTo.mid {w w1 w2 : World} {g B : Nat} {s t : St} (h : ReadTo w g B s w1) (h2 : RS w1 g B s → ReadTo w1 g B t w2) : ReadTo w g B t w2 := h.trans (h2 h.rs)

set_option maxRecDepth 100000 in
theorem onlyKind_any (g B er : Nat) (ei : Int) (hei : ei = (er : Int)) (s : St) (w : World) (h : RS w g B s) :
    Calls Tryd.prog 79 #[.pointer (some ⟨g, 0, none⟩), .func (.func 74) #[] #[], .int .i64 ei] w fun e w' => e = .returned (.int .i64 (onlyT kindB er s).1) ∧ ReadTo w g B (onlyT kindB er s).2 w' := by
  subst hei
  have H := hide (number_any' g B s w h)
  have hby := h.byt
  have hR := numT_R hby
  have hst := fun w1 (h1 : ReadTo w g B (numT s).2 w1) => h1.rs.fail (E := er)
  by_cases hE : (numT s).2.2 = 0
  · by_cases hm : kindB (numT s).1 = true
    · have hv := hide (show onlyT kindB er s = numT s by unfold onlyT; rw [if_pos hE, if_pos hm])
      rw [hv.out]
      generalize numT s = r at *
      obtain ⟨r1, r2, r3⟩ := r
      simp only at *
      subst hE
      have HM := hide hm
      clear hv hm hby h
      go_enter Tryd.func79, Tryd.ntmps79
      go_wp2_with (first
        | (go_at_call 81; refine H.out.mono ?_; rintro e w1 ⟨rfl, hr⟩; obtain ⟨s1, z1⟩ := hr.rs.see; have hlt := hr.rs.lt.2; have HRR := hide hr; clear hr)
        | (go_at_call 74; refine (isKind_any r1 _).mono ?_; rw [HM.out]; rintro e w' ⟨rfl, rfl⟩))
      go_ret
      exact ⟨rfl, HRR.out⟩
    · have hmf := Bool.eq_false_iff.2 hm
      have hv := hide (show onlyT kindB er s = (0, ((numT s).2.1, er)) by unfold onlyT; rw [if_pos hE, if_neg hm])
      rw [hv.out]
      generalize numT s = r at *
      obtain ⟨r1, r2, r3⟩ := r
      simp only at *
      subst hE
      have HM := hide hmf
      have HST := hide hst
      clear hv hm hmf hby h hst
      go_enter Tryd.func79, Tryd.ntmps79
      go_wp2_with (first
        | (go_at_call 81; refine H.out.mono ?_; rintro e w1 ⟨rfl, hr⟩; obtain ⟨s1, z1⟩ := hr.rs.see; have hlt := hr.rs.lt.2; have HRR := hide hr; clear hr)
        | (go_at_call 74; refine (isKind_any r1 _).mono ?_; rw [HM.out]; rintro e w' ⟨rfl, rfl⟩))
      go_ret
      exact ⟨rfl, HRR.out.trans (HST.out _ HRR.out)⟩
  · have hv := hide (show onlyT kindB er s = (0, (numT s).2) by unfold onlyT; rw [if_neg hE])
    rw [hv.out]
    generalize numT s = r at *
    obtain ⟨r1, r2, r3⟩ := r
    simp only at *
    have hEb : ((r3 : Int) != 0) = true := by simp; omega
    clear hv hby h hst hE
    go_enter Tryd.func79, Tryd.ntmps79
    go_wp2_with (go_at_call 81; refine H.out.mono ?_; rintro e w1 ⟨rfl, hr⟩; obtain ⟨s1, z1⟩ := hr.rs.see; have hlt := hr.rs.lt.2; have HRR := hide hr; clear hr)
    go_ret
    exact ⟨rfl, HRR.out⟩

theorem isOp_any (op : Int) (w : World) (hT : TabP w) (hop : i64R op) :
    Calls Tryd.prog 91 #[.int .i64 op] w fun e w' => e = .returned (.bool (isOpB op)) ∧ w = w' := by
  by_cases h : partsN op = []
  · have : isOpB op = false := by unfold isOpB; rw [h]; rfl
    rw [this]; exact isOp_no op w hT hop h
  · have : isOpB op = true := by unfold isOpB; cases hh : partsN op with | nil => exact absurd hh h | cons a b => rfl
    rw [this]; exact isOp_yes op w hT hop h

set_option maxRecDepth 100000 in
theorem onlyOp_any (g B er : Nat) (ei : Int) (hei : ei = (er : Int)) (s : St) (w : World) (h : RS w g B s) (hT : TabP w) (hB0 : 0 < g) :
    Calls Tryd.prog 79 #[.pointer (some ⟨g, 0, none⟩), .func (.func 91) #[] #[], .int .i64 ei] w fun e w' => e = .returned (.int .i64 (onlyT isOpB er s).1) ∧ ReadTo w g B (onlyT isOpB er s).2 w' := by
  subst hei
  have H := hide (number_any' g B s w h)
  have hby := h.byt
  have hgw := Nat.le_of_lt h.lt.2
  have hR := numT_R hby
  have hst := fun w1 (h1 : ReadTo w g B (numT s).2 w1) => h1.rs.fail (E := er)
  by_cases hE : (numT s).2.2 = 0
  · by_cases hm : isOpB (numT s).1 = true
    · have hv := hide (show onlyT isOpB er s = numT s by unfold onlyT; rw [if_pos hE, if_pos hm])
      rw [hv.out]
      generalize numT s = r at *
      obtain ⟨r1, r2, r3⟩ := r
      simp only at *
      subst hE
      have HM := hide hm
      clear hv hm hby h
      go_enter Tryd.func79, Tryd.ntmps79
      go_wp2_with (first
        | (go_at_call 81; refine H.out.mono ?_; rintro e w1 ⟨rfl, hr⟩; obtain ⟨s1, z1⟩ := hr.rs.see; have hlt := hr.rs.lt.2; have HRR := hide hr; clear hr)
        | (go_at_call 91; refine (isOp_any r1 _ (hT.below (HRR.out.read.below hgw) hB0) ⟨by omega, by omega⟩).mono ?_; rw [HM.out]; rintro e w' ⟨rfl, rfl⟩))
      go_ret
      exact ⟨rfl, HRR.out⟩
    · have hmf := Bool.eq_false_iff.2 hm
      have hv := hide (show onlyT isOpB er s = (0, ((numT s).2.1, er)) by unfold onlyT; rw [if_pos hE, if_neg hm])
      rw [hv.out]
      generalize numT s = r at *
      obtain ⟨r1, r2, r3⟩ := r
      simp only at *
      subst hE
      have HM := hide hmf
      have HST := hide hst
      clear hv hm hmf hby h hst
      go_enter Tryd.func79, Tryd.ntmps79
      go_wp2_with (first
        | (go_at_call 81; refine H.out.mono ?_; rintro e w1 ⟨rfl, hr⟩; obtain ⟨s1, z1⟩ := hr.rs.see; have hlt := hr.rs.lt.2; have HRR := hide hr; clear hr)
        | (go_at_call 91; refine (isOp_any r1 _ (hT.below (HRR.out.read.below hgw) hB0) ⟨by omega, by omega⟩).mono ?_; rw [HM.out]; rintro e w' ⟨rfl, rfl⟩))
      go_ret
      exact ⟨rfl, HRR.out.trans (HST.out _ HRR.out)⟩
  · have hv := hide (show onlyT isOpB er s = (0, (numT s).2) by unfold onlyT; rw [if_neg hE])
    rw [hv.out]
    generalize numT s = r at *
    obtain ⟨r1, r2, r3⟩ := r
    simp only at *
    have hEb : ((r3 : Int) != 0) = true := by simp; omega
    clear hv hby h hst hE
    go_enter Tryd.func79, Tryd.ntmps79
    go_wp2_with (go_at_call 81; refine H.out.mono ?_; rintro e w1 ⟨rfl, hr⟩; obtain ⟨s1, z1⟩ := hr.rs.see; have hlt := hr.rs.lt.2; have HRR := hide hr; clear hr)
    go_ret
    exact ⟨rfl, HRR.out⟩

set_option maxRecDepth 100000 in
theorem onlyLim_any (g B er : Nat) (ei : Int) (hei : ei = (er : Int)) (lv : Value) (lo hi : Int) (s : St) (w : World) (h : RS w g B s) (hL : LimC w (· < B) lv lo hi) :
    Calls Tryd.prog 79 #[.pointer (some ⟨g, 0, none⟩), lv, .int .i64 ei] w fun e w' => e = .returned (.int .i64 (onlyT (limB lo hi) er s).1) ∧ ReadTo w g B (onlyT (limB lo hi) er s).2 w' := by
  subst hei
  have H := hide (number_any' g B s w h)
  have hby := h.byt
  have hgw := h.lt
  obtain ⟨b1, b2, rfl, hb1, hb2, hc1, hc2⟩ := hL
  have hR := numT_R hby
  have hst := fun w1 (h1 : ReadTo w g B (numT s).2 w1) => h1.rs.fail (E := er)
  by_cases hE : (numT s).2.2 = 0
  · by_cases hm : (limB lo hi) (numT s).1 = true
    · have hv := hide (show onlyT (limB lo hi) er s = numT s by unfold onlyT; rw [if_pos hE, if_pos hm])
      rw [hv.out]
      generalize numT s = r at *
      obtain ⟨r1, r2, r3⟩ := r
      simp only at *
      subst hE
      have HM := hide (show (decide (lo ≤ r1) && decide (r1 ≤ hi)) = true from hm)
      clear hv hm hby h
      go_enter Tryd.func79, Tryd.ntmps79
      go_wp2_with (first
        | (go_at_call 81; refine H.out.mono ?_; rintro e w1 ⟨rfl, hr⟩; obtain ⟨s1, z1⟩ := hr.rs.see; have hlt := hr.rs.lt.2; have HRR := hide hr; clear hr)
        | (go_at_call 53; refine (from_any r1 lo hi b1 b2 _ ((HRR.out.read.same (S := (· < B)) (fun b hb => ⟨by omega, by omega⟩) b1 0 hb1).trans hc1) ((HRR.out.read.same (S := (· < B)) (fun b hb => ⟨by omega, by omega⟩) b2 0 hb2).trans hc2)).mono ?_; rw [HM.out]; rintro e w' ⟨rfl, rfl⟩))
      go_ret
      exact ⟨rfl, HRR.out⟩
    · have hmf := Bool.eq_false_iff.2 hm
      have hv := hide (show onlyT (limB lo hi) er s = (0, ((numT s).2.1, er)) by unfold onlyT; rw [if_pos hE, if_neg hm])
      rw [hv.out]
      generalize numT s = r at *
      obtain ⟨r1, r2, r3⟩ := r
      simp only at *
      subst hE
      have HM := hide (show (decide (lo ≤ r1) && decide (r1 ≤ hi)) = false from hmf)
      have HST := hide hst
      clear hv hm hmf hby h hst
      go_enter Tryd.func79, Tryd.ntmps79
      go_wp2_with (first
        | (go_at_call 81; refine H.out.mono ?_; rintro e w1 ⟨rfl, hr⟩; obtain ⟨s1, z1⟩ := hr.rs.see; have hlt := hr.rs.lt.2; have HRR := hide hr; clear hr)
        | (go_at_call 53; refine (from_any r1 lo hi b1 b2 _ ((HRR.out.read.same (S := (· < B)) (fun b hb => ⟨by omega, by omega⟩) b1 0 hb1).trans hc1) ((HRR.out.read.same (S := (· < B)) (fun b hb => ⟨by omega, by omega⟩) b2 0 hb2).trans hc2)).mono ?_; rw [HM.out]; rintro e w' ⟨rfl, rfl⟩))
      go_ret
      exact ⟨rfl, HRR.out.trans (HST.out _ HRR.out)⟩
  · have hv := hide (show onlyT (limB lo hi) er s = (0, (numT s).2) by unfold onlyT; rw [if_neg hE])
    rw [hv.out]
    generalize numT s = r at *
    obtain ⟨r1, r2, r3⟩ := r
    simp only at *
    have hEb : ((r3 : Int) != 0) = true := by simp; omega
    clear hv hby h hst hE
    go_enter Tryd.func79, Tryd.ntmps79
    go_wp2_with (go_at_call 81; refine H.out.mono ?_; rintro e w1 ⟨rfl, hr⟩; obtain ⟨s1, z1⟩ := hr.rs.see; have hlt := hr.rs.lt.2; have HRR := hide hr; clear hr)
    go_ret
    exact ⟨rfl, HRR.out⟩

theorem count_any (lv : Value) (lo hi : Int) (g B : Nat) (s : St) (w : World) (h : RS w g B s) (hL : LimC w (· < B) lv lo hi) :
    Calls Tryd.prog 54 #[.pointer (some ⟨g, 0, none⟩), lv] w fun e w' => e = .returned (.int .i64 (cntT lo hi s).1) ∧ ReadTo w g B (cntT lo hi s).2 w' := by
  have H := hide (onlyLim_any g B 9 9 rfl lv lo hi s w h hL)
  obtain ⟨b1, b2, rfl, -⟩ := hL
  unfold cntT
  clear h
  generalize onlyT (limB lo hi) 9 s = r at *
  go_enter Tryd.func54, Tryd.ntmps54
  go_wp2_with (go_at_call 79; refine H.out.mono ?_; rintro e w1 ⟨rfl, hr⟩)
  go_ret
  exact ⟨rfl, hr⟩
end Go.Proofs.YtpggjolbohffjaaDoor
