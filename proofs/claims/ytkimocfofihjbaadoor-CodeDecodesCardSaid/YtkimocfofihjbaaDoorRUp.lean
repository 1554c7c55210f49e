/- The reference's reader of layer 3: upto: a number of at most so much, or the error ('onlyT'). -/
import Derived.Test.YtkimocfofihjbaaDoorRRs
set_option linter.unusedSimpArgs false
set_option linter.unusedVariables false
namespace Go.Proofs.YtkimocfofihjbaaDoor
open Go.RowKit

set_option maxRecDepth 100000 in
theorem rdupto_any (g B er most : Nat) (ei mi : Int) (hei : ei = (er : Int)) (her : er ≠ 0) (hmi : mi = (most : Int)) (s : St) (w : World) (h : RSr w g B s) :
    Calls Tryd.prog 13 #[.pointer (some ⟨g, 0, none⟩), .int .i64 mi, .int .i64 ei] w fun e w' => e = .returned (.int .i64 (onlyT (limB 0 mi) er s).1) ∧ ReadTr w g B (onlyT (limB 0 mi) er s).2 w' := by
  subst hei hmi
  have H := hide (rdnum_any g B s w h)
  have hby := h.byt
  have hR := numT_R hby
  have hst := fun w1 (h1 : ReadTr w g B (numT s).2 w1) => h1.rs.fail (E := er)
  by_cases hE : (numT s).2.2 = 0
  · by_cases hm : (numT s).1 ≤ (most : Int)
    · have hv := hide (show onlyT (limB 0 (most : Int)) er s = numT s by unfold onlyT; rw [if_pos hE, if_pos (by unfold limB; simp only [Bool.and_eq_true, decide_eq_true_eq]; exact ⟨hR.1, hm⟩)])
      rw [hv.out]
      generalize numT s = r at *
      obtain ⟨r1, r2, r3⟩ := r
      simp only at *
      subst hE
      have hm2 : ¬ (most : Int) < r1 := by omega
      clear hv hby h
      go_enter Tryd.func13, Tryd.ntmps13
      go_wp2_with (go_at_call 14; refine H.out.mono ?_; rintro e w1 ⟨rfl, hr⟩; obtain ⟨s1, z1⟩ := hr.rs.see; have hlt := hr.rs.lt.2; have HRR := hide hr; clear hr)
      go_ret
      exact ⟨rfl, HRR.out⟩
    · have hv := hide (show onlyT (limB 0 (most : Int)) er s = (0, ((numT s).2.1, er)) by unfold onlyT; rw [if_pos hE, if_neg (by unfold limB; simp only [Bool.and_eq_true, decide_eq_true_eq]; exact fun hh => hm hh.2)])
      rw [hv.out]
      generalize numT s = r at *
      obtain ⟨r1, r2, r3⟩ := r
      simp only at *
      subst hE
      have hm2 : (most : Int) < r1 := by omega
      have HST := hide hst
      have heb : ((er : Int) != 0) = true := by simp; omega
      clear hv hby h hst
      go_enter Tryd.func13, Tryd.ntmps13
      go_wp2_with (go_at_call 14; refine H.out.mono ?_; rintro e w1 ⟨rfl, hr⟩; obtain ⟨s1, z1⟩ := hr.rs.see; have hlt := hr.rs.lt.2; have HRR := hide hr; clear hr)
      go_ret
      exact ⟨rfl, HRR.out.trans (HST.out _ HRR.out)⟩
  · have hv := hide (show onlyT (limB 0 (most : Int)) er s = (0, (numT s).2) by unfold onlyT; rw [if_neg hE])
    rw [hv.out]
    generalize numT s = r at *
    obtain ⟨r1, r2, r3⟩ := r
    simp only at *
    have hEb : ((r3 : Int) != 0) = true := by simp; omega
    have hEc : ((r3 : Int) == 0) = false := by simp; omega
    clear hv hby h hst hE
    go_enter Tryd.func13, Tryd.ntmps13
    go_wp2_with (go_at_call 14; refine H.out.mono ?_; rintro e w1 ⟨rfl, hr⟩; obtain ⟨s1, z1⟩ := hr.rs.see; have hlt := hr.rs.lt.2; have HRR := hide hr; clear hr)
    go_ret
    exact ⟨rfl, HRR.out⟩
end Go.Proofs.YtkimocfofihjbaaDoor
