/- The mathematics of the reader's early end: behind the first error nothing is read: each of the reading functions keeps the state. -/
import Derived.Test.YtkimocfofihjbaaDoorMD
set_option linter.unusedSimpArgs false
set_option linter.unusedVariables false
namespace Go.Proofs.YtkimocfofihjbaaDoor
open Go.RowKit

/-- Keeps a state with an error. -/
def KeepE {α : Type} (f : St → α × St) : Prop := ∀ s : St, s.2 ≠ 0 → (f s).2 = s
theorem numT_err {s : St} (h : s.2 ≠ 0) : numT s = (0, s) := by unfold numT; rw [if_neg h]
theorem snumT_err {s : St} (h : s.2 ≠ 0) : snumT s = (0, s) := by unfold snumT; rw [if_neg h]
theorem onlyT_err {may : Int → Bool} {er : Nat} {s : St} (h : s.2 ≠ 0) : onlyT may er s = (0, s) := by
  unfold onlyT; rw [numT_err h]; rw [if_neg h]
theorem cntT_err {lo hi : Int} {s : St} (h : s.2 ≠ 0) : cntT lo hi s = (0, s) := onlyT_err h
theorem numT_keep : KeepE numT := fun s h => by rw [numT_err h]
theorem many_keep {α : Type} {f : St → α × St} (hf : KeepE f) (n : Nat) : KeepE (manyT f n) := fun s h => by
  induction n with
  | zero => rfl
  | succ n ih => rw [manyT_st, ih, hf s h]
/-- Behind an error many more read nothing. -/
theorem many_stop {α : Type} {f : St → α × St} (hf : KeepE f) {s : St} {k : Nat} (h : (manyT f k s).2.2 ≠ 0) : ∀ n, k ≤ n → (manyT f n s).2 = (manyT f k s).2 := fun n hn => by
  induction n with
  | zero => have : k = 0 := by omega
            subst this; rfl
  | succ n ih =>
    by_cases hk : k = n + 1
    · subst hk; rfl
    · have e := ih (by omega)
      rw [manyT_st, e, hf _ h]
theorem listT_keep : KeepE listT := fun s h => by unfold listT; rw [cntT_err h]; rfl
theorem partT_keep (c : Nat) : ∀ p : InsV × St, p.2.2 ≠ 0 → (partT p c).2 = p.2 := fun p h => by
  unfold partT
  by_cases h1 : c = 110
  · rw [if_pos h1, snumT_err h]
  · rw [if_neg h1]
    by_cases h2 : c = 76
    · rw [if_pos h2]; exact listT_keep _ h
    · rw [if_neg h2, numT_err h]
theorem fold_keep : ∀ (l : List Nat) (p : InsV × St), p.2.2 ≠ 0 → (l.foldl partT p).2 = p.2
  | [], p, _ => rfl
  | c :: l, p, h => by
    have e := partT_keep c p h
    rw [List.foldl_cons, fold_keep l _ (by rw [e]; exact h), e]
/-- Behind an error the letters that are left read nothing. -/
theorem fold_stop {l : List Nat} {p : InsV × St} {k : Nat} (h : ((l.take k).foldl partT p).2.2 ≠ 0) : (l.foldl partT p).2 = ((l.take k).foldl partT p).2 := by
  conv => lhs; rw [← List.take_append_drop k l, List.foldl_append]
  exact fold_keep _ _ h
theorem insT_keep : KeepE insT := fun s h => by
  unfold insT
  rw [onlyT_err h]
  exact fold_keep _ _ h
theorem blkT_keep : KeepE blkT := fun s h => by unfold blkT; rw [cntT_err h]; rfl
theorem varT_keep : KeepE varT := fun s h => by
  unfold varT
  rw [onlyT_err h, if_neg (by simp)]
theorem varsT_keep : KeepE varsT := fun s h => by unfold varsT; rw [cntT_err h]; rfl
theorem blksT_keep : KeepE blksT := fun s h => by unfold blksT; rw [cntT_err h]; rfl
theorem funT_keep : KeepE funT := fun s h => by
  unfold funT
  simp only
  have e1 := varsT_keep s h
  have e2 : (numT (varsT s).2).2 = s := by rw [e1]; exact numT_keep s h
  have e3 : (numT (numT (varsT s).2).2).2 = s := by rw [e2]; exact numT_keep s h
  rw [e3]
  exact blksT_keep s h
/-- A kind is a number of at most 2. -/
theorem onlyT_kind {s : St} (h : Byt s) (er : Nat) : onlyT (limB 0 2) er s = onlyT kindB er s := by
  have hR := numT_R h
  have e : limB 0 2 (numT s).1 = kindB (numT s).1 := by
    rw [Bool.eq_iff_iff]
    unfold limB kindB
    simp only [Bool.and_eq_true, Bool.or_eq_true, decide_eq_true_eq, beq_iff_eq]
    omega
  unfold onlyT
  rw [e]
/-- A count of 1 to hi: at most hi, and not 0. -/
theorem cntT_one {hi : Int} {s : St} (h : Byt s) (hh : 1 ≤ hi) :
    cntT 1 hi s = if (cntT 0 hi s).2.2 = 0 ∧ (cntT 0 hi s).1 = 0 then (0, ((cntT 0 hi s).2.1, 9)) else cntT 0 hi s := by
  have hR := numT_R h
  unfold cntT onlyT
  by_cases h0 : (numT s).2.2 = 0
  · rw [if_pos h0, if_pos h0]
    by_cases h1 : (numT s).1 ≤ hi
    · have e0 : limB 0 hi (numT s).1 = true := by unfold limB; simp only [Bool.and_eq_true, decide_eq_true_eq]; omega
      rw [if_pos e0]
      by_cases h2 : (numT s).1 = 0
      · have e1 : ¬ limB 1 hi (numT s).1 = true := by unfold limB; simp only [Bool.and_eq_true, decide_eq_true_eq]; omega
        rw [if_neg e1, if_pos ⟨h0, h2⟩]
      · have e1 : limB 1 hi (numT s).1 = true := by unfold limB; simp only [Bool.and_eq_true, decide_eq_true_eq]; omega
        rw [if_pos e1, if_neg (fun hh => h2 hh.2)]
    · have e0 : ¬ limB 0 hi (numT s).1 = true := by unfold limB; simp only [Bool.and_eq_true, decide_eq_true_eq]; omega
      have e1 : ¬ limB 1 hi (numT s).1 = true := by unfold limB; simp only [Bool.and_eq_true, decide_eq_true_eq]; omega
      rw [if_neg e0, if_neg e1, if_neg (fun hh => absurd hh.1 (by simp))]
  · rw [if_neg h0, if_neg h0, if_neg (fun hh => h0 hh.1)]
/-- The operation's number, as the reference reads it: any number, and behind it whether it is an operation. -/
theorem onlyT_op {s : St} : onlyT isOpB 5 s = if (numT s).2.2 = 0 ∧ partsN (numT s).1 = [] then (0, ((numT s).2.1, 5)) else if (numT s).2.2 = 0 then numT s else (0, (numT s).2) := by
  unfold onlyT isOpB
  by_cases h0 : (numT s).2.2 = 0
  · rw [if_pos h0]
    by_cases h1 : partsN (numT s).1 = []
    · rw [if_neg (by rw [h1]; simp), if_pos ⟨h0, h1⟩]
    · rw [if_pos (by cases hp : partsN (numT s).1 with
        | nil => exact absurd hp h1
        | cons => rfl), if_neg (fun hh => h1 hh.2), if_pos h0]
  · rw [if_neg h0, if_neg (fun hh => h0 hh.1), if_neg h0]
end Go.Proofs.YtkimocfofihjbaaDoor
