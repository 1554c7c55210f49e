/- The mathematics of the reference's Decode: loops that stop at the first error: what they leave is what the whole reading leaves, and where no error came, its value. -/
import Derived.Test.YtojobajeffipdaaPcRErr
set_option linter.unusedSimpArgs false
set_option linter.unusedVariables false
namespace Go.Proofs.Ytojobajeffipdaa
open Go.RowKit

/-- An answer of a reading function: the state is its own, the value where no error came. -/
def AnsT {α : Type} (r : α × St) (x : α) (t : St) : Prop := t = r.2 ∧ (t.2 = 0 → x = r.1)
/-- j rounds of a reading under way. -/
def UpTo {α : Type} (f : St → α × St) (j : Nat) (s : St) (l : List α) (t : St) : Prop := l.length = j ∧ AnsT (manyT f j s) l t
section
variable {α : Type} {f : St → α × St} {j m : Nat} {s t t' : St} {l : List α} {x : α}
theorem KeepE.zero (hf : KeepE f) (h : (f t).2.2 = 0) : t.2 = 0 := by
  apply Classical.byContradiction
  intro hn
  rw [hf t hn] at h
  exact hn h
theorem UpTo.zero (f : St → α × St) (s : St) : UpTo f 0 s [] s := ⟨rfl, rfl, fun _ => rfl⟩
theorem UpTo.step (h : UpTo f j s l t) (hf : KeepE f) (hx : AnsT (f t) x t') : UpTo f (j + 1) s (l ++ [x]) t' := by
  obtain ⟨h1, rfl, h3⟩ := h
  obtain ⟨rfl, h4⟩ := hx
  refine ⟨by simp [h1], rfl, fun he => ?_⟩
  rw [manyT_ls, h3 (hf.zero he), h4 he]
end
end Go.Proofs.Ytojobajeffipdaa
