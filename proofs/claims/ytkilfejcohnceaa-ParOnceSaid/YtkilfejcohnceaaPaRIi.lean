/- Texts of several names, of which only what the statement needs is kept. -/
import Derived.Test.YtkilfejcohnceaaPaMD
import Derived.Test.YtkilfejcohnceaaPaMC
import Derived.Test.YtkilfejcohnceaaPaNA
import Derived.Test.YtkilfejcohnceaaPaMV
/- The mathematics of the reader's early end: behind the first error nothing is read: each of the reading functions keeps the state. -/
set_option linter.unusedSimpArgs false
set_option linter.unusedVariables false
namespace Go.Proofs.Ytkilfejcohnceaa
open Go.RowKit

/-- Keeps a state with an error. -/
def KeepE {α : Type} (f : St → α × St) : Prop := ∀ s : St, s.2 ≠ 0 → (f s).2 = s
/-- Behind an error many more read nothing. -/
theorem many_stop {α : Type} {f : St → α × St} (hf : KeepE f) {s : St} {k : Nat} (h : (manyT f k s).2.2 ≠ 0) : ∀ n, k ≤ n → (manyT f n s).2 = (manyT f k s).2 := fun n hn => by
  induction n with
  | zero => have : k = 0 := by omega
            subst this; rfl
  | succ n ih =>
    by_cases hk : k = n + 1
    · subst hk; rfl
    · have e := ih (by omega)
      rw [manyT_st, e, hf _ h]
end Go.Proofs.Ytkilfejcohnceaa

/- The mathematics of the reference's Decode: loops that stop at the first error: what they leave is what the whole reading leaves, and where no error came, its value. -/
set_option linter.unusedSimpArgs false
set_option linter.unusedVariables false
namespace Go.Proofs.Ytkilfejcohnceaa
open Go.RowKit

/-- An answer of a reading function: the state is its own, the value where no error came. -/
def AnsT {α : Type} (r : α × St) (x : α) (t : St) : Prop := t = r.2 ∧ (t.2 = 0 → x = r.1)
/-- j rounds of a reading under way. -/
def UpTo {α : Type} (f : St → α × St) (j : Nat) (s : St) (l : List α) (t : St) : Prop := l.length = j ∧ AnsT (manyT f j s) l t
section
variable {α : Type} {f : St → α × St} {j m : Nat} {s t t' : St} {l : List α} {x : α}
theorem KeepE.zero (hf : KeepE f) (h : (f t).2.2 = 0) : t.2 = 0 := by
  apply Classical.byContradiction
  intro hn
  rw [hf t hn] at h
  exact hn h
theorem UpTo.zero (f : St → α × St) (s : St) : UpTo f 0 s [] s := ⟨rfl, rfl, fun _ => rfl⟩
theorem UpTo.step (h : UpTo f j s l t) (hf : KeepE f) (hx : AnsT (f t) x t') : UpTo f (j + 1) s (l ++ [x]) t' := by
  obtain ⟨h1, rfl, h3⟩ := h
  obtain ⟨rfl, h4⟩ := hx
  refine ⟨by simp [h1], rfl, fun he => ?_⟩
  rw [manyT_ls, h3 (hf.zero he), h4 he]
theorem UpTo.stop (h : UpTo f j s l t) (hf : KeepE f) (hj : j ≤ m) (he : j = m ∨ t.2 ≠ 0) : AnsT (manyT f m s) l t := by
  obtain ⟨h1, h2, h3⟩ := h
  rcases he with rfl | he
  · exact ⟨h2, h3⟩
  · exact ⟨by rw [h2]; exact (many_stop hf (by rw [← h2]; exact he) m hj).symm, fun h => absurd h he⟩
end
end Go.Proofs.Ytkilfejcohnceaa

/- The contract of the statements' fixed fact. Condition: the table of parts reads as listed. -/
set_option linter.unusedSimpArgs false
set_option linter.unusedVariables false
namespace Go.Proofs.Ytkilfejcohnceaa
open Go.RowKit

def P0 : FunV := ⟨[0], [-1], 0, 0, [[⟨1, 0, 0, 0, 5, 0, []⟩, ⟨23, 0, 0, 0, 0, 0, []⟩]]⟩
end Go.Proofs.Ytkilfejcohnceaa

/- The reference's ins, its mathematics: what the operation's number leaves; the instruction under way when a letter is laid, when a number is put behind its list. No condition. -/
set_option linter.unusedSimpArgs false
set_option linter.unusedVariables false
namespace Go.Proofs.Ytkilfejcohnceaa
open Go.RowKit

/-- Block b holds things of type T. -/
def TB (w : World) (T : TypeId) (b : Nat) : Prop := ∃ c fz, w.heap[b]? = some (.cells c T fz)
theorem TB.set {w : World} {T : TypeId} {b h j : Nat} {v : Value} (t : TB w T b) (hb : b ≠ h) : TB (w.setCell ⟨h, j, none⟩ v) T b := by
  obtain ⟨c, fz, e⟩ := t
  exact ⟨c, fz, (heap_setCell_other w ⟨h, j, none⟩ b v hb).trans e⟩
end Go.Proofs.Ytkilfejcohnceaa
