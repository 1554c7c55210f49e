/- The mathematics of the reference's Decode: loops that stop at the first error: what they leave is what the whole reading leaves, and where no error came, its value. -/
import Derived.Test.YtkimocfofihjbaaDoorRErr
set_option linter.unusedSimpArgs false
set_option linter.unusedVariables false
namespace Go.Proofs.YtkimocfofihjbaaDoor
open Go.RowKit

/-- An answer of a reading function: the state is its own, the value where no error came. -/
def AnsT {α : Type} (r : α × St) (x : α) (t : St) : Prop := t = r.2 ∧ (t.2 = 0 → x = r.1)
/-- j rounds of a reading under way. -/
def UpTo {α : Type} (f : St → α × St) (j : Nat) (s : St) (l : List α) (t : St) : Prop := l.length = j ∧ AnsT (manyT f j s) l t
section
variable {α : Type} {f : St → α × St} {j m : Nat} {s t t' : St} {l : List α} {x : α}
theorem KeepE.zero (hf : KeepE f) (h : (f t).2.2 = 0) : t.2 = 0 := by
  apply Classical.byContradiction
  intro hn
  rw [hf t hn] at h
  exact hn h
theorem UpTo.zero (f : St → α × St) (s : St) : UpTo f 0 s [] s := ⟨rfl, rfl, fun _ => rfl⟩
theorem UpTo.step (h : UpTo f j s l t) (hf : KeepE f) (hx : AnsT (f t) x t') : UpTo f (j + 1) s (l ++ [x]) t' := by
  obtain ⟨h1, rfl, h3⟩ := h
  obtain ⟨rfl, h4⟩ := hx
  refine ⟨by simp [h1], rfl, fun he => ?_⟩
  rw [manyT_ls, h3 (hf.zero he), h4 he]
theorem UpTo.stop (h : UpTo f j s l t) (hf : KeepE f) (hj : j ≤ m) (he : j = m ∨ t.2 ≠ 0) : AnsT (manyT f m s) l t := by
  obtain ⟨h1, h2, h3⟩ := h
  rcases he with rfl | he
  · exact ⟨h2, h3⟩
  · exact ⟨by rw [h2]; exact (many_stop hf (by rw [← h2]; exact he) m hj).symm, fun h => absurd h he⟩
end
/-- The blocks' count, a block's count: as the reading counts them. -/
theorem blkT_of {s t : St} {l : List InsV} (h : AnsT (manyT insT (cntT 0 40 s).1.toNat (cntT 0 40 s).2) l t) : AnsT (blkT s) l t := h
theorem varsT_of {s t : St} {l : List (Int × Int)} (h : AnsT (manyT varT (cntT 0 48 s).1.toNat (cntT 0 48 s).2) l t) : AnsT (varsT s) l t := h
theorem blksT_of {s t : St} {l : List (List InsV)} (h : AnsT (manyT blkT (cntT 0 40 s).1.toNat (cntT 0 40 s).2) l t) : AnsT (blksT s) l t := h
theorem funT_of {s t2 t5 : St} {vs : List (Int × Int)} {bs : List (List InsV)} (h1 : AnsT (varsT s) vs t2) (h2 : AnsT (blksT (numT (numT t2).2).2) bs t5) :
    AnsT (funT s) ⟨vs.map (·.1), vs.map (·.2), (numT t2).1, (numT (numT t2).2).1, bs⟩ t5 := by
  obtain ⟨rfl, h3⟩ := h1
  obtain ⟨rfl, h4⟩ := h2
  refine ⟨rfl, fun he => ?_⟩
  have e := numT_keep.zero (numT_keep.zero (blksT_keep.zero he))
  rw [h3 e, h4 he]
  rfl
theorem cnt_one1 {s : St} (h : Byt s) : (cntT 1 8 s).1 = (cntT 0 8 s).1 ∧ (cntT 1 8 s).2 = if (cntT 0 8 s).2.2 = 0 ∧ (cntT 0 8 s).1 = 0 then ((cntT 0 8 s).2.1, 9) else (cntT 0 8 s).2 := by
  rw [cntT_one h (by omega)]
  split
  · rename_i hc
    exact ⟨hc.2.symm, rfl⟩
  · exact ⟨rfl, rfl⟩
theorem progT_of {s t : St} {l : List FunV} (h : AnsT (manyT funT (cntT 1 8 s).1.toNat (cntT 1 8 s).2) l t) : AnsT (progT s) l t := h
/-- The end: what Decode answers. -/
theorem decR_of {zs : List Int} {t : St} {l : List FunV} (h : AnsT (progT (zs, 0)) l t) : decR zs = if endE t = 0 then (l, 0) else ([], endE t) := by
  obtain ⟨rfl, h2⟩ := h
  unfold decR
  split
  · rename_i he
    have h0 : (progT (zs, 0)).2.2 = 0 := by
      unfold endE at he
      split at he
      · exact absurd he (by omega)
      · exact he
    rw [h2 h0]
  · rfl
/-- A kind and a base, as the reference reads them. -/
theorem varT_of {s : St} (h : Byt s) : varT s = if (onlyT (limB 0 2) 5 s).1 = 2 then ((2, (numT (onlyT (limB 0 2) 5 s).2).1), (numT (onlyT (limB 0 2) 5 s).2).2) else (((onlyT (limB 0 2) 5 s).1, -1), (onlyT (limB 0 2) 5 s).2) := by
  rw [onlyT_kind h]
  rfl
end Go.Proofs.YtkimocfofihjbaaDoor
