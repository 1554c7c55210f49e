/- The statement ShapeFirst, walked: it answers true. Conditions: the table of parts reads as listed; no slice of the program is longer than any machine's memory. -/
import Derived.Test.YtnoknodijombpaaDoorPhSW
set_option linter.unusedSimpArgs false
set_option linter.unusedVariables false
namespace Go.Proofs.YtnoknodijombpaaDoor
open Go.RowKit

theorem ends_at {l : List InsV} {k : Nat} {x : InsV} (h : endsB l = true) (hx : l[k]? = some x) : lastB x.op = decide (k = l.length - 1) := by
  have hk := (List.getElem?_eq_some_iff.1 hx).1
  unfold endsB at h
  simp only [Bool.and_eq_true, List.all_eq_true, Bool.not_eq_true'] at h
  by_cases he : k = l.length - 1
  · rw [decide_eq_true he]
    exact h.2 x (List.mem_of_getElem? (i := 0) (by rw [List.getElem?_drop, ← he]; simpa using hx))
  · rw [decide_eq_false he]
    exact h.1 x (List.mem_of_getElem? (i := k) (by rw [List.getElem?_take_of_lt (by omega)]; exact hx))
theorem next_blk {p : List FunV} {f : FunV} {x : InsV} (h : mayB4 p f x = true) : ∀ v ∈ nextL x, 1 ≤ v ∧ v < f.blocks.length := by
  obtain ⟨-, -, -, -, hn⟩ := may_parts h
  unfold numsB at hn
  unfold nextL
  intro v hv
  by_cases h21 : x.op = 21
  · simp [h21] at hn hv
    subst hv
    exact inBlk_nn hn
  · by_cases h22 : x.op = 22
    · simp [h22] at hn hv
      have h1 := inBlk_nn hn.1
      have h2 := inBlk_nn hn.2
      split at hv
      · simp at hv; subst hv; exact h1
      · simp at hv; omega
    · simp [h21, h22] at hv
theorem two_chk (p : List FunV) : (chkN4 p = 0 ∧ progB4 p = true) ∨ chkN4 p = 5 := by
  unfold chkN4
  by_cases h : progB4 p = true
  · left; rw [if_pos h]; exact ⟨rfl, h⟩
  · right; rw [if_neg h]
end Go.Proofs.YtnoknodijombpaaDoor
