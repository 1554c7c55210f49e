/- The reference's ins, its mathematics: what the operation's number leaves; the instruction under way when a letter is laid, when a number is put behind its list. No condition. -/
import Derived.Test.YtjlndibeaklcdaaRIr
import Derived.Test.YtjlndibeaklcdaaMR
import Derived.Test.YtjlndibeaklcdaaCAlive
set_option linter.unusedSimpArgs false
set_option linter.unusedVariables false
namespace Go.Proofs.Ytjlndibeaklcdaa
open Go.RowKit

theorem onlyT_st (s : St) : (onlyT isOpB 5 s).2 = if (numT s).2.2 = 0 ∧ partsN (numT s).1 = [] then ((numT s).2.1, 5) else (numT s).2 := by
  rw [onlyT_op]
  split
  · rfl
  · split <;> rfl
/-- What ins leaves, by the operation's number as it was read. -/
theorem insT_op (s : St) : (insT s).2 = ((partsN (numT s).1).foldl partT (bare (numT s).1, (onlyT isOpB 5 s).2)).2 ∧ ((insT s).2.2 = 0 → (insT s).1 = ((partsN (numT s).1).foldl partT (bare (numT s).1, (onlyT isOpB 5 s).2)).1) := by
  by_cases hE : (onlyT isOpB 5 s).2.2 = 0
  · have h1 : (onlyT isOpB 5 s).1 = (numT s).1 := by
      unfold onlyT at hE ⊢
      by_cases h0 : (numT s).2.2 = 0
      · rw [if_pos h0] at hE ⊢
        by_cases hm : isOpB (numT s).1 = true
        · rw [if_pos hm]
        · rw [if_neg hm] at hE
          exact absurd hE (by simp)
      · rw [if_neg h0] at hE
        exact absurd hE h0
    unfold insT
    rw [h1]
    exact ⟨rfl, fun _ => rfl⟩
  · have h1 : (insT s).2 = (onlyT isOpB 5 s).2 := by
      unfold insT
      exact fold_keep _ _ hE
    have h2 : ((partsN (numT s).1).foldl partT (bare (numT s).1, (onlyT isOpB 5 s).2)).2 = (onlyT isOpB 5 s).2 := fold_keep _ _ hE
    rw [h1, h2]
    exact ⟨rfl, fun h => absurd h hE⟩
/-- Block b holds things of type T. -/
def TB (w : World) (T : TypeId) (b : Nat) : Prop := ∃ c fz, w.heap[b]? = some (.cells c T fz)
theorem TB.set {w : World} {T : TypeId} {b h j : Nat} {v : Value} (t : TB w T b) (hb : b ≠ h) : TB (w.setCell ⟨h, j, none⟩ v) T b := by
  obtain ⟨c, fz, e⟩ := t
  exact ⟨c, fz, (heap_setCell_other w ⟨h, j, none⟩ b v hb).trans e⟩
theorem Ow.intsB {w : World} {base : Nat} {v : Value} {zs : List Int} {S : Nat → Prop} (h : Ow w base 3 .i64 v zs) (hR : ∀ z ∈ zs, i64R z) (hS : ∀ b, base ≤ b → b < w.heap.size → TB w 3 b → S b) : IntsV w S v zs := by
  have h0 := h
  obtain ⟨A, c, rfl, hc, hm, hs⟩ := h.sl
  refine ⟨A, c, rfl, hc, by simpa [maxLen] using hm, fun hp => ?_⟩
  obtain ⟨b, o, rfl, hb, hcell⟩ := hs hp
  obtain ⟨hrow, c', fz, hty⟩ := Ow.row h0 b rfl
  refine ⟨b, o, rfl, hS b hrow hb ⟨c', fz, hty⟩, fun j x hj => ⟨?_, hR x (List.mem_of_getElem? hj)⟩⟩
  rw [Nat.mul_one, hcell j (List.getElem?_eq_some_iff.1 hj).1]
  simp [List.getD, hj]
/-- A place of a text. -/
theorem strat_i {l : List Nat} (hl : ∀ c ∈ l, isLetter c) {s : ByteArray} (hs : strOf l = s) : s.size = l.length ∧ ∀ (k d : Nat), l[k]? = some d → ∀ hk : k < s.size, (s[k]'hk).toNat = d :=
  ⟨by rw [← hs, strOf_size], fun k d hd hk => by subst hs; exact strOf_get hl hd hk⟩
end Go.Proofs.Ytjlndibeaklcdaa
