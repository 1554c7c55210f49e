/- Layer 13: own lists of blocks in memory, each with instructions of its own, whose arguments are their own, too: what a store, an append, a new block leave of them. No condition. -/
import Derived.Test.YtkilfejcohnceaaPaDB
set_option linter.unusedSimpArgs false
set_option linter.unusedVariables false
namespace Go.Proofs.Ytkilfejcohnceaa
open Go.RowKit

theorem flat_setE {β : Type} {c : β → List Value} {sz : Nat} (hc : ∀ y, (c y).length = sz) : ∀ (l : List β) (j i : Nat) (y y' : β) (u : Value), l[j]? = some y → i < sz → c y' = (c y).set i u → (l.set j y').flatMap c = (l.flatMap c).set (j * sz + i) u
  | [], j, i, y, y', u, h, _, _ => by simp at h
  | x :: l, 0, i, y, y', u, h, hi, e => by
    simp at h
    subst h
    rw [List.set_cons_zero, List.flatMap_cons, List.flatMap_cons, e, Nat.zero_mul, Nat.zero_add, List.set_append, if_pos (by rw [hc x]; exact hi)]
  | x :: l, j + 1, i, y, y', u, h, hi, e => by
    rw [List.set_cons_succ, List.flatMap_cons, List.flatMap_cons, List.set_append, hc x, if_neg (by rw [Nat.succ_mul]; omega), show (j + 1) * sz + i - sz = j * sz + i by rw [Nat.succ_mul]; omega]
    rw [flat_setE hc l j i y y' u (by simpa using h) hi e]
section
variable {β : Type} {c : β → List Value} {T : TypeId} {sz : Nat} {w w' : World} {base : Nat} {v : Value} {l : List β}
theorem OwC.blk (h : OwC c T sz w base v l) (hl : 0 < l.length) : ∃ g cap, v = .slice (some ⟨g, 0, none⟩) l.length cap ∧ base ≤ g ∧ g < w.heap.size ∧ l.length ≤ cap ∧ cap ≤ maxLen ∧ TB w T g := by
  have h0 := h
  rcases h.2 with ⟨rfl, e⟩ | ⟨g, cap, cur, rfl, hg, hh, hnc, hcm, -⟩
  · omega
  · exact ⟨g, cap, rfl, hg, (Array.getElem?_eq_some_iff.1 hh).1, hnc, hcm, cur, _, hh⟩
theorem OwC.at' {g cap n : Nat} (h : OwC c T sz w base (.slice (some ⟨g, 0, none⟩) n cap) l) (hn : l.length = n) (hc : ∀ y, (c y).length = sz) {j i : Nat} {y : β} (hj : l[j]? = some y) (hi : i < sz) : w.cell? ⟨g, j * sz + i, none⟩ = (c y)[i]? ∧ w.frozen? ⟨g, j * sz + i, none⟩ = false := by
  subst hn
  have hjl := (List.getElem?_eq_some_iff.1 hj).1
  have hlt : j * sz + i < l.length * sz := by
    have : (j + 1) * sz ≤ l.length * sz := Nat.mul_le_mul_right _ (by omega)
    rw [Nat.succ_mul] at this
    omega
  exact ⟨by rw [World.ownsRow.cellAt h _ hlt, flat_at l j i y (fun y _ => hc y) hj hi], World.ownsRow.frozenAt h _⟩
theorem OwC.putE {g cap n : Nat} (h : OwC c T sz w base (.slice (some ⟨g, 0, none⟩) n cap) l) (hn : l.length = n) (hc : ∀ y, (c y).length = sz) {j i : Nat} {y y' : β} {u : Value} (hj : l[j]? = some y) (hi : i < sz) (hy : c y' = (c y).set i u) : OwC c T sz (w.setCell ⟨g, j * sz + i, none⟩ u) base (.slice (some ⟨g, 0, none⟩) n cap) (l.set j y') := by
  subst hn
  have t := (World.ownsRow.stored h (j * sz + i) u).1
  unfold OwC
  rw [List.length_set, flat_setE hc l j i y y' u hj hi hy]
  exact t
end
section
variable {w w' : World} {base : Nat} {M : Nat → Prop} {p : List InsV × Value}
end
section
variable {w w' : World} {base : Nat} {v : Value} {l : List (List InsV × Value)}
end
end Go.Proofs.Ytkilfejcohnceaa
