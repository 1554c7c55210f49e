/- Layer 11: the fixed fact, and the programs that aren't asked about. Condition: the table of parts reads as listed; no slice of the program is longer than any machine's memory. -/
import Derived.Test.YteoopilmdlhkhaaDoorPaEA
import Derived.Test.YteoopilmdlhkhaaDoorPaKQ
import Derived.Test.YteoopilmdlhkhaaDoorPaMB
import Derived.Test.YteoopilmdlhkhaaDoorPaSAlive
import Derived.Test.YteoopilmdlhkhaaDoorProg
import Derived.Laws.Cover1
set_option linter.unusedSimpArgs false
set_option linter.unusedVariables false
namespace Go.Proofs.YteoopilmdlhkhaaDoor
open Go.RowKit

def P11 : FunV := ⟨[0], [-1], 0, 0, [[⟨1, 0, 0, 0, 0, 0, []⟩, ⟨23, 0, 0, 0, 0, 0, []⟩]]⟩
def WP11 (w : World) (h : Nat) : World := ((((w.alloc (.cells #[.int .i64 0] 3)).alloc (.cells #[.int .i64 (-1)] 3)).alloc (.cells #[.int .i64 1, .int .i64 0, .int .i64 0, .int .i64 0, .int .i64 0, .int .i64 0, .slice none 0 0, .int .i64 23, .int .i64 0, .int .i64 0, .int .i64 0, .int .i64 0, .int .i64 0, .slice none 0 0] 28)).alloc (.cells #[.slice (some ⟨h + 1 + 1, 0, none⟩) 2 2] 31)).alloc (.cells #[.slice (some ⟨h, 0, none⟩) 1 1, .slice (some ⟨h + 1, 0, none⟩) 1 1, .int .i64 0, .int .i64 0, .slice (some ⟨h + 1 + 1 + 1, 0, none⟩) 1 1] 34)
theorem P11_of (w : World) : Box (WP11 w w.heap.size) (w.heap.size + 1 + 1 + 1 + 1) #[.slice (some ⟨w.heap.size, 0, none⟩) 1 1, .slice (some ⟨w.heap.size + 1, 0, none⟩) 1 1, .int .i64 0, .int .i64 0, .slice (some ⟨w.heap.size + 1 + 1 + 1, 0, none⟩) 1 1] 34 ∧ FunI (WP11 w w.heap.size) (· < (WP11 w w.heap.size).heap.size) (.slice (some ⟨w.heap.size, 0, none⟩) 1 1) (.slice (some ⟨w.heap.size + 1, 0, none⟩) 1 1) (.slice (some ⟨w.heap.size + 1 + 1 + 1, 0, none⟩) 1 1) P11 ∧ Below w.heap.size w (WP11 w w.heap.size) := by
  unfold WP11
  obtain ⟨h, hh⟩ : ∃ h, w.heap.size = h := ⟨_, rfl⟩
  obtain ⟨w0, hw0⟩ : ∃ w0, w.alloc (.cells #[.int .i64 0] 3) = w0 := ⟨_, rfl⟩
  have b0 : Box w0 h #[.int .i64 0] 3 := by rw [← hw0, ← hh]; exact Box.new _ _ _
  have z0 : w0.heap.size = h + 1 := by rw [← hw0, World.size_alloc, hh]
  have l0 : Below h w w0 := by rw [← hw0, ← hh]; exact alloc1 w _
  rw [hh, hw0]
  obtain ⟨w1, hw1⟩ : ∃ w1, w0.alloc (.cells #[.int .i64 (-1)] 3) = w1 := ⟨_, rfl⟩
  have b1 : Box w1 (h + 1) #[.int .i64 (-1)] 3 := by rw [← hw1, ← z0]; exact Box.new _ _ _
  have z1 : w1.heap.size = h + 1 + 1 := by rw [← hw1, World.size_alloc, z0]
  have l1 : Below h w w1 := by rw [← hw1]; exact l0.alloc (by omega) _
  replace b0 : Box w1 h #[.int .i64 0] 3 := by rw [← hw1]; exact b0.alloc _
  rw [hw1]
  obtain ⟨w2, hw2⟩ : ∃ w2, w1.alloc (.cells #[.int .i64 1, .int .i64 0, .int .i64 0, .int .i64 0, .int .i64 0, .int .i64 0, .slice none 0 0, .int .i64 23, .int .i64 0, .int .i64 0, .int .i64 0, .int .i64 0, .int .i64 0, .slice none 0 0] 28) = w2 := ⟨_, rfl⟩
  have b2 : Box w2 (h + 1 + 1) #[.int .i64 1, .int .i64 0, .int .i64 0, .int .i64 0, .int .i64 0, .int .i64 0, .slice none 0 0, .int .i64 23, .int .i64 0, .int .i64 0, .int .i64 0, .int .i64 0, .int .i64 0, .slice none 0 0] 28 := by rw [← hw2, ← z1]; exact Box.new _ _ _
  have z2 : w2.heap.size = h + 1 + 1 + 1 := by rw [← hw2, World.size_alloc, z1]
  have l2 : Below h w w2 := by rw [← hw2]; exact l1.alloc (by omega) _
  replace b0 : Box w2 h #[.int .i64 0] 3 := by rw [← hw2]; exact b0.alloc _
  replace b1 : Box w2 (h + 1) #[.int .i64 (-1)] 3 := by rw [← hw2]; exact b1.alloc _
  rw [hw2]
  obtain ⟨w3, hw3⟩ : ∃ w3, w2.alloc (.cells #[.slice (some ⟨h + 1 + 1, 0, none⟩) 2 2] 31) = w3 := ⟨_, rfl⟩
  have b3 : Box w3 (h + 1 + 1 + 1) #[.slice (some ⟨h + 1 + 1, 0, none⟩) 2 2] 31 := by rw [← hw3, ← z2]; exact Box.new _ _ _
  have z3 : w3.heap.size = h + 1 + 1 + 1 + 1 := by rw [← hw3, World.size_alloc, z2]
  have l3 : Below h w w3 := by rw [← hw3]; exact l2.alloc (by omega) _
  replace b0 : Box w3 h #[.int .i64 0] 3 := by rw [← hw3]; exact b0.alloc _
  replace b1 : Box w3 (h + 1) #[.int .i64 (-1)] 3 := by rw [← hw3]; exact b1.alloc _
  replace b2 : Box w3 (h + 1 + 1) #[.int .i64 1, .int .i64 0, .int .i64 0, .int .i64 0, .int .i64 0, .int .i64 0, .slice none 0 0, .int .i64 23, .int .i64 0, .int .i64 0, .int .i64 0, .int .i64 0, .int .i64 0, .slice none 0 0] 28 := by rw [← hw3]; exact b2.alloc _
  rw [hw3]
  obtain ⟨w4, hw4⟩ : ∃ w4, w3.alloc (.cells #[.slice (some ⟨h, 0, none⟩) 1 1, .slice (some ⟨h + 1, 0, none⟩) 1 1, .int .i64 0, .int .i64 0, .slice (some ⟨h + 1 + 1 + 1, 0, none⟩) 1 1] 34) = w4 := ⟨_, rfl⟩
  have b4 : Box w4 (h + 1 + 1 + 1 + 1) #[.slice (some ⟨h, 0, none⟩) 1 1, .slice (some ⟨h + 1, 0, none⟩) 1 1, .int .i64 0, .int .i64 0, .slice (some ⟨h + 1 + 1 + 1, 0, none⟩) 1 1] 34 := by rw [← hw4, ← z3]; exact Box.new _ _ _
  have z4 : w4.heap.size = h + 1 + 1 + 1 + 1 + 1 := by rw [← hw4, World.size_alloc, z3]
  have l4 : Below h w w4 := by rw [← hw4]; exact l3.alloc (by omega) _
  replace b0 : Box w4 h #[.int .i64 0] 3 := by rw [← hw4]; exact b0.alloc _
  replace b1 : Box w4 (h + 1) #[.int .i64 (-1)] 3 := by rw [← hw4]; exact b1.alloc _
  replace b2 : Box w4 (h + 1 + 1) #[.int .i64 1, .int .i64 0, .int .i64 0, .int .i64 0, .int .i64 0, .int .i64 0, .slice none 0 0, .int .i64 23, .int .i64 0, .int .i64 0, .int .i64 0, .int .i64 0, .int .i64 0, .slice none 0 0] 28 := by rw [← hw4]; exact b2.alloc _
  replace b3 : Box w4 (h + 1 + 1 + 1) #[.slice (some ⟨h + 1 + 1, 0, none⟩) 2 2] 31 := by rw [← hw4]; exact b3.alloc _
  rw [hw4]
  clear hw0 hw1 hw2 hw3 hw4 z0 z1 z2 z3 l0 l1 l2 l3
  have r0 : i64R 0 := by unfold i64R; omega
  refine ⟨b4, ⟨?_, ?_, ?_, r0, r0⟩, l4⟩
  · refine ⟨_, 1, rfl, Nat.le_refl _, by omega, fun _ => ⟨_, 0, rfl, b0.lt, fun j y hj => ?_⟩⟩
    have hj4 : j < 1 := (List.getElem?_eq_some_iff.1 hj).1
    obtain rfl : j = 0 := by omega
    injection hj with hj
    subst hj
    exact ⟨(b0.cell 0 (v := .int .i64 0) rfl).1, by unfold i64R; omega⟩
  · refine ⟨_, 1, rfl, Nat.le_refl _, by omega, fun _ => ⟨_, 0, rfl, b1.lt, fun j y hj => ?_⟩⟩
    have hj4 : j < 1 := (List.getElem?_eq_some_iff.1 hj).1
    obtain rfl : j = 0 := by omega
    injection hj with hj
    subst hj
    exact ⟨(b1.cell 0 (v := .int .i64 (-1)) rfl).1, by unfold i64R; omega⟩
  · refine vec_one b3.lt ⟨_, (b3.cell 0 rfl).1, ⟨_, 2, rfl, Nat.le_refl _, by omega, fun _ => ⟨_, 0, rfl, b2.lt, fun j y hj => ?_⟩⟩⟩ (by omega) (by omega)
    have hj4 : j < 2 := (List.getElem?_eq_some_iff.1 hj).1
    rcases (show j = 0 ∨ j = 1 by omega) with rfl | rfl
    · injection hj with hj
      subst hj
      refine ⟨.slice none 0 0, ⟨(b2.cell 0 (v := .int .i64 1) rfl).1, (b2.cell 1 (v := .int .i64 0) rfl).1, (b2.cell 2 (v := .int .i64 0) rfl).1, (b2.cell 3 (v := .int .i64 0) rfl).1, (b2.cell 4 (v := .int .i64 0) rfl).1, (b2.cell 5 (v := .int .i64 0) rfl).1, (b2.cell 6 (v := .slice none 0 0) rfl).1⟩, Vec.nil _ _ _, ?_⟩
      unfold InsR i64R; simp
    · injection hj with hj
      subst hj
      refine ⟨.slice none 0 0, ⟨(b2.cell 7 (v := .int .i64 23) rfl).1, (b2.cell 8 (v := .int .i64 0) rfl).1, (b2.cell 9 (v := .int .i64 0) rfl).1, (b2.cell 10 (v := .int .i64 0) rfl).1, (b2.cell 11 (v := .int .i64 0) rfl).1, (b2.cell 12 (v := .int .i64 0) rfl).1, (b2.cell 13 (v := .slice none 0 0) rfl).1⟩, Vec.nil _ _ _, ?_⟩
      unfold InsR i64R; simp
theorem p11_0 : nxt P11 (0 : Nat) = [] := by decide
theorem p11_ok : FlowOk P11 := by
  refine ⟨by decide, by decide, fun k v hv => ?_⟩
  rcases (show k = 0 ∨ 1 ≤ k by omega) with rfl | h
  · rw [p11_0] at hv
    simp at hv
  · have : nxt P11 k = [] := by
      unfold nxt
      rw [List.getElem?_eq_none (by show 1 ≤ k; exact h)]
    rw [this] at hv
    simp at hv
theorem p11_ne : ∀ c, c < P11.blocks.length → codeOf P11 c ≠ [] := fun c hc => by
  obtain rfl : c = 0 := by have : c < 1 := hc; omega
  simp [codeOf, P11]
theorem p11_few : ∀ l ∈ P11.blocks, ∀ x ∈ l, x.args.length ≤ 1099511627000 := by decide
theorem p11_end {t : List Nat} (h : EndS P11 0 t) : t = [] := by
  obtain ⟨σ, -, rfl⟩ := h
  rw [p11_0]
  show joinL [] = []
  decide
def At11 (w : World) (p : Value) (wx : World) : Prop := ∃ Ak Ab As h, p = .pointer (some ⟨h, 0, none⟩) ∧ Box wx h #[.slice Ak 1 1, .slice Ab 1 1, .int .i64 0, .int .i64 0, .slice As 1 1] 34 ∧ FunI wx (· < wx.heap.size) (.slice Ak 1 1) (.slice Ab 1 1) (.slice As 1 1) P11 ∧ Below w.heap.size w wx
theorem at11_of (w : World) : At11 w (.pointer (some ⟨w.heap.size + 1 + 1 + 1 + 1, 0, none⟩)) (WP11 w w.heap.size) := ⟨_, _, _, _, rfl, (P11_of w).1, (P11_of w).2.1, (P11_of w).2.2⟩
end Go.Proofs.YteoopilmdlhkhaaDoor
