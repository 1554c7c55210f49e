/- The fixed fact of layer 5. No condition. -/
import Derived.Test.YtjlndibeaklcdaaNB
import Derived.Test.YtjlndibeaklcdaaMR
import Derived.Test.YtjlndibeaklcdaaSAlive
set_option linter.unusedSimpArgs false
set_option linter.unusedVariables false
namespace Go.Proofs.Ytjlndibeaklcdaa
open Go.RowKit

def P5 : FunV := ⟨[0], [-1], 0, 0, [[⟨22, 0, 0, 0, 1, 2, []⟩], [⟨21, 0, 0, 0, 3, 0, []⟩], [⟨21, 0, 0, 0, 3, 0, []⟩], [⟨23, 0, 0, 0, 0, 0, []⟩]]⟩
theorem p5_0 : nxt P5 (0 : Int).toNat = [1, 2] := by decide
theorem p5_1 : nxt P5 (1 : Int).toNat = [3] := by decide
theorem p5_2 : nxt P5 (2 : Int).toNat = [3] := by decide
theorem p5_3 : nxt P5 (3 : Int).toNat = [] := by decide
theorem p5_order : OrderOf P5 [0, 2, 1, 3] := by
  refine ⟨[true, true, true, true], [3, 1, 2, 0], ?_, rfl⟩
  refine .new (m1 := [true, true, true, true]) (l1 := [3, 1, 2]) rfl ?_ (.nil _ _)
  rw [p5_0]
  refine .new (m1 := [true, true, false, true]) (l1 := [3]) rfl ?_ ?_
  · rw [p5_1]
    refine .new (m1 := [true, true, false, true]) (l1 := []) rfl ?_ (.nil _ _)
    rw [p5_3]
    exact .nil _ _
  · refine .new (m1 := [true, true, true, true]) (l1 := [3, 1]) rfl ?_ (.nil _ _)
    rw [p5_2]
    exact .old rfl (.nil _ _)
theorem p5_ok : FlowOk P5 := by
  refine ⟨by decide, by decide, fun k v hv => ?_⟩
  rcases (show k = 0 ∨ k = 1 ∨ k = 2 ∨ k = 3 ∨ 4 ≤ k by omega) with rfl | rfl | rfl | rfl | h
  · have : v ∈ [1, 2] := hv
    simp at this
    show 0 ≤ v ∧ v < (4 : Int)
    omega
  · have : v ∈ [3] := hv
    simp at this
    show 0 ≤ v ∧ v < (4 : Int)
    omega
  · have : v ∈ [3] := hv
    simp at this
    show 0 ≤ v ∧ v < (4 : Int)
    omega
  · have : v ∈ ([] : List Int) := hv
    cases this
  · unfold nxt at hv
    rw [List.getElem?_eq_none (show P5.blocks.length ≤ k from h)] at hv
    cases hv
theorem p5_edges : (edgesN P5).length = 4 := by decide
theorem p5_prev : prevN P5 3 = [1, 2] := by decide
theorem p5_size : sizeTo P5 P5.blocks.length = 4 := by decide
def A5_0 (w : World) (h : Nat) : World := w.alloc (.cells #[.int .i64 0] 3)
def A5_1 (w : World) (h : Nat) : World := (A5_0 w h).alloc (.cells #[.int .i64 (-1)] 3)
theorem A5_0_size (w : World) (h : Nat) : (A5_0 w h).heap.size = w.heap.size + 1 := by unfold A5_0; rw [World.size_alloc]
theorem A5_1_size (w : World) (h : Nat) : (A5_1 w h).heap.size = w.heap.size + 1 + 1 := by unfold A5_1; rw [World.size_alloc, A5_0_size]
theorem A5_up0 {w : World} {h i : Nat} {cs : Array Value} {T : TypeId} (b : Box (A5_0 w h) i cs T) : Box (A5_1 w h) i cs T := Box.alloc b _
end Go.Proofs.Ytjlndibeaklcdaa
