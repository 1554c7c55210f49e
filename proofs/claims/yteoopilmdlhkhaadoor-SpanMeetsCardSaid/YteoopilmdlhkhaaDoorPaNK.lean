/- Texts of several names, of which only what the statement needs is kept. -/
import Derived.Test.YteoopilmdlhkhaaDoorPaNB
import Derived.Test.YteoopilmdlhkhaaDoorPaSW
import Derived.Test.YteoopilmdlhkhaaDoorPaSAlive
import Derived.Test.YteoopilmdlhkhaaDoorProg
import Derived.Shelf.Sort.Plain
import Derived.Sort.OwnSortedInts
import Derived.WalkKit
import Derived.Orders
import Derived.BigQuiet
import Derived.StillTailTactics
/- The contract of slices.Sort at []int in this program, out of the library's own (laid by lay-shelf.mjs and lay-plain.mjs; the numbers by name). No condition but on lengths. -/
set_option linter.unusedSimpArgs false
set_option linter.unusedVariables false
namespace Go.Proofs.YteoopilmdlhkhaaDoor
open Go.Shelf Go.Sort Go.RowKit
end Go.Proofs.YteoopilmdlhkhaaDoor
namespace Go.Proofs.YteoopilmdlhkhaaDoor
open Go.RowKit

theorem order_len {f : FunV} {l : List Int} (hok : FlowOk f) (h1 : 1 ≤ f.blocks.length) (h : OrderOf f l) : l.length ≤ 40 := by
  obtain ⟨m, x, h, rfl⟩ := h
  have := dfs_len hok h1 h
  have := hok.1
  rw [List.length_reverse]
  omega
end Go.Proofs.YteoopilmdlhkhaaDoor

/- The contracts of the reference's Size and SameEdges of layer 5, and of the statements' own question whether a program isn't asked about. Condition: no slice of the program is longer than any machine's memory. -/
set_option linter.unusedSimpArgs false
set_option linter.unusedVariables false
namespace Go.Proofs.YteoopilmdlhkhaaDoor
open Go.RowKit

end Go.Proofs.YteoopilmdlhkhaaDoor
namespace Go.Proofs.YteoopilmdlhkhaaDoor
open Go.RowKit

end Go.Proofs.YteoopilmdlhkhaaDoor
namespace Go.Proofs.YteoopilmdlhkhaaDoor
open Go.RowKit

theorem mem_edgesN {f : FunV} {a : Nat} {v : Int} (ha : a < f.blocks.length) : ((a : Int), v) ∈ edgesN f ↔ v ∈ nxt f a := by
  unfold edgesN edgesTo
  simp only [List.mem_flatMap, List.mem_map, List.mem_range, Prod.mk.injEq]
  constructor
  · rintro ⟨i, -, u, hu, h1, rfl⟩
    have : i = a := by omega
    subst this
    exact hu
  · intro h
    exact ⟨a, ha, v, h, rfl, rfl⟩
theorem mem_prevN {f : FunV} {a : Nat} {z : Int} (ha : a < f.blocks.length) : (a : Int) ∈ prevN f z ↔ z ∈ nxt f a := by
  rw [← mem_edgesN ha]
  unfold prevN
  simp only [List.mem_map, List.mem_filter, beq_iff_eq]
  constructor
  · rintro ⟨⟨x, y⟩, ⟨h1, rfl⟩, rfl⟩
    exact h1
  · intro h
    exact ⟨_, ⟨h, rfl⟩, rfl⟩
section
variable {α : Type} {l : List α} {z y : α} {k : Nat}
end
end Go.Proofs.YteoopilmdlhkhaaDoor
