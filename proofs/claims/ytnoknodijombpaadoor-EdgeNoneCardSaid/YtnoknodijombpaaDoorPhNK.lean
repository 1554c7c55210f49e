/- The contracts of the reference's Size and SameEdges of layer 5, and of the statements' own question whether a program isn't asked about. Condition: no slice of the program is longer than any machine's memory. -/
import Derived.Test.YtnoknodijombpaaDoorPhNB
import Derived.Test.YtnoknodijombpaaDoorPhMR
import Derived.Test.YtnoknodijombpaaDoorPhSAlive
import Derived.Test.YtnoknodijombpaaDoorPhNC
set_option linter.unusedSimpArgs false
set_option linter.unusedVariables false
namespace Go.Proofs.YtnoknodijombpaaDoor
open Go.RowKit

end Go.Proofs.YtnoknodijombpaaDoor
namespace Go.Proofs.YtnoknodijombpaaDoor
open Go.RowKit

end Go.Proofs.YtnoknodijombpaaDoor
namespace Go.Proofs.YtnoknodijombpaaDoor
open Go.RowKit

theorem mem_edgesN {f : FunV} {a : Nat} {v : Int} (ha : a < f.blocks.length) : ((a : Int), v) ∈ edgesN f ↔ v ∈ nxt f a := by
  unfold edgesN edgesTo
  simp only [List.mem_flatMap, List.mem_map, List.mem_range, Prod.mk.injEq]
  constructor
  · rintro ⟨i, -, u, hu, h1, rfl⟩
    have : i = a := by omega
    subst this
    exact hu
  · intro h
    exact ⟨a, ha, v, h, rfl, rfl⟩
theorem mem_prevN {f : FunV} {a : Nat} {z : Int} (ha : a < f.blocks.length) : (a : Int) ∈ prevN f z ↔ z ∈ nxt f a := by
  rw [← mem_edgesN ha]
  unfold prevN
  simp only [List.mem_map, List.mem_filter, beq_iff_eq]
  constructor
  · rintro ⟨⟨x, y⟩, ⟨h1, rfl⟩, rfl⟩
    exact h1
  · intro h
    exact ⟨_, ⟨h, rfl⟩, rfl⟩
section
variable {α : Type} {l : List α} {z y : α} {k : Nat}
end
end Go.Proofs.YtnoknodijombpaaDoor
