/- The contracts of the reference's Size and SameEdges of layer 5, and of the statements' own question whether a program isn't asked about. Condition: no slice of the program is longer than any machine's memory. -/
import Derived.Test.YtckpaikppgjfnaaGreatDoorFL
import Derived.Test.YtckpaikppgjfnaaGreatDoorNC
set_option linter.unusedSimpArgs false
set_option linter.unusedVariables false
namespace Go.Proofs.YtckpaikppgjfnaaGreatDoor
open Go.RowKit

end Go.Proofs.YtckpaikppgjfnaaGreatDoor
namespace Go.Proofs.YtckpaikppgjfnaaGreatDoor
open Go.RowKit

theorem nxtI_R {f : FunV} (hok : FlowOk f) (z : Int) : ∀ v ∈ nxtI f z, i64R v := by
  unfold nxtI
  split
  · exact nxt_R hok _
  · intro v hv; cases hv
theorem prevN_R {f : FunV} (hok : FlowOk f) (z : Int) : ∀ v ∈ prevN f z, i64R v := by
  intro v hv
  unfold prevN edgesN edgesTo at hv
  simp only [List.mem_map, List.mem_filter, List.mem_flatMap, List.mem_range] at hv
  obtain ⟨p, ⟨⟨i, hi, u, -, rfl⟩, -⟩, rfl⟩ := hv
  have := hok.1
  unfold i64R
  simp only
  omega
end Go.Proofs.YtckpaikppgjfnaaGreatDoor
namespace Go.Proofs.YtckpaikppgjfnaaGreatDoor
open Go.RowKit

theorem mem_edgesN {f : FunV} {a : Nat} {v : Int} (ha : a < f.blocks.length) : ((a : Int), v) ∈ edgesN f ↔ v ∈ nxt f a := by
  unfold edgesN edgesTo
  simp only [List.mem_flatMap, List.mem_map, List.mem_range, Prod.mk.injEq]
  constructor
  · rintro ⟨i, -, u, hu, h1, rfl⟩
    have : i = a := by omega
    subst this
    exact hu
  · intro h
    exact ⟨a, ha, v, h, rfl, rfl⟩
theorem mem_prevN {f : FunV} {a : Nat} {z : Int} (ha : a < f.blocks.length) : (a : Int) ∈ prevN f z ↔ z ∈ nxt f a := by
  rw [← mem_edgesN ha]
  unfold prevN
  simp only [List.mem_map, List.mem_filter, beq_iff_eq]
  constructor
  · rintro ⟨⟨x, y⟩, ⟨h1, rfl⟩, rfl⟩
    exact h1
  · intro h
    exact ⟨_, ⟨h, rfl⟩, rfl⟩
section
variable {α : Type} {l : List α} {z y : α} {k : Nat}
theorem take_zero_iff : (false = true ↔ z ∈ l.take 0) := by simp
theorem take_yes (h : true = true ↔ z ∈ l.take k) : (true = true ↔ z ∈ l.take (k + 1)) := by
  have := h.1 rfl
  simp only [true_iff]
  rw [List.take_add_one]
  exact List.mem_append_left _ this
theorem take_hit (hy : l[k]? = some y) (hz : y = z) : (true = true ↔ z ∈ l.take (k + 1)) := by
  simp only [true_iff]
  rw [List.take_add_one, hy, hz]
  simp
theorem take_no (h : false = true ↔ z ∈ l.take k) (hy : l[k]? = some y) (hz : ¬ y = z) : (false = true ↔ z ∈ l.take (k + 1)) := by
  have hn : z ∉ l.take k := fun hm => by have := h.2 hm; cases this
  simp only [Bool.false_eq_true, false_iff]
  rw [List.take_add_one, hy]
  intro hm
  rcases List.mem_append.1 hm with h1 | h1
  · exact hn h1
  · simp at h1; exact hz h1.symm
theorem take_end {b R : Bool} (h : b = true ↔ z ∈ l.take k) (hk : l.length ≤ k) (hR : R = true ↔ z ∈ l) : b = R := by
  rw [List.take_of_length_le hk] at h
  rw [Bool.eq_iff_iff, h, hR]
end
end Go.Proofs.YtckpaikppgjfnaaGreatDoor
