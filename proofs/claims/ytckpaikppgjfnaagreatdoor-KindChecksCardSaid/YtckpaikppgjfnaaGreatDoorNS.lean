/- The contract of slices.Sort at []int in this program, out of the library's own (laid by lay-shelf.mjs and lay-plain.mjs; the numbers by name). No condition but on lengths. -/
import Derived.Shelf.Sort.Plain
import Derived.Test.YtckpaikppgjfnaaGreatDoorProg
import Derived.Test.YtckpaikppgjfnaaGreatDoorNB
import Derived.Sort.OwnSortedInts
set_option linter.unusedSimpArgs false
set_option linter.unusedVariables false
namespace Go.Proofs.YtckpaikppgjfnaaGreatDoor
open Go.Shelf Go.Sort Go.RowKit
end Go.Proofs.YtckpaikppgjfnaaGreatDoor
namespace Go.Proofs.YtckpaikppgjfnaaGreatDoor
open Go.RowKit

def sortL (l : List Int) : List Int := l.mergeSort fun x y => decide (x ≤ y)
theorem sortL_len (l : List Int) : (sortL l).length = l.length := List.length_mergeSort l
theorem order_pos {f : FunV} {l : List Int} (h1 : 1 ≤ f.blocks.length) (h : OrderOf f l) : 0 < l.length := by
  obtain ⟨m, x, h, rfl⟩ := h
  rw [List.length_reverse]
  cases h with
  | old hm _ =>
    unfold metB at hm
    simp [List.getD, List.getElem?_replicate] at hm
    split at hm <;> simp at hm
  | new _ _ h2 =>
    cases h2
    simp
theorem order_len {f : FunV} {l : List Int} (hok : FlowOk f) (h1 : 1 ≤ f.blocks.length) (h : OrderOf f l) : l.length ≤ 40 := by
  obtain ⟨m, x, h, rfl⟩ := h
  have := dfs_len hok h1 h
  have := hok.1
  rw [List.length_reverse]
  omega
end Go.Proofs.YtckpaikppgjfnaaGreatDoor
