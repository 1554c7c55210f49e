/- Plain mathematics: what a walk reaches. Condition: what comes next is there. -/
import Derived.Test.YthbnbaikdcfbmaaGreatDoorPmNB
import Derived.Test.YthbnbaikdcfbmaaGreatDoorPmNC
import Derived.Shelf.Sort.Plain
import Derived.Sort.OwnSortedInts
set_option linter.unusedSimpArgs false
set_option linter.unusedVariables false
namespace Go.Proofs.YthbnbaikdcfbmaaGreatDoor
open Go.RowKit
theorem jnd {m : List Bool} {c x : Int} (hc : 0 <= c) (hcl : c < m.length) (hx : 0 <= x) : metB (meet m c) x = true ↔ metB m x = true \/ x = c := by
 unfold metB meet
 by_cases h : x = c
 ·subst h
  rw [List.getD_eq_getElem?_getD, List.getElem?_set_self (by omega)]
  simp
 ·have hne : c.toNat ≠ x.toNat := by omega
  rw [List.getD_eq_getElem?_getD, List.getElem?_set_ne hne, <- List.getD_eq_getElem?_getD]
  simp [h]
theorem jne (n : Nat) (x : Int) : metB (List.replicate n false) x = false := by
 unfold metB
 simp [List.getD, List.getElem?_replicate]
 split <;> rfl
theorem jhu {l : List Int} {k : Nat} {y : Int} (h : l[k]? = some y) : l.take (k + 1) = l.take k ++ [y] := by rw [List.take_add_one, h]; rfl
structure But (g : Nat) (w w' : World) : Prop where
 os : w'.os = w.os
 tape : w'.tape = w.tape
 output : w'.output = w.output
 size : w.heap.size <= w'.heap.size
 block : ∀ k, k < w.heap.size -> k ≠ g -> w'.heap[k]? = w.heap[k]?
theorem But.refl (g : Nat) (w : World) : But g w w := ⟨rfl, rfl, rfl, Nat.le_refl _, fun _ _ _ => rfl⟩
theorem But.set {g : Nat} {w w1 : World} (h : But g w w1) {j : Nat} {v : Value} : But g w (w1.setCell ⟨g, j, none⟩ v) :=
 ⟨h.os, h.tape, h.output, by rw [World.size_setCell]; exact h.size, fun k hk hg => (heap_setCell_other w1 ⟨g, j, none⟩ k v hg).trans (h.block k hk hg)⟩
theorem But.below {g B : Nat} {w0 w w1 : World} (h : But g w w1) (hb : Below B w0 w) (hg : B <= g) (hB : B <= w.heap.size) : Below B w0 w1 := hb.trans ⟨h.os, h.tape, h.output, h.size, fun k hk => h.block k (by omega) (by omega)⟩
theorem But.box {g k : Nat} {w w1 : World} {cs : Array Value} {T : TypeId} (h : But g w w1) (b : Box w k cs T) (hk : k ≠ g) : Box w1 k cs T := (h.block k b.lt hk).trans b
theorem But.sl {g B : Nat} {w w1 : World} {A : Option Addr} {zs : List Int} (h : But g w w1) (hs : Sl w B .i64 A zs) (hB : B <= w.heap.size) (hA : ∀ b o, A = some ⟨b, o, none⟩ -> b ≠ g) : Sl w1 B .i64 A zs := fun hp => by
 obtain ⟨b, o, e, hb, hc⟩ := hs hp
 exact ⟨b, o, e, hb, fun j hj => (World.cell?_of_block (a := ⟨b, o + j, none⟩) (h.block b (by omega) (hA b o e))).trans (hc j hj)⟩
def MB (w : World) (bm : Nat) (m : List Bool) : Prop := Box w bm (m.map Value.bool).toArray 4
theorem MB.cell {w : World} {bm : Nat} {m : List Bool} {b : Nat} (h : MB w bm m) (hb : b < m.length) : w.cell? ⟨bm, b, none⟩ = some (.bool (metB m (b : Int))) /\ w.frozen? ⟨bm, b, none⟩ = false :=
 Box.cell h b (by simp [metB, List.getD_eq_getElem?_getD, List.getElem?_eq_getElem hb])
theorem MB.set {w : World} {bm : Nat} {m : List Bool} (h : MB w bm m) (y : Nat) : MB (w.setCell ⟨bm, y, none⟩ (.bool true)) bm (m.set y true) := by
 have := Box.set h y (.bool true)
 unfold MB
 simpa [List.map_set] using this
theorem jr2 {m : List Bool} {x : Nat} (h : metB m x = true) : x < m.length := by
 apply Classical.byContradiction; intro hc
 unfold metB at h
 rw [Int.toNat_natCast, List.getD_eq_getElem?_getD, List.getElem?_eq_none (by omega)] at h
 cases h
theorem meet_old {m : List Bool} {y : Nat} (h : metB m y = true) : m.set y true = m := by
 have hl := jr2 h
 unfold metB at h
 rw [Int.toNat_natCast, List.getD_eq_getElem?_getD, List.getElem?_eq_getElem hl] at h
 simp only [Option.getD_some] at h
 apply List.ext_getElem (by simp)
 intro i h1 h2
 rw [List.getElem_set]
 split
 ·rename_i e; subst e; exact h.symm
 ·rfl
def Pth (f : FunV) (a b : Int) : Prop := ∀ P : Int -> Prop, P a -> (∀ x : Nat, P x -> ∀ v ∈ nxt f x, P v) -> P b
theorem Pth.refl (f : FunV) (a : Int) : Pth f a a := fun _ h _ => h
theorem Pth.trans {f : FunV} {a b c : Int} (h : Pth f a b) (h' : Pth f b c) : Pth f a c := fun P ha hs => h' P (h P ha hs) hs
theorem Pth.step {f : FunV} {a b : Int} (h0 : 0 <= a) (h : b ∈ nxt f a.toNat) : Pth f a b := fun P ha hs => by
 obtain ⟨n, rfl⟩ : ∃ n : Nat, a = n := ⟨a.toNat, by omega⟩
 exact hs n ha b h
theorem jf6 (n : Nat) : madeCells (Value.int .i64 0).cells (n * 1) = ((List.replicate n (0 : Int)).map (Value.int .i64)).toArray := by
 unfold madeCells
 apply Array.ext
 ·simp
 ·intro i h1 h2
  simp [Value.cells, Nat.mod_one]
end Go.Proofs.YthbnbaikdcfbmaaGreatDoor
