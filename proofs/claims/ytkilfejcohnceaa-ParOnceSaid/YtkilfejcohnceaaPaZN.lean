/- Plain mathematics: what a walk reaches. Condition: what comes next is there. -/
import Derived.Test.YtkilfejcohnceaaPaNB
import Derived.Test.YtkilfejcohnceaaPaNA
import Derived.Test.YtkilfejcohnceaaPaMB
import Derived.Test.YtkilfejcohnceaaPaSB
import Derived.Test.YtkilfejcohnceaaPaNG
import Derived.Test.YtkilfejcohnceaaProg
import Derived.Shelf.Sort.Plain
import Derived.Sort.OwnSortedInts
import Derived.WalkKit
import Derived.Orders
import Derived.StillTailTactics
set_option linter.unusedSimpArgs false
set_option linter.unusedVariables false
namespace Go.Proofs.Ytkilfejcohnceaa

/-- The marks of what is on a list. -/
def markOf (n : Nat) (xs : List Int) : List Bool := (List.range n).map (fun b : Nat => decide ((b : Int) ∈ xs))
theorem markOf_len (n : Nat) (xs : List Int) : (markOf n xs).length = n := by simp [markOf]
theorem markOf_get {n b : Nat} (xs : List Int) (hb : b < n) : (markOf n xs)[b]? = some (decide ((b : Int) ∈ xs)) := by simp [markOf, hb]
theorem markOf_add {n : Nat} {xs : List Int} {y : Int} (h0 : 0 ≤ y) (hy : y < n) : markOf n (xs ++ [y]) = (markOf n xs).set y.toNat true := by
  apply List.ext_getElem?
  intro i
  by_cases hi : i < n
  · rw [markOf_get _ hi]
    by_cases e : y.toNat = i
    · subst e
      rw [List.getElem?_set_self (by rw [markOf_len]; exact hi)]
      have : ((y.toNat : Nat) : Int) = y := by omega
      simp [this]
    · rw [List.getElem?_set_ne e, markOf_get _ hi]
      have : ¬ ((i : Nat) : Int) = y := by omega
      simp [this]
  · rw [List.getElem?_eq_none (by rw [markOf_len]; omega), List.getElem?_eq_none (by rw [List.length_set, markOf_len]; omega)]
end Go.Proofs.Ytkilfejcohnceaa
namespace Go.Proofs.Ytkilfejcohnceaa
open Go.RowKit

/-- All blocks but g are as they were. -/
structure But (g : Nat) (w w' : World) : Prop where
  os : w'.os = w.os
  tape : w'.tape = w.tape
  output : w'.output = w.output
  size : w.heap.size ≤ w'.heap.size
  block : ∀ k, k < w.heap.size → k ≠ g → w'.heap[k]? = w.heap[k]?
theorem But.refl (g : Nat) (w : World) : But g w w := ⟨rfl, rfl, rfl, Nat.le_refl _, fun _ _ _ => rfl⟩
theorem But.set {g : Nat} {w w1 : World} (h : But g w w1) {j : Nat} {v : Value} : But g w (w1.setCell ⟨g, j, none⟩ v) :=
  ⟨h.os, h.tape, h.output, by rw [World.size_setCell]; exact h.size, fun k hk hg => (heap_setCell_other w1 ⟨g, j, none⟩ k v hg).trans (h.block k hk hg)⟩
theorem But.below {g B : Nat} {w0 w w1 : World} (h : But g w w1) (hb : Below B w0 w) (hg : B ≤ g) (hB : B ≤ w.heap.size) : Below B w0 w1 := hb.trans ⟨h.os, h.tape, h.output, h.size, fun k hk => h.block k (by omega) (by omega)⟩
theorem But.box {g k : Nat} {w w1 : World} {cs : Array Value} {T : TypeId} (h : But g w w1) (b : Box w k cs T) (hk : k ≠ g) : Box w1 k cs T := (h.block k b.lt hk).trans b
theorem But.sl {g B : Nat} {w w1 : World} {A : Option Addr} {zs : List Int} (h : But g w w1) (hs : Sl w B .i64 A zs) (hB : B ≤ w.heap.size) (hA : ∀ b o, A = some ⟨b, o, none⟩ → b ≠ g) : Sl w1 B .i64 A zs := fun hp => by
  obtain ⟨b, o, e, hb, hc⟩ := hs hp
  exact ⟨b, o, e, hb, fun j hj => (World.cell?_of_block (a := ⟨b, o + j, none⟩) (h.block b (by omega) (hA b o e))).trans (hc j hj)⟩
def MarkW (w : World) (bm n : Nat) (xs : List Int) : Prop := Box w bm ((markOf n xs).map Value.bool).toArray 4
theorem MarkW.cell {w : World} {bm n b : Nat} {xs : List Int} (h : MarkW w bm n xs) (hb : b < n) : w.cell? ⟨bm, b, none⟩ = some (.bool (decide ((b : Int) ∈ xs))) ∧ w.frozen? ⟨bm, b, none⟩ = false :=
  Box.cell h b (by simp [markOf_get xs hb])
theorem MarkW.add {w : World} {bm n : Nat} {xs : List Int} {y : Nat} (h : MarkW w bm n xs) (hy : y < n) : MarkW (w.setCell ⟨bm, y, none⟩ (.bool true)) bm n (xs ++ [(y : Int)]) := by
  have := Box.set h y (.bool true)
  unfold MarkW
  rw [markOf_add (by omega) (by omega)]
  simpa [List.map_set] using this
end Go.Proofs.Ytkilfejcohnceaa
namespace Go.Proofs.Ytkilfejcohnceaa
open Go.RowKit

def MB (w : World) (bm : Nat) (m : List Bool) : Prop := Box w bm (m.map Value.bool).toArray 4
theorem MB.cell {w : World} {bm : Nat} {m : List Bool} {b : Nat} (h : MB w bm m) (hb : b < m.length) : w.cell? ⟨bm, b, none⟩ = some (.bool (metB m (b : Int))) ∧ w.frozen? ⟨bm, b, none⟩ = false :=
  Box.cell h b (by simp [metB, List.getD_eq_getElem?_getD, List.getElem?_eq_getElem hb])
theorem MB.set {w : World} {bm : Nat} {m : List Bool} (h : MB w bm m) (y : Nat) : MB (w.setCell ⟨bm, y, none⟩ (.bool true)) bm (m.set y true) := by
  have := Box.set h y (.bool true)
  unfold MB
  simpa [List.map_set] using this
end Go.Proofs.Ytkilfejcohnceaa
namespace Go.Proofs.Ytkilfejcohnceaa

/-- A way leads from a to b. -/
def Pth (f : FunV) (a b : Int) : Prop := ∀ P : Int → Prop, P a → (∀ x : Nat, P x → ∀ v ∈ nxt f x, P v) → P b
theorem Pth.refl (f : FunV) (a : Int) : Pth f a a := fun _ h _ => h
theorem Pth.trans {f : FunV} {a b c : Int} (h : Pth f a b) (h' : Pth f b c) : Pth f a c := fun P ha hs => h' P (h P ha hs) hs
theorem Pth.step {f : FunV} {a b : Int} (h0 : 0 ≤ a) (h : b ∈ nxt f a.toNat) : Pth f a b := fun P ha hs => by
  obtain ⟨n, rfl⟩ : ∃ n : Nat, a = n := ⟨a.toNat, by omega⟩
  exact hs n ha b h
def Bef (l : List Int) (v x : Int) : Prop := ∃ s t, l = s ++ x :: t ∧ v ∈ s
theorem Bef.left {l r : List Int} {v x : Int} (h : Bef l v x) : Bef (l ++ r) v x := by
  obtain ⟨s, t, rfl, hv⟩ := h
  exact ⟨s, t ++ r, by simp, hv⟩
def placeN (l : List Int) (y : Int) : Int := if y ∈ l then ((l.idxOf y + 1 : Nat) : Int) else 0
theorem placeN_snoc {l : List Int} {y b : Int} (hy : y ∉ l) : placeN (l ++ [y]) b = if b = y then ((l.length + 1 : Nat) : Int) else placeN l b := by
  by_cases h : b = y
  · subst h
    unfold placeN
    rw [if_pos (by simp), if_pos rfl, List.idxOf_append, if_neg hy]
    simp
  · rw [if_neg h]
    unfold placeN
    by_cases hb : b ∈ l
    · rw [if_pos (by simp [hb]), if_pos hb, List.idxOf_append, if_pos hb]
    · rw [if_neg (by simp [hb, h]), if_neg hb]
def placeOf (n : Nat) (xs : List Int) : List Int := (List.range n).map (fun b : Nat => placeN xs (b : Int))
theorem placeOf_add {n : Nat} {xs : List Int} {y : Nat} (hy : y < n) (hn : (y : Int) ∉ xs) : placeOf n (xs ++ [(y : Int)]) = (placeOf n xs).set y ((xs.length + 1 : Nat) : Int) := by
  apply List.ext_getElem
  · simp [placeOf]
  · intro i h1 h2
    have hi : i < n := by simpa [placeOf] using h1
    rw [List.getElem_set]
    simp only [placeOf, List.getElem_map, List.getElem_range]
    rw [placeN_snoc hn]
    by_cases e : y = i
    · subst e; simp
    · rw [if_neg (by omega), if_neg e]
def PlaceW (w : World) (bp n : Nat) (xs : List Int) : Prop := Box w bp ((placeOf n xs).map (Value.int .i64)).toArray 3
theorem PlaceW.cell {w : World} {bp n b : Nat} {xs : List Int} (h : PlaceW w bp n xs) (hb : b < n) : w.cell? ⟨bp, b, none⟩ = some (.int .i64 (placeN xs (b : Int))) ∧ w.frozen? ⟨bp, b, none⟩ = false :=
  Box.cell h b (by simp [placeOf, hb])
theorem PlaceW.add {w : World} {bp n : Nat} {xs : List Int} {y : Nat} (h : PlaceW w bp n xs) (hy : y < n) (hn : (y : Int) ∉ xs) : PlaceW (w.setCell ⟨bp, y, none⟩ (.int .i64 ((xs.length + 1 : Nat) : Int))) bp n (xs ++ [(y : Int)]) := by
  have := Box.set h y (.int .i64 ((xs.length + 1 : Nat) : Int))
  unfold PlaceW
  rw [placeOf_add hy hn]
  simpa [List.map_set] using this
end Go.Proofs.Ytkilfejcohnceaa
