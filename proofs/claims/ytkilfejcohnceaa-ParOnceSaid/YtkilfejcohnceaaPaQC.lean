/- Layer 16: locations in memory; whether a number is taken, the least that is free. Condition: no more than 48 spans. -/
import Derived.Test.YtkilfejcohnceaaPaQA
import Derived.Test.YtkilfejcohnceaaPaTIL
import Derived.Sort.Grow
import Derived.Deep.Cut
import Derived.Deep.CutRange
import Derived.Deep.CutBlock
import Derived.Deep.LoopGhost
import Derived.BigQuiet
set_option linter.unusedSimpArgs false
set_option linter.unusedVariables false
namespace Go.Proofs.Ytkilfejcohnceaa
open Go.RowKit

def lcC (x : LcV) : List Value := [.int .i64 x.k, .int .i64 x.n]
def lcsA (ls : List LcV) : Array Value := (ls.flatMap lcC).toArray
theorem flat16 {β : Type} {c : β → List Value} {sz : Nat} (hc : ∀ y, (c y).length = sz) : ∀ (l : List β) (j i : Nat) (y : β), l[j]? = some y → i < sz → (l.flatMap c)[j * sz + i]? = (c y)[i]?
  | [], _, _, _, h, _ => by simp at h
  | x :: l, 0, i, y, h, hi => by
    simp at h
    subst h
    rw [List.flatMap_cons, Nat.zero_mul, Nat.zero_add, List.getElem?_append_left (by rw [hc]; exact hi)]
  | x :: l, j + 1, i, y, h, hi => by
    rw [List.flatMap_cons, List.getElem?_append_right (by rw [hc, Nat.add_mul]; omega), hc, show (j + 1) * sz + i - sz = j * sz + i by rw [Nat.add_mul]; omega]
    exact flat16 hc l j i y (by simpa using h) hi
theorem Box.lc {w : World} {g : Nat} {ls : List LcV} {T : TypeId} (b : Box w g (lcsA ls) T) {j : Nat} {x : LcV} (hj : ls[j]? = some x) : (w.cell? ⟨g, j * 2, none⟩ = some (.int .i64 x.k) ∧ w.frozen? ⟨g, j * 2, none⟩ = false) ∧ (w.cell? ⟨g, j * 2 + 1, none⟩ = some (.int .i64 x.n) ∧ w.frozen? ⟨g, j * 2 + 1, none⟩ = false) := by
  have h0 := flat16 (c := lcC) (sz := 2) (fun _ => rfl) ls j 0 x hj (by omega)
  have h1 := flat16 (c := lcC) (sz := 2) (fun _ => rfl) ls j 1 x hj (by omega)
  exact ⟨b.cell (j * 2) (by unfold lcsA; rw [List.getElem?_toArray]; exact h0), b.cell (j * 2 + 1) (by unfold lcsA; rw [List.getElem?_toArray]; exact h1)⟩
theorem lBox {w v : World} {c : Array Value} {T : TypeId} {h : Nat} (e : v = w.alloc (.cells c T)) (f : w.heap.size = h) : Hid (Box v h c T) := by subst e; subst f; exact Box.new w _ _
theorem lBel {w v : World} {o : Obj} (e : v = w.alloc o) : Hid (Below w.heap.size w v) := by subst e; exact alloc1 w _
theorem letr {α : Sort _} (x : α) : ∃ y, y = x := ⟨x, rfl⟩
theorem letl {α : Sort _} (x : α) : ∃ y, x = y := ⟨x, rfl⟩
theorem LcsV.at' {w : World} {b o n c : Nat} {ls : List LcV} (h : LcsV w (· < w.heap.size) (.slice (some ⟨b, o, none⟩) n c) ls) {W : World} (hW : Below w.heap.size w W) {j : Nat} {y : LcV} (hy : ls[j]? = some y) :
    W.cell? ⟨b, o + j * 2, none⟩ = some (.int .i64 y.k) ∧ W.cell? ⟨b, o + j * 2 + 1, none⟩ = some (.int .i64 y.n) ∧ b < W.heap.size := by
  obtain ⟨b', o', e, hb, ⟨h0, h1⟩, -⟩ := h.get hy
  injection e with e
  injection e with e1 e2 e3
  subst e1
  subst e2
  exact ⟨(hW.cell (p := ⟨b, _, none⟩) hb).trans h0, (hW.cell (p := ⟨b, _, none⟩) hb).trans h1, Nat.lt_of_lt_of_le hb hW.size⟩
theorem lB2 {w v : World} {o p : Obj} (e : v = (w.alloc o).alloc p) : Hid (Below w.heap.size w v) := by subst e; exact alloc2 w _ _
theorem lB3 {w v : World} {o p q : Obj} (e : v = ((w.alloc o).alloc p).alloc q) : Hid (Below w.heap.size w v) := by subst e; exact (alloc2 w _ _).alloc (by simp only [World.size_alloc]; omega) _
theorem lX2 {w v : World} {c : Array Value} {T : TypeId} {h : Nat} {o : Obj} (e : v = (w.alloc o).alloc (.cells c T)) (f : w.heap.size = h) : Hid (Box v (h + 1) c T) := by subst e; subst f; have t := Box.new (w.alloc o) c T; simp only [World.size_alloc] at t; exact t
theorem lX3 {w v : World} {c : Array Value} {T : TypeId} {h : Nat} {o p : Obj} (e : v = ((w.alloc o).alloc p).alloc (.cells c T)) (f : w.heap.size = h) : Hid (Box v (h + 1 + 1) c T) := by subst e; subst f; have t := Box.new ((w.alloc o).alloc p) c T; simp only [World.size_alloc] at t; exact t
theorem lY2 {w v : World} {c : Array Value} {T : TypeId} {h : Nat} {o : Obj} (e : v = (w.alloc (.cells c T)).alloc o) (f : w.heap.size = h) : Hid (Box v h c T) := by subst e; subst f; exact (Box.new w _ _).alloc _
theorem lY3 {w v : World} {c : Array Value} {T : TypeId} {h : Nat} {o p : Obj} (e : v = ((w.alloc (.cells c T)).alloc o).alloc p) (f : w.heap.size = h) : Hid (Box v h c T) := by subst e; subst f; exact ((Box.new w _ _).alloc _).alloc _
theorem LcsV.up {w W : World} {v : Value} {ls : List LcV} (h : LcsV w (· < w.heap.size) v ls) (hW : Below w.heap.size w W) : LcsV W (· < W.heap.size) v ls := h.keep (fun b o hb => hW.cell (p := ⟨b, o, none⟩) hb) (fun b hb => Nat.lt_of_lt_of_le hb hW.size)
end Go.Proofs.Ytkilfejcohnceaa
