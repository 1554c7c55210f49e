/- Texts of several names, of which only what the statement needs is kept. -/
import Derived.Test.YteoopilmdlhkhaaDoorPaQC
import Derived.Maps.OwnSet
/- Layer 16: the last of those that have registers; going to a slot. Condition: no more than 48 spans. -/
set_option linter.unusedSimpArgs false
set_option linter.unusedVariables false
namespace Go.Proofs.YteoopilmdlhkhaaDoor
open Go.RowKit

/-- All blocks but g are as they were. -/
def But16 (g : Nat) (w w' : World) : Prop := w.heap.size ≤ w'.heap.size ∧ ∀ b, b < w.heap.size → b ≠ g → w'.heap[b]? = w.heap[b]?
theorem But16.below {g : Nat} {w w' : World} (h : Below w.heap.size w w') : But16 g w w' := ⟨h.size, fun b hb _ => h.block b hb⟩
theorem But16.trans {g : Nat} {a b c : World} (h1 : But16 g a b) (h2 : But16 g b c) : But16 g a c := ⟨Nat.le_trans h1.1 h2.1, fun x hx hg => (h2.2 x (Nat.lt_of_lt_of_le hx h1.1) hg).trans (h1.2 x hx hg)⟩
theorem But16.box {g h : Nat} {w w' : World} {c : Array Value} {T : TypeId} (k : But16 g w w') (b : Box w h c T) (hg : h ≠ g) : Box w' h c T := (k.2 h b.lt hg).trans b
theorem SpsV.wide {w : World} {B : Nat} {v : Value} {ss : List SpV} (h : SpsV w (· < B) v ss) (hB : B ≤ w.heap.size) : SpsV w (· < w.heap.size) v ss := h.keep (fun _ _ _ => rfl) (fun b hb => Nat.lt_of_lt_of_le hb hB)
def LcOk (ls : List LcV) : Prop := ∀ x ∈ ls, i64R x.k ∧ i64R x.n
end Go.Proofs.YteoopilmdlhkhaaDoor

/- Layer 16: one span gets its location. Condition: no more than 48 spans. -/
set_option linter.unusedSimpArgs false
set_option linter.unusedVariables false
namespace Go.Proofs.YteoopilmdlhkhaaDoor
open Go.RowKit

theorem LcOk.set {ls : List LcV} (h : LcOk ls) (j : Nat) {x : LcV} (hx : i64R x.k ∧ i64R x.n) : LcOk (ls.set j x) := fun y hy => by
  rcases List.mem_or_eq_of_mem_set hy with h1 | h1
  · exact h y h1
  · subst h1; exact hx
theorem LcOk.at' {ls : List LcV} (h : LcOk ls) (j : Nat) : i64R (lcAt ls j).k ∧ i64R (lcAt ls j).n := by
  by_cases hj : j < ls.length
  · exact h _ (List.mem_of_getElem? (lcAt_some hj))
  · rw [lcAt_out (by omega)]
    exact ⟨⟨by simp, by simp⟩, by simp, by simp⟩
end Go.Proofs.YteoopilmdlhkhaaDoor

/- Layer 16: are spans as they must be. Condition: no more than 10^12 of them. -/
set_option linter.unusedSimpArgs false
set_option linter.unusedVariables false
namespace Go.Proofs.YteoopilmdlhkhaaDoor
open Go.RowKit Go.Maps

def litZ (k : Int) : Lit := .int .i64 k
/-- Block b is a map of at most n entries, just the numbers of T. -/
def SetZ (w : World) (b n : Nat) (T : Int → Bool) : Prop := ∃ D, w.ownsMap Tryd.prog 3 (unitElem (H := Unit)) b n D ∧ ∀ k : Int, i64R k → Maps.has D (litZ k) = T k
theorem SetZ.start (w : World) : SetZ (w.alloc (.map #[] 0)) w.heap.size 0 (fun _ => false) := ⟨.map [], World.ownsMap_made _ _ _ _, fun k _ => rfl⟩
theorem SetZ.kept {w w' : World} {b n : Nat} {T : Int → Bool} (h : SetZ w b n T) (hb : w'.heap[b]? = w.heap[b]?) : SetZ w' b n T := by
  obtain ⟨D, ⟨es, clock, h1, h2, h3, h4⟩, hT⟩ := h
  exact ⟨D, ⟨es, clock, hb.trans h1, h2, h3, h4⟩, hT⟩
theorem SetZ.lt {w : World} {b n : Nat} {T : Int → Bool} (h : SetZ w b n T) : b < w.heap.size := by
  obtain ⟨D, ⟨es, clock, h1, -⟩, -⟩ := h
  exact (Array.getElem?_eq_some_iff.1 h1).1
theorem SetZ.below {w w' : World} {b n : Nat} {T : Int → Bool} (h : SetZ w b n T) (hb : Below w.heap.size w w') : SetZ w' b n T := h.kept (hb.block b h.lt)
end Go.Proofs.YteoopilmdlhkhaaDoor
