/- Texts of several names, of which only what the statement needs is kept. -/
import Derived.Test.YtkilfejcohnceaaPaQC
import Derived.Test.YtkilfejcohnceaaPaQA
import Derived.Maps.OwnSet
/- Layer 16: the last of those that have registers; going to a slot. Condition: no more than 48 spans. -/
set_option linter.unusedSimpArgs false
set_option linter.unusedVariables false
namespace Go.Proofs.Ytkilfejcohnceaa
open Go.RowKit

/-- All blocks but g are as they were. -/
def But16 (g : Nat) (w w' : World) : Prop := w.heap.size ≤ w'.heap.size ∧ ∀ b, b < w.heap.size → b ≠ g → w'.heap[b]? = w.heap[b]?
theorem But16.below {g : Nat} {w w' : World} (h : Below w.heap.size w w') : But16 g w w' := ⟨h.size, fun b hb _ => h.block b hb⟩
theorem But16.trans {g : Nat} {a b c : World} (h1 : But16 g a b) (h2 : But16 g b c) : But16 g a c := ⟨Nat.le_trans h1.1 h2.1, fun x hx hg => (h2.2 x (Nat.lt_of_lt_of_le hx h1.1) hg).trans (h1.2 x hx hg)⟩
theorem But16.box {g h : Nat} {w w' : World} {c : Array Value} {T : TypeId} (k : But16 g w w') (b : Box w h c T) (hg : h ≠ g) : Box w' h c T := (k.2 h b.lt hg).trans b
def LcOk (ls : List LcV) : Prop := ∀ x ∈ ls, i64R x.k ∧ i64R x.n
theorem lcs_of_box {w : World} {g n c : Nat} {ls : List LcV} {T : TypeId} (b : Box w g (lcsA ls) T) (hr : LcOk ls) (hn : ls.length = n) (hc : n ≤ c) (hm : c ≤ 1000000) : LcsV w (· < w.heap.size) (.slice (some ⟨g, 0, none⟩) n c) ls := by
  subst hn
  refine ⟨_, _, rfl, hc, by omega, fun hp => ⟨g, 0, rfl, b.lt, fun j x hj => ?_⟩⟩
  have h := b.lc hj
  rw [Nat.zero_add]
  exact ⟨⟨h.1.1, h.2.1⟩, hr x (List.mem_of_getElem? hj)⟩
end Go.Proofs.Ytkilfejcohnceaa

/- Layer 16: one span gets its location. Condition: no more than 48 spans. -/
set_option linter.unusedSimpArgs false
set_option linter.unusedVariables false
namespace Go.Proofs.Ytkilfejcohnceaa
open Go.RowKit

theorem LcOk.set {ls : List LcV} (h : LcOk ls) (j : Nat) {x : LcV} (hx : i64R x.k ∧ i64R x.n) : LcOk (ls.set j x) := fun y hy => by
  rcases List.mem_or_eq_of_mem_set hy with h1 | h1
  · exact h y h1
  · subst h1; exact hx
theorem LcOk.at' {ls : List LcV} (h : LcOk ls) (j : Nat) : i64R (lcAt ls j).k ∧ i64R (lcAt ls j).n := by
  by_cases hj : j < ls.length
  · exact h _ (List.mem_of_getElem? (lcAt_some hj))
  · rw [lcAt_out (by omega)]
    exact ⟨⟨by simp, by simp⟩, by simp, by simp⟩
end Go.Proofs.Ytkilfejcohnceaa

/- Layer 16: are spans as they must be. Condition: no more than 10^12 of them. -/
set_option linter.unusedSimpArgs false
set_option linter.unusedVariables false
namespace Go.Proofs.Ytkilfejcohnceaa
open Go.RowKit Go.Maps

def litZ (k : Int) : Lit := .int .i64 k
/-- Block b is a map of at most n entries, just the numbers of T. -/
def SetZ (w : World) (b n : Nat) (T : Int → Bool) : Prop := ∃ D, w.ownsMap Try.prog 3 (unitElem (H := Unit)) b n D ∧ ∀ k : Int, i64R k → Maps.has D (litZ k) = T k
theorem SetZ.start (w : World) : SetZ (w.alloc (.map #[] 0)) w.heap.size 0 (fun _ => false) := ⟨.map [], World.ownsMap_made _ _ _ _, fun k _ => rfl⟩
theorem SetZ.kept {w w' : World} {b n : Nat} {T : Int → Bool} (h : SetZ w b n T) (hb : w'.heap[b]? = w.heap[b]?) : SetZ w' b n T := by
  obtain ⟨D, ⟨es, clock, h1, h2, h3, h4⟩, hT⟩ := h
  exact ⟨D, ⟨es, clock, hb.trans h1, h2, h3, h4⟩, hT⟩
theorem SetZ.lt {w : World} {b n : Nat} {T : Int → Bool} (h : SetZ w b n T) : b < w.heap.size := by
  obtain ⟨D, ⟨es, clock, h1, -⟩, -⟩ := h
  exact (Array.getElem?_eq_some_iff.1 h1).1
theorem SetZ.below {w w' : World} {b n : Nat} {T : Int → Bool} (h : SetZ w b n T) (hb : Below w.heap.size w w') : SetZ w' b n T := h.kept (hb.block b h.lt)
end Go.Proofs.Ytkilfejcohnceaa

/- Layer 16: Scan, Slots, the fixed fact. Condition: no more than 10^12 spans. -/
set_option linter.unusedSimpArgs false
set_option linter.unusedVariables false
namespace Go.Proofs.Ytkilfejcohnceaa
open Go.RowKit

theorem mkz_run (t e : TypeId) {z : Value} {sz bytes : Nat} (ht : Try.prog.underlying t = some (.slice e)) (hi : (Try.prog.info? e).map (fun i => (i.zero, i.size, i.bytes)) = some (some z, sz, bytes)) (hb : bytes ≤ 1000) (m : Nat) (hm : m ≤ 1000) (W : World) :
    (Instr.makeSlice t (.int .i64 (m : Int)) (.int .i64 (m : Int))).run Try.prog W = .ok (.slice (some ⟨W.heap.size, 0, none⟩) m m) (W.alloc (.cells (madeCells z.cells (m * sz)) e)) := by
  obtain ⟨i0, hi0, hz0, hz1, hz2⟩ := info_parts hi
  have hmul : i0.bytes * m ≤ 1000 * 1000 := by rw [hz2]; exact Nat.mul_le_mul hb hm
  have h := run_make (P := Try.prog) W t e i0 z ht hi0 hz0 .i64 .i64 (m : Int) (m : Int) (by omega) (by omega) (by rw [← Int.natCast_mul]; omega) (by omega)
  rw [hz1, Int.toNat_natCast] at h
  exact h
end Go.Proofs.Ytkilfejcohnceaa

/- Layer 16, the reference: Scan. Condition: no more than 10^12 spans. -/
set_option linter.unusedSimpArgs false
set_option linter.unusedVariables false
namespace Go.Proofs.Ytkilfejcohnceaa
open Go.RowKit

def intsA (zs : List Int) : Array Value := (zs.map (Value.int .i64)).toArray
theorem Box.it {w : World} {g : Nat} {zs : List Int} {T : TypeId} (b : Box w g (intsA zs) T) {j : Nat} {z : Int} (hj : zs[j]? = some z) : w.cell? ⟨g, j, none⟩ = some (.int .i64 z) ∧ w.frozen? ⟨g, j, none⟩ = false :=
  b.cell j (by unfold intsA; rw [List.getElem?_toArray, List.getElem?_map, hj]; rfl)
theorem Box.itSet {w : World} {g : Nat} {zs : List Int} {T : TypeId} (b : Box w g (intsA zs) T) (j : Nat) (z : Int) : Box (w.setCell ⟨g, j, none⟩ (.int .i64 z)) g (intsA (zs.set j z)) T := by
  have h := b.set j (.int .i64 z)
  unfold intsA at h ⊢
  rwa [List.setIfInBounds_toArray, ← List.map_set] at h
theorem madeCells_int16 (k : Nat) : madeCells (Value.int .i64 0).cells (k * 1) = intsA (List.replicate k 0) := by
  unfold madeCells intsA
  apply Array.ext
  · simp
  · intro i h1 h2
    simp [Value.cells, Nat.mod_one]
end Go.Proofs.Ytkilfejcohnceaa
