/- Layer 13, the program: a list of edges without those that a closure names: slices.IndexFunc, slices.DeleteFunc; counts in memory. No condition but on lengths. -/
import Derived.Test.YtkilfejcohnceaaPaDC
import Derived.Laws.CopyOwn
set_option linter.unusedSimpArgs false
set_option linter.unusedVariables false
namespace Go.Proofs.Ytkilfejcohnceaa
open Go.RowKit

/-- All blocks but the own one are as they were. -/
structure FrG (own : Option Nat) (w w' : World) : Prop where
  os : w'.os = w.os
  tape : w'.tape = w.tape
  output : w'.output = w.output
  size : w.heap.size ≤ w'.heap.size
  block : ∀ k, k < w.heap.size → own ≠ some k → w'.heap[k]? = w.heap[k]?
section
variable {own : Option Nat} {w w1 w2 : World}
theorem FrG.refl (own : Option Nat) (w : World) : FrG own w w := ⟨rfl, rfl, rfl, Nat.le_refl _, fun _ _ _ => rfl⟩
theorem FrG.of_below (h : Below w.heap.size w w1) : FrG own w w1 := ⟨h.os, h.tape, h.output, h.size, fun k hk _ => h.block k hk⟩
theorem FrG.trans (h : FrG own w w1) (h2 : FrG own w1 w2) : FrG own w w2 := ⟨h2.os.trans h.os, h2.tape.trans h.tape, h2.output.trans h.output, Nat.le_trans h.size h2.size, fun k hk ho => (h2.block k (Nat.lt_of_lt_of_le hk h.size) ho).trans (h.block k hk ho)⟩
theorem FrG.set {g o : Nat} {v : Value} (h : FrG (some g) w w1) : FrG (some g) w (w1.setCell ⟨g, o, none⟩ v) := ⟨h.os, h.tape, h.output, by rw [World.size_setCell]; exact h.size, fun k hk ho => (heap_setCell_other w1 ⟨g, o, none⟩ k v (fun e => ho (by rw [e]))).trans (h.block k hk ho)⟩
theorem FrG.below {base : Nat} (h : FrG own w w1) (hb : base ≤ w.heap.size) (hg : ∀ g, own = some g → base ≤ g) : Below base w w1 := ⟨h.os, h.tape, h.output, h.size, fun k hk => h.block k (by omega) (fun e => by have := hg k e; omega)⟩
theorem FrG.box {k : Nat} {cs : Array Value} {T : TypeId} (h : FrG own w w1) (b : Box w k cs T) (hk : own ≠ some k) : Box w1 k cs T := (h.block k b.lt hk).trans b
end
/-- n counts in a block. -/
def CntM (w : World) (g n : Nat) (F : Nat → Nat) : Prop := Box w g ((List.range n).map fun a => Value.int .i64 ((F a : Nat) : Int)).toArray 3
theorem CntM.cell {w : World} {g n k : Nat} {F : Nat → Nat} (h : CntM w g n F) (hk : k < n) : w.cell? ⟨g, k, none⟩ = some (.int .i64 (F k : Int)) ∧ w.frozen? ⟨g, k, none⟩ = false :=
  Box.cell h k (by simp [hk])
theorem CntM.set {w : World} {g n k m : Nat} {F G : Nat → Nat} (h : CntM w g n F) (hG : ∀ a, a < n → G a = if a = k then m else F a) : CntM (w.setCell ⟨g, k, none⟩ (.int .i64 (m : Int))) g n G := by
  have t := Box.set h k (.int .i64 (m : Int))
  unfold CntM
  have e : ((List.range n).map fun a => Value.int .i64 ((F a : Nat) : Int)).toArray.setIfInBounds k (.int .i64 (m : Int)) = ((List.range n).map fun a => Value.int .i64 ((G a : Nat) : Int)).toArray := by
    rw [List.setIfInBounds_toArray]
    congr 1
    refine List.ext_getElem? fun j => ?_
    rw [List.getElem?_set, List.getElem?_map, List.getElem?_map]
    by_cases hj : j < n
    · rw [List.getElem?_range hj]
      by_cases e : k = j
      · subst e
        simp [hj, hG k hj]
      · rw [if_neg e]
        have e2 : ¬ j = k := fun h => e h.symm
        simp [hG j hj, e2]
    · have h1 : (List.range n)[j]? = none := List.getElem?_eq_none (by simp; omega)
      rw [h1]
      split
      · simp
        omega
      · rfl
  rw [e] at t
  exact t
theorem CntM.zero {w : World} {g n : Nat} {mc : Array Value} (hmc : mc = (List.replicate n (Value.int .i64 0)).toArray) (h : Box w g mc 3) : CntM w g n fun _ => 0 := by
  unfold CntM
  have e : (List.range n).map (fun _ => Value.int .i64 (((0 : Nat)) : Int)) = List.replicate n (Value.int .i64 0) := by
    rw [List.map_const']
    simp
  rw [e, ← hmc]
  exact h
/-- What is kept among the first b edges stands in front. -/
structure DelI (q : Int × Int → Bool) (es : List (Int × Int)) (n a b : Nat) (ys : List (Int × Int)) : Prop where
  len : ys.length = n
  lt : a < b
  front : ys.take a = (es.take b).filter (fun e => !q e)
  rest : ∀ t, b ≤ t → ys[t]? = es[t]?
section
variable {q : Int × Int → Bool} {es : List (Int × Int)} {n a b : Nat} {ys : List (Int × Int)} {e : Int × Int}
theorem DelI.start {i : Nat} (hn : es.length = n) (h0 : ∀ j, j < i → ∀ e, es[j]? = some e → q e = false) (he : es[i]? = some e) (hq : q e = true) : DelI q es n i (i + 1) es := by
  refine ⟨hn, by omega, ?_, fun _ _ => rfl⟩
  rw [List.take_add_one, he, List.filter_append, List.filter_eq_self.2 (fun x hx => by
    obtain ⟨j, hj⟩ := List.getElem?_of_mem hx
    rw [List.getElem?_take] at hj
    split at hj
    · rename_i h
      rw [h0 j h x hj]; rfl
    · cases hj)]
  simp [hq]
theorem DelI.skip (h : DelI q es n a b ys) (he : es[b]? = some e) (hq : q e = true) : DelI q es n a (b + 1) ys := by
  refine ⟨h.len, by have := h.lt; omega, ?_, fun t ht => h.rest t (by omega)⟩
  rw [h.front, List.take_add_one, he, List.filter_append]
  simp [hq]
theorem DelI.keep (h : DelI q es n a b ys) (he : es[b]? = some e) (hq : q e = false) (hb : b < n) : DelI q es n (a + 1) (b + 1) (ys.set a e) := by
  have hal : a < ys.length := by have := h.len; have := h.lt; omega
  refine ⟨by rw [List.length_set, h.len], by have := h.lt; omega, ?_, fun t ht => ?_⟩
  · rw [List.take_add_one, List.getElem?_set, if_pos rfl, if_pos hal, List.take_set_of_le (Nat.le_refl _), h.front, List.take_add_one, he, List.filter_append]
    simp [hq]
  · rw [List.getElem?_set, if_neg (by have := h.lt; omega)]
    exact h.rest t (by omega)
theorem DelI.done (h : DelI q es n a b ys) (hb : es.length ≤ b) : ys.take a = es.filter (fun e => !q e) := by rw [h.front, List.take_of_length_le hb]
end
end Go.Proofs.Ytkilfejcohnceaa
