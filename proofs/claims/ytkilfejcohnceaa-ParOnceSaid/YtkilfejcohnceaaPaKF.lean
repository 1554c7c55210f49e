/- Texts of several names, of which only what the statement needs is kept. -/
import Derived.Test.YtkilfejcohnceaaPaNP
import Derived.Test.YtkilfejcohnceaaPaKA
import Derived.Lib.TrailingZeros
import Derived.Shelf.Spec.TrailingZeros
import Derived.StillTailTactics
/- The contracts of the statements' fixed fact, of great, and of the reference's Same and Words. No condition. -/
set_option linter.unusedSimpArgs false
set_option linter.unusedVariables false
namespace Go.Proofs.Ytkilfejcohnceaa
open Go.RowKit

/-- A slice of integers that is written out, as the call meets it. -/
theorem Sl.lit' (w : World) (e : TypeId) (k : IntKind) (cs : Array Value) (zs : List Int) (h : cs.toList = zs.map (Value.int k)) : Sl (w.alloc (.cells cs e)) (w.alloc (.cells cs e)).heap.size k (some ⟨w.heap.size, 0, none⟩) zs := by
  have := Sl.lit w e k cs zs h
  rwa [show (w.alloc (.cells cs e)).heap.size = w.heap.size + 1 by simp]
end Go.Proofs.Ytkilfejcohnceaa
namespace Go.Proofs.Ytkilfejcohnceaa
open Go.RowKit

end Go.Proofs.Ytkilfejcohnceaa
namespace Go.Proofs.Ytkilfejcohnceaa

end Go.Proofs.Ytkilfejcohnceaa
namespace Go.Proofs.Ytkilfejcohnceaa
open Go.RowKit

/-- The library's table, as its initialiser lays it. -/
def TabW (w : World) : Prop := 0 < w.heap.size ∧ ∀ j, j < 64 → w.cell? ⟨0, j, none⟩ = some (.int .u8 ((Lib.deBruijn64tab.getD j 0 : Nat) : Int))
theorem TabW.below {w w' : World} {B : Nat} (h : TabW w) (hb : Below B w w') (hB : 0 < B) : TabW w' := ⟨by have := h.1; have := hb.size; omega, fun j hj => (hb.cell (p := ⟨0, j, none⟩) hB).trans (h.2 j hj)⟩

end Go.Proofs.Ytkilfejcohnceaa
namespace Go.Proofs.Ytkilfejcohnceaa
open Go.RowKit

end Go.Proofs.Ytkilfejcohnceaa
namespace Go.Proofs.Ytkilfejcohnceaa
open Go.RowKit

end Go.Proofs.Ytkilfejcohnceaa
namespace Go.Proofs.Ytkilfejcohnceaa
open Go.RowKit

end Go.Proofs.Ytkilfejcohnceaa

/- Layer 8, the program: contracts of Step, behind, through, meet, same, arguments, Contains. Condition: the table of parts reads as listed. -/
set_option linter.unusedSimpArgs false
set_option linter.unusedVariables false
namespace Go.Proofs.Ytkilfejcohnceaa
open Go.RowKit

/-- A set that a call has made, as a value: in a block of its own. -/
def WN (W w' : World) (v : Value) (s : List Nat) : Prop := ∃ A c, v = .slice A s.length c ∧ s.length ≤ c ∧ c ≤ 9223372036854775807 ∧ Sl w' w'.heap.size .u64 A (nI s) ∧ ∀ b o, A = some ⟨b, o, none⟩ → W.heap.size ≤ b
theorem WN.below {W w w1 : World} {v : Value} {s : List Nat} (h : WN W w v s) (hb : Below w.heap.size w w1) : WN W w1 v s := by
  obtain ⟨A, c, h1, h2, h3, h4, h5⟩ := h
  exact ⟨A, c, h1, h2, h3, (h4.below hb).more hb.size, h5⟩
theorem WN.lower {W W0 w : World} {v : Value} {s : List Nat} (h : WN W w v s) (hb : W0.heap.size ≤ W.heap.size) : WN W0 w v s := by
  obtain ⟨A, c, h1, h2, h3, h4, h5⟩ := h
  exact ⟨A, c, h1, h2, h3, h4, fun b o e => Nat.le_trans hb (h5 b o e)⟩
/-- A set in memory, as a value. -/
def SetV (w : World) (v : Value) (s : List Nat) : Prop := ∃ A c, v = .slice A s.length c ∧ s.length ≤ c ∧ c ≤ 9223372036854775807 ∧ Sl w w.heap.size .u64 A (nI s)
theorem WN.ws {W w : World} {v : Value} {s : List Nat} (h : WN W w v s) : SetV w v s := let ⟨A, c, h1, h2, h3, h4, _⟩ := h; ⟨A, c, h1, h2, h3, h4⟩
theorem SetV.below {w w1 : World} {v : Value} {s : List Nat} (h : SetV w v s) (hb : Below w.heap.size w w1) : SetV w1 v s := by
  obtain ⟨A, c, h1, h2, h3, h4⟩ := h
  exact ⟨A, c, h1, h2, h3, (h4.below hb).more hb.size⟩
theorem Sl.one (w : World) (H : Nat) (z : Int) (hH : H = w.heap.size) (w' : World) (hw : w' = w.alloc (.cells #[.int .i64 z] 3)) : Sl w' w'.heap.size .i64 (some ⟨H, 0, none⟩) [z] := by
  subst hH
  subst hw
  exact Sl.lit' w 3 .i64 #[.int .i64 z] [z] rfl
end Go.Proofs.Ytkilfejcohnceaa

/- Layer 8, the program: contracts of behind, through, meet, same, arguments, Contains. Condition: the table of parts reads as listed. -/
set_option linter.unusedSimpArgs false
set_option linter.unusedVariables false
namespace Go.Proofs.Ytkilfejcohnceaa
open Go.RowKit

/-- A set in memory, in none of the blocks that are written. -/
def SetM (w : World) (M : Nat → Prop) (v : Value) (s : List Nat) : Prop := ∃ A c, v = .slice A s.length c ∧ s.length ≤ c ∧ c ≤ 9223372036854775807 ∧ Sl w w.heap.size .u64 A (nI s) ∧ ∀ b o, A = some ⟨b, o, none⟩ → 0 < s.length → ¬ M b
theorem SetM.v {w : World} {M : Nat → Prop} {v : Value} {s : List Nat} (h : SetM w M v s) : SetV w v s := let ⟨A, c, h1, h2, h3, h4, _⟩ := h; ⟨A, c, h1, h2, h3, h4⟩
theorem SetM.below {w w1 : World} {M : Nat → Prop} {v : Value} {s : List Nat} (h : SetM w M v s) (hb : Below w.heap.size w w1) : SetM w1 M v s := by
  obtain ⟨A, c, h1, h2, h3, h4, h5⟩ := h
  exact ⟨A, c, h1, h2, h3, (h4.below hb).more hb.size, h5⟩
theorem SetM.nil (w : World) (M : Nat → Prop) : SetM w M (.slice none 0 0) [] := ⟨none, 0, rfl, Nat.le_refl _, by omega, Sl.nil _ _ _ _, fun _ _ _ h => absurd h (by simp)⟩
/-- All blocks but those of M are as they were. -/
theorem SetM.keep {w w1 : World} {M M' : Nat → Prop} {v : Value} {s : List Nat} (h : SetM w M v s) (hz : w.heap.size ≤ w1.heap.size) (hk : ∀ b, b < w.heap.size → ¬ M b → w1.heap[b]? = w.heap[b]?) (hM : ∀ b, b < w.heap.size → M' b → M b) : SetM w1 M' v s := by
  obtain ⟨A, c, h1, h2, h3, h4, h5⟩ := h
  refine ⟨A, c, h1, h2, h3, fun hp => ?_, fun b o e hl hm => ?_⟩
  · obtain ⟨b, o, e, hb, hc⟩ := h4 hp
    exact ⟨b, o, e, by omega, fun j hj => (World.cell?_of_block (a := ⟨b, o + j, none⟩) (hk b hb (h5 b o e (by rwa [nI_len] at hp)))).trans (hc j hj)⟩
  · obtain ⟨b', o', e', hb, hc⟩ := h4 (by rw [nI_len]; exact hl)
    rw [e] at e'
    cases e'
    exact h5 b o e hl (hM b hb hm)
end Go.Proofs.Ytkilfejcohnceaa
