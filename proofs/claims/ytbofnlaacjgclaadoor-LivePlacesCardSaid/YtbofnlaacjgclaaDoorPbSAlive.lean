/- The contract of the fixed fact of layer 4's statements. Condition: the table of parts reads as listed. -/
import Derived.Test.YtbofnlaacjgclaaDoorPbG2
set_option linter.unusedSimpArgs false
set_option linter.unusedVariables false
namespace Go.Proofs.YtbofnlaacjgclaaDoor
open Go.RowKit

def tinyCs (z : Int) : Array Value := #[.int .i64 1, .int .i64 0, .int .i64 0, .int .i64 0, .int .i64 5, .int .i64 0, .slice none 0 0, .int .i64 z, .int .i64 0, .int .i64 0, .int .i64 0, .int .i64 0, .int .i64 0, .slice none 0 0]
/-- The fixed program in memory. -/
def TinyP (w : World) (h : Nat) (z : Int) : Prop :=
  Box w (h + 1) #[.int .i64 0] 3 ∧ Box w (h + 2) #[.int .i64 (-1)] 3 ∧ Box w (h + 3) (tinyCs z) 45 ∧ Box w (h + 4) #[.slice (some ⟨h + 3, 0, none⟩) 2 2] 48 ∧
    Box w (h + 5) #[.slice (some ⟨h + 1, 0, none⟩) 1 1, .slice (some ⟨h + 2, 0, none⟩) 1 1, .int .i64 0, .int .i64 0, .slice (some ⟨h + 4, 0, none⟩) 1 1] 30
theorem TinyP.below {w w' : World} {h : Nat} {z : Int} (t : TinyP w h z) (hb : Below w.heap.size w w') : TinyP w' h z :=
  ⟨t.1.below hb, t.2.1.below hb, t.2.2.1.below hb, t.2.2.2.1.below hb, t.2.2.2.2.below hb⟩
theorem vec_one {α : Type} {s : Nat} {P : Nat → Nat → α → Prop} {S : Nat → Prop} {b c : Nat} {x : α} (hS : S b) (hP : P b 0 x) (hc : 1 ≤ c) (hm : c ≤ 100) : Vec s P S (.slice (some ⟨b, 0, none⟩) 1 c) [x] := by
  refine ⟨some ⟨b, 0, none⟩, c, rfl, by simpa using hc, by omega, fun _ => ⟨b, 0, rfl, hS, fun j y hj => ?_⟩⟩
  have hj0 : j = 0 := by
    have := (List.getElem?_eq_some_iff.1 hj).1
    simp at this; exact this
  subst hj0
  simp at hj
  subst hj
  simpa using hP
end Go.Proofs.YtbofnlaacjgclaaDoor
