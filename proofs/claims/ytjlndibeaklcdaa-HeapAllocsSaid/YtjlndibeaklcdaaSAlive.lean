/- The contract of the fixed fact of layer 4's statements. Condition: the table of parts reads as listed. -/
import Derived.Test.YtjlndibeaklcdaaG2
set_option linter.unusedSimpArgs false
set_option linter.unusedVariables false
namespace Go.Proofs.Ytjlndibeaklcdaa
open Go.RowKit

def P04 : FunV := ⟨[0], [-1], 0, 0, [[⟨1, 0, 0, 0, 5, 0, []⟩, ⟨23, 0, 0, 0, 0, 0, []⟩]]⟩
def Q0 : FunV := ⟨[0], [-1], 0, 0, [[⟨1, 0, 0, 0, 5, 0, []⟩, ⟨21, 0, 0, 0, 0, 0, []⟩]]⟩
theorem chk_p : chkN4 [P04] = 0 := by decide +kernel
theorem chk_q : chkN4 [Q0] = 5 := by decide +kernel
def T0 (z : Int) : FunV := ⟨[0], [-1], 0, 0, [[⟨1, 0, 0, 0, 5, 0, []⟩, ⟨z, 0, 0, 0, 0, 0, []⟩]]⟩
def tinyCs (z : Int) : Array Value := #[.int .i64 1, .int .i64 0, .int .i64 0, .int .i64 0, .int .i64 5, .int .i64 0, .slice none 0 0, .int .i64 z, .int .i64 0, .int .i64 0, .int .i64 0, .int .i64 0, .int .i64 0, .slice none 0 0]
theorem vec_one {α : Type} {s : Nat} {P : Nat → Nat → α → Prop} {S : Nat → Prop} {b c : Nat} {x : α} (hS : S b) (hP : P b 0 x) (hc : 1 ≤ c) (hm : c ≤ 100) : Vec s P S (.slice (some ⟨b, 0, none⟩) 1 c) [x] := by
  refine ⟨some ⟨b, 0, none⟩, c, rfl, by simpa using hc, by omega, fun _ => ⟨b, 0, rfl, hS, fun j y hj => ?_⟩⟩
  have hj0 : j = 0 := by
    have := (List.getElem?_eq_some_iff.1 hj).1
    simp at this; exact this
  subst hj0
  simp at hj
  subst hj
  simpa using hP
theorem vec_two {α : Type} {s : Nat} {P : Nat → Nat → α → Prop} {S : Nat → Prop} {b c : Nat} {x y : α} (hS : S b) (hP : P b 0 x) (hQ : P b s y) (hc : 2 ≤ c) (hm : c ≤ 100) : Vec s P S (.slice (some ⟨b, 0, none⟩) 2 c) [x, y] := by
  refine ⟨some ⟨b, 0, none⟩, c, rfl, by simpa using hc, by omega, fun _ => ⟨b, 0, rfl, hS, fun j u hj => ?_⟩⟩
  have hj2 : j < 2 := by
    have := (List.getElem?_eq_some_iff.1 hj).1
    simpa using this
  rcases (show j = 0 ∨ j = 1 by omega) with rfl | rfl
  · simp at hj; subst hj; simpa using hP
  · simp at hj; subst hj; simpa using hQ
end Go.Proofs.Ytjlndibeaklcdaa
