/- The contract of the fixed fact of layer 4's statements. Condition: the table of parts reads as listed. -/
import Derived.Test.YtnoknodijombpaaDoorPhG2
set_option linter.unusedSimpArgs false
set_option linter.unusedVariables false
namespace Go.Proofs.YtnoknodijombpaaDoor
open Go.RowKit

def T0 (z : Int) : FunV := ⟨[0], [-1], 0, 0, [[⟨1, 0, 0, 0, 5, 0, []⟩, ⟨z, 0, 0, 0, 0, 0, []⟩]]⟩
def tinyCs (z : Int) : Array Value := #[.int .i64 1, .int .i64 0, .int .i64 0, .int .i64 0, .int .i64 5, .int .i64 0, .slice none 0 0, .int .i64 z, .int .i64 0, .int .i64 0, .int .i64 0, .int .i64 0, .int .i64 0, .slice none 0 0]
/-- The fixed program in memory. -/
def TinyP (w : World) (h : Nat) (z : Int) : Prop :=
  Box w (h + 1) #[.int .i64 0] 3 ∧ Box w (h + 2) #[.int .i64 (-1)] 3 ∧ Box w (h + 3) (tinyCs z) 38 ∧ Box w (h + 4) #[.slice (some ⟨h + 3, 0, none⟩) 2 2] 41 ∧
    Box w (h + 5) #[.slice (some ⟨h + 1, 0, none⟩) 1 1, .slice (some ⟨h + 2, 0, none⟩) 1 1, .int .i64 0, .int .i64 0, .slice (some ⟨h + 4, 0, none⟩) 1 1] 34
theorem TinyP.below {w w' : World} {h : Nat} {z : Int} (t : TinyP w h z) (hb : Below w.heap.size w w') : TinyP w' h z :=
  ⟨t.1.below hb, t.2.1.below hb, t.2.2.1.below hb, t.2.2.2.1.below hb, t.2.2.2.2.below hb⟩
theorem vec_one {α : Type} {s : Nat} {P : Nat → Nat → α → Prop} {S : Nat → Prop} {b c : Nat} {x : α} (hS : S b) (hP : P b 0 x) (hc : 1 ≤ c) (hm : c ≤ 100) : Vec s P S (.slice (some ⟨b, 0, none⟩) 1 c) [x] := by
  refine ⟨some ⟨b, 0, none⟩, c, rfl, by simpa using hc, by omega, fun _ => ⟨b, 0, rfl, hS, fun j y hj => ?_⟩⟩
  have hj0 : j = 0 := by
    have := (List.getElem?_eq_some_iff.1 hj).1
    simp at this; exact this
  subst hj0
  simp at hj
  subst hj
  simpa using hP
theorem vec_two {α : Type} {s : Nat} {P : Nat → Nat → α → Prop} {S : Nat → Prop} {b c : Nat} {x y : α} (hS : S b) (hP : P b 0 x) (hQ : P b s y) (hc : 2 ≤ c) (hm : c ≤ 100) : Vec s P S (.slice (some ⟨b, 0, none⟩) 2 c) [x, y] := by
  refine ⟨some ⟨b, 0, none⟩, c, rfl, by simpa using hc, by omega, fun _ => ⟨b, 0, rfl, hS, fun j u hj => ?_⟩⟩
  have hj2 : j < 2 := by
    have := (List.getElem?_eq_some_iff.1 hj).1
    simpa using this
  rcases (show j = 0 ∨ j = 1 by omega) with rfl | rfl
  · simp at hj; subst hj; simpa using hP
  · simp at hj; subst hj; simpa using hQ
theorem TinyP.funs {w : World} {h : Nat} {z : Int} (t : TinyP w h z) (hz : i64R z) : FunsV w (· < w.heap.size) (.slice (some ⟨h + 5, 0, none⟩) 1 1) [T0 z] := by
  obtain ⟨t1, t2, t3, t4, t5⟩ := t
  have r0 : i64R 0 := by unfold i64R; omega
  refine vec_one t5.lt ⟨_, _, _, ⟨(t5.cell 0 (v := .slice (some ⟨h + 1, 0, none⟩) 1 1) rfl).1, (t5.cell 1 (v := .slice (some ⟨h + 2, 0, none⟩) 1 1) rfl).1, (t5.cell 2 (v := .int .i64 0) rfl).1, (t5.cell 3 (v := .int .i64 0) rfl).1, (t5.cell 4 (v := .slice (some ⟨h + 4, 0, none⟩) 1 1) rfl).1⟩, ?_, ?_, ?_, r0, r0⟩ (by omega) (by omega)
  · exact vec_one t1.lt ⟨(t1.cell 0 (v := .int .i64 0) rfl).1, r0⟩ (by omega) (by omega)
  · exact vec_one t2.lt ⟨(t2.cell 0 (v := .int .i64 (-1)) rfl).1, by unfold i64R; omega⟩ (by omega) (by omega)
  · refine vec_one t4.lt ⟨_, (t4.cell 0 (v := .slice (some ⟨h + 3, 0, none⟩) 2 2) rfl).1, ?_⟩ (by omega) (by omega)
    refine vec_two t3.lt ⟨.slice none 0 0, ⟨(t3.cell 0 (v := .int .i64 1) rfl).1, (t3.cell 1 (v := .int .i64 0) rfl).1, (t3.cell 2 (v := .int .i64 0) rfl).1, (t3.cell 3 (v := .int .i64 0) rfl).1, (t3.cell 4 (v := .int .i64 5) rfl).1, (t3.cell 5 (v := .int .i64 0) rfl).1, (t3.cell 6 (v := .slice none 0 0) rfl).1⟩, Vec.nil _ _ _, ?_⟩
      ⟨.slice none 0 0, ⟨(t3.cell 7 (v := .int .i64 z) rfl).1, (t3.cell 8 (v := .int .i64 0) rfl).1, (t3.cell 9 (v := .int .i64 0) rfl).1, (t3.cell 10 (v := .int .i64 0) rfl).1, (t3.cell 11 (v := .int .i64 0) rfl).1, (t3.cell 12 (v := .int .i64 0) rfl).1, (t3.cell 13 (v := .slice none 0 0) rfl).1⟩, Vec.nil _ _ _, ?_⟩ (by omega) (by omega)
    · unfold InsR i64R; simp
    · unfold i64R at hz; unfold InsR i64R; simp; omega
end Go.Proofs.YtnoknodijombpaaDoor
