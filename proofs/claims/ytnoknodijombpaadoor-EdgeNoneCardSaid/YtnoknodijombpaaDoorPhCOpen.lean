/- What all rows of the seat share: the program's closed facts; a program among the arguments, opened; the table. Condition: the table reads as listed. -/
import Derived.Test.YtnoknodijombpaaDoorPhMA
import Derived.Test.YtnoknodijombpaaDoorPhMB
import Derived.Test.YtnoknodijombpaaDoorRows
import Derived.ProofKit
import Derived.OpenShut
import Derived.Deep.Slices
import Derived.Deep.Fields
import Derived.ChangeSame
import Derived.LaidMore
import Derived.LaidHandle
import Derived.LaidLaws
import Derived.ChangeArms
import Derived.Stop.Joined
set_option linter.unusedSimpArgs false
set_option linter.unusedVariables false
namespace Go.Proofs.YtnoknodijombpaaDoor
open Go.ChangeShapes Go.WideShapes Go.ChangeAt Go.RowKit Go.Deep

theorem own : ownKnob Tryd.prog.godebug = none := by kernel_rfl
theorem laidOut : laidOutB Tryd.prog = true := by kernel_rfl
theorem cells_i64 : Tryd.prog.cellsOf 3 = 1 := by kernel_rfl
theorem cells_str : Tryd.prog.cellsOf 9 = 1 := by kernel_rfl
theorem gTab : Tryd.prog.globalNamed "portolan/code.parts" = some 0 := by kernel_rfl
theorem tTab : (Tryd.prog.globals[0]?).map (·.type) = some 79 := by kernel_rfl
def laid1 : List (String × DataW Unit) := [("portolan/code.parts", Rows.laid_portolan_code_parts)]
theorem door_met (os : Os) (args : Array Value) : laidMetH Tryd.prog laid1 ((World.doorLaid Tryd.prog 400 os).forCall (fun _ _ => 0) ⟨#[], args, []⟩).memory :=
  laidMetH_of_parts3 (fuel := 8) (laidMet_of_run' 8 (by kernel_rfl) (by kernel_rfl)) (by kernel_rfl) (by kernel_rfl)

section
variable {H : Type} {enc : TypeId × Value → H} {W : World}
theorem int_R {n : Int} (h : (Lit.int .i64 n).wf = true) : i64R n := bounds_i64 h
def fieldsOf (P : Program) (t : TypeId) : Array Field := match P.underlying t with | some (.struct fs) => fs | _ => #[]
theorem hone_Ins : oneCellFields Tryd.prog (fieldsOf Tryd.prog 38) = true := by kernel_rfl
theorem hone_Func : oneCellFields Tryd.prog (fieldsOf Tryd.prog 34) = true := by kernel_rfl
theorem hone_Block : oneCellFields Tryd.prog (fieldsOf Tryd.prog 41) = true := by kernel_rfl
theorem hone_Prog : oneCellFields Tryd.prog (fieldsOf Tryd.prog 24) = true := by kernel_rfl
theorem types_Ins : (fieldsOf Tryd.prog 38).toList.map (·.type) = [3, 3, 3, 3, 3, 3, 31] := by kernel_rfl
theorem types_Func : (fieldsOf Tryd.prog 34).toList.map (·.type) = [31, 31, 3, 3, 32] := by kernel_rfl
theorem types_Block : (fieldsOf Tryd.prog 41).toList.map (·.type) = [39] := by kernel_rfl
theorem types_Prog : (fieldsOf Tryd.prog 24).toList.map (·.type) = [22] := by kernel_rfl
theorem open_int1 {fuel : Nat} {u : Value} {x : DataW H × List MemPlace} (h : DataW.trod enc Tryd.prog W 0 (fun _ => true) true fuel 3 [u] = some x) : ∃ z, u = .int .i64 z ∧ i64R z := by
  obtain ⟨z, e, -, hw⟩ := DataW.trod_int Tryd.underlying3 h
  simp at e
  exact ⟨z, e, int_R hw⟩
theorem cells_Ins : Tryd.prog.cellsOf 38 = 7 := by kernel_rfl
theorem cells_Func : Tryd.prog.cellsOf 34 = 5 := by kernel_rfl
theorem cells_Block : Tryd.prog.cellsOf 41 = 1 := by kernel_rfl
theorem cells_Prog : Tryd.prog.cellsOf 24 = 1 := by kernel_rfl
end
end Go.Proofs.YtnoknodijombpaaDoor
