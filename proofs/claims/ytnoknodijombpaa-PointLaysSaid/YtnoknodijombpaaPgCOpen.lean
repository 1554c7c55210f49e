/- What all rows of the seat share: the program's closed facts; a program among the arguments, opened; the table. Condition: the table reads as listed. -/
import Derived.Test.YtnoknodijombpaaPgMA
import Derived.Test.YtnoknodijombpaaPgMB
import Derived.Test.YtnoknodijombpaaRows
import Derived.ProofKit
import Derived.OpenShut
import Derived.Deep.Slices
import Derived.Deep.Fields
import Derived.ChangeSame
import Derived.LaidMore
import Derived.LaidHandle
import Derived.LaidLaws
import Derived.ChangeArms
import Derived.Stop.Joined
set_option linter.unusedSimpArgs false
set_option linter.unusedVariables false
namespace Go.Proofs.Ytnoknodijombpaa
open Go.ChangeShapes Go.WideShapes Go.ChangeAt Go.RowKit Go.Deep

theorem own : ownKnob Try.prog.godebug = none := by kernel_rfl
theorem laidOut : laidOutB Try.prog = true := by kernel_rfl
theorem cells_i64 : Try.prog.cellsOf 3 = 1 := by kernel_rfl
section
variable {H : Type} {enc : TypeId × Value → H} {W : World}
theorem int_R {n : Int} (h : (Lit.int .i64 n).wf = true) : i64R n := bounds_i64 h
def fieldsOf (P : Program) (t : TypeId) : Array Field := match P.underlying t with | some (.struct fs) => fs | _ => #[]
theorem hone_Ins : oneCellFields Try.prog (fieldsOf Try.prog 50) = true := by kernel_rfl
theorem hone_Func : oneCellFields Try.prog (fieldsOf Try.prog 30) = true := by kernel_rfl
theorem hone_Block : oneCellFields Try.prog (fieldsOf Try.prog 53) = true := by kernel_rfl
theorem hone_Prog : oneCellFields Try.prog (fieldsOf Try.prog 24) = true := by kernel_rfl
theorem types_Ins : (fieldsOf Try.prog 50).toList.map (·.type) = [3, 3, 3, 3, 3, 3, 27] := by kernel_rfl
theorem types_Func : (fieldsOf Try.prog 30).toList.map (·.type) = [27, 27, 3, 3, 28] := by kernel_rfl
theorem types_Block : (fieldsOf Try.prog 53).toList.map (·.type) = [51] := by kernel_rfl
theorem types_Prog : (fieldsOf Try.prog 24).toList.map (·.type) = [22] := by kernel_rfl
theorem open_int1 {fuel : Nat} {u : Value} {x : DataW H × List MemPlace} (h : DataW.trod enc Try.prog W 0 (fun _ => true) true fuel 3 [u] = some x) : ∃ z, u = .int .i64 z ∧ i64R z := by
  obtain ⟨z, e, -, hw⟩ := DataW.trod_int Try.underlying3 h
  simp at e
  exact ⟨z, e, int_R hw⟩
theorem cells_Ins : Try.prog.cellsOf 50 = 7 := by kernel_rfl
theorem cells_Func : Try.prog.cellsOf 30 = 5 := by kernel_rfl
theorem cells_Block : Try.prog.cellsOf 53 = 1 := by kernel_rfl
theorem cells_Prog : Try.prog.cellsOf 24 = 1 := by kernel_rfl
end
end Go.Proofs.Ytnoknodijombpaa
