/- Texts of several names, of which only what the statement needs is kept. -/
import Derived.Test.YtbofnlaacjgclaaDoorPbMA
import Derived.Test.YtbofnlaacjgclaaDoorPbMB
import Derived.Test.YtbofnlaacjgclaaDoorRows
import Derived.ProofKit
import Derived.OpenShut
import Derived.Deep.Slices
import Derived.Deep.Fields
import Derived.ChangeSame
import Derived.LaidMore
import Derived.LaidHandle
import Derived.LaidLaws
import Derived.ChangeArms
import Derived.Stop.Joined
/- What all rows of the seat share: the program's closed facts; a program among the arguments, opened; the table. Condition: the table reads as listed. -/
set_option linter.unusedSimpArgs false
set_option linter.unusedVariables false
namespace Go.Proofs.YtbofnlaacjgclaaDoor
open Go.ChangeShapes Go.WideShapes Go.ChangeAt Go.RowKit Go.Deep

theorem own : ownKnob Tryd.prog.godebug = none := by kernel_rfl
theorem laidOut : laidOutB Tryd.prog = true := by kernel_rfl
theorem cells_i64 : Tryd.prog.cellsOf 3 = 1 := by kernel_rfl
theorem cells_str : Tryd.prog.cellsOf 9 = 1 := by kernel_rfl
theorem gTab : Tryd.prog.globalNamed "portolan/code.parts" = some 0 := by kernel_rfl
theorem tTab : (Tryd.prog.globals[0]?).map (·.type) = some 116 := by kernel_rfl
def laid1 : List (String × DataW Unit) := [("portolan/code.parts", Rows.laid_portolan_code_parts)]
theorem door_met (os : Os) (args : Array Value) : laidMetH Tryd.prog laid1 ((World.doorLaid Tryd.prog 400 os).forCall (fun _ _ => 0) ⟨#[], args, []⟩).memory :=
  laidMetH_of_parts3 (fuel := 8) (laidMet_of_run' 8 (by kernel_rfl) (by kernel_rfl)) (by kernel_rfl) (by kernel_rfl)

section
variable {H : Type} {enc : TypeId × Value → H} {W : World}
theorem int_R {n : Int} (h : (Lit.int .i64 n).wf = true) : i64R n := bounds_i64 h
def fieldsOf (P : Program) (t : TypeId) : Array Field := match P.underlying t with | some (.struct fs) => fs | _ => #[]
theorem hone_Ins : oneCellFields Tryd.prog (fieldsOf Tryd.prog 45) = true := by kernel_rfl
theorem hone_Func : oneCellFields Tryd.prog (fieldsOf Tryd.prog 30) = true := by kernel_rfl
theorem hone_Block : oneCellFields Tryd.prog (fieldsOf Tryd.prog 48) = true := by kernel_rfl
theorem hone_Prog : oneCellFields Tryd.prog (fieldsOf Tryd.prog 24) = true := by kernel_rfl
theorem types_Ins : (fieldsOf Tryd.prog 45).toList.map (·.type) = [3, 3, 3, 3, 3, 3, 27] := by kernel_rfl
theorem types_Func : (fieldsOf Tryd.prog 30).toList.map (·.type) = [27, 27, 3, 3, 28] := by kernel_rfl
theorem types_Block : (fieldsOf Tryd.prog 48).toList.map (·.type) = [46] := by kernel_rfl
theorem types_Prog : (fieldsOf Tryd.prog 24).toList.map (·.type) = [22] := by kernel_rfl
theorem open_int1 {fuel : Nat} {u : Value} {x : DataW H × List MemPlace} (h : DataW.trod enc Tryd.prog W 0 (fun _ => true) true fuel 3 [u] = some x) : ∃ z, u = .int .i64 z ∧ i64R z := by
  obtain ⟨z, e, -, hw⟩ := DataW.trod_int Tryd.underlying3 h
  simp at e
  exact ⟨z, e, int_R hw⟩
theorem cells_Ins : Tryd.prog.cellsOf 45 = 7 := by kernel_rfl
theorem cells_Func : Tryd.prog.cellsOf 30 = 5 := by kernel_rfl
theorem cells_Block : Tryd.prog.cellsOf 48 = 1 := by kernel_rfl
theorem cells_Prog : Tryd.prog.cellsOf 24 = 1 := by kernel_rfl
end
end Go.Proofs.YtbofnlaacjgclaaDoor

/- What the tied rows of the seat share: what the listed table of parts gives the walks. Condition: the table reads as listed. -/
set_option linter.unusedSimpArgs false
set_option linter.unusedVariables false
namespace Go.Proofs.YtbofnlaacjgclaaDoor
open Go.ChangeShapes Go.WideShapes Go.ChangeAt Go.RowKit

theorem laid_list : (Rows.laid_portolan_code_parts : DataW Unit) = .agg (partsT.map fun l => .lit (.string (l.map UInt8.ofNat))) := by rfl
theorem of_laid {W : World} (h : laidMetH Tryd.prog laid1 W) : TabP W := by
  rw [MakeChecks.laidMetH_plain _ _ _ (by kernel_rfl)] at h
  obtain ⟨ps, ⟨g0, t0, cs0, f0, p0, q0, hg0, ht0, hv0, hd0, _, _⟩, _, _⟩ := h
  obtain rfl := Option.some.inj (gTab.symm.trans hg0)
  obtain rfl := Option.some.inj (tTab.symm.trans ht0)
  obtain ⟨xs, m1, rfl, hx1, hlen, hn, hel⟩ := DataW.trod_array Tryd.underlying116 hd0
  rw [laid_list] at hx1
  simp only [Prod.mk.injEq, DataW.agg.injEq] at hx1
  have hcell : ∀ j, j < 24 → W.cell? ⟨0, j, none⟩ = some (.string (strOf (partsT.getD j []))) := fun j hj => by
    have h1 := hel j hj
    rw [cells_str, Nat.mul_one] at h1
    obtain ⟨x, hx⟩ : ∃ x, xs[j]? = some x := ⟨_, List.getElem?_eq_getElem (by omega)⟩
    rw [hx] at h1
    obtain ⟨k, e1, e2, _⟩ := DataW.trod_string Tryd.underlying9 h1
    have h2 : (xs.map (·.1))[j]? = some x.1 := by rw [List.getElem?_map, hx]; rfl
    rw [← hx1.1, List.getElem?_map] at h2
    have hlt : j < partsT.length := hj
    rw [List.getElem?_eq_getElem hlt, e2] at h2
    simp only [Option.map_some, Option.some.injEq, DataW.lit.injEq, Lit.string.injEq] at h2
    have h3 := World.var?_cell hg0 hv0 j
    rw [h3, ← Array.getElem?_toList]
    have h4 := congrArg (fun l => l[0]?) e1
    simp only [List.getElem?_cons_zero] at h4
    rw [List.getElem?_take_of_lt (by omega), List.getElem?_drop, Nat.add_zero] at h4
    rw [h4]
    have h5 : k = strOf (partsT.getD j []) := by
      obtain ⟨⟨l⟩⟩ := k
      simp only at h2
      unfold strOf
      rw [List.getD, List.getElem?_eq_getElem hlt, Option.getD_some, h2]
    rw [h5]
  refine ⟨?_, hcell⟩
  rcases Nat.lt_or_ge 0 W.heap.size with h0 | h0
  · exact h0
  · have h1 := hcell 0 (by omega)
    rw [World.cell?, Array.getElem?_eq_none (by show W.heap.size ≤ 0; omega)] at h1
    cases h1
end Go.Proofs.YtbofnlaacjgclaaDoor
