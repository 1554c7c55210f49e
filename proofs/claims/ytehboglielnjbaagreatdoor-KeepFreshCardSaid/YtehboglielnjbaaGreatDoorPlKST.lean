/- Texts of several names, of which only what the statement needs is kept. -/
import Derived.Test.YtehboglielnjbaaGreatDoorPlMA
import Derived.Test.YtehboglielnjbaaGreatDoorPlMB
import Derived.Test.YtehboglielnjbaaGreatDoorPlKQ
import Derived.Test.YtehboglielnjbaaGreatDoorPlSAlive
import Derived.Test.YtehboglielnjbaaGreatDoorRows
import Derived.ProofKit
import Derived.OpenShut
import Derived.Deep.Slices
import Derived.Deep.Fields
import Derived.ChangeSame
import Derived.LaidMore
import Derived.LaidHandle
import Derived.LaidLaws
import Derived.ChangeArms
import Derived.Stop.Joined
import Derived.Laws.Cover1
import Derived.Deep.RegionHeld3
/- What all rows of the seat share: the program's closed facts; a program among the arguments, opened; the table. Condition: the table reads as listed. -/
set_option linter.unusedSimpArgs false
set_option linter.unusedVariables false
namespace Go.Proofs.YtehboglielnjbaaGreatDoor
open Go.ChangeShapes Go.WideShapes Go.ChangeAt Go.RowKit Go.Deep

theorem own : ownKnob Tryz.prog.godebug = none := by kernel_rfl
theorem laidOut : laidOutB Tryz.prog = true := by kernel_rfl
theorem cells_u8 : Tryz.prog.cellsOf 5 = 1 := by kernel_rfl
theorem cells_i64 : Tryz.prog.cellsOf 3 = 1 := by kernel_rfl
theorem cells_str : Tryz.prog.cellsOf 9 = 1 := by kernel_rfl
section
variable {H : Type} {enc : TypeId × Value → H} {W : World}
theorem int_R {n : Int} (h : (Lit.int .i64 n).wf = true) : i64R n := bounds_i64 h
def fieldsOf (P : Program) (t : TypeId) : Array Field := match P.underlying t with | some (.struct fs) => fs | _ => #[]
theorem hone_Ins : oneCellFields Tryz.prog (fieldsOf Tryz.prog 47) = true := by kernel_rfl
theorem hone_Func : oneCellFields Tryz.prog (fieldsOf Tryz.prog 32) = true := by kernel_rfl
theorem hone_Block : oneCellFields Tryz.prog (fieldsOf Tryz.prog 39) = true := by kernel_rfl
theorem hone_Prog : oneCellFields Tryz.prog (fieldsOf Tryz.prog 24) = true := by kernel_rfl
theorem types_Ins : (fieldsOf Tryz.prog 47).toList.map (·.type) = [3, 3, 3, 3, 3, 3, 29] := by kernel_rfl
theorem types_Func : (fieldsOf Tryz.prog 32).toList.map (·.type) = [29, 29, 3, 3, 30] := by kernel_rfl
theorem types_Block : (fieldsOf Tryz.prog 39).toList.map (·.type) = [37] := by kernel_rfl
theorem types_Prog : (fieldsOf Tryz.prog 24).toList.map (·.type) = [22] := by kernel_rfl
theorem open_int1 {fuel : Nat} {u : Value} {x : DataW H × List MemPlace} (h : DataW.trod enc Tryz.prog W 0 (fun _ => true) true fuel 3 [u] = some x) : ∃ z, u = .int .i64 z ∧ i64R z := by
  obtain ⟨z, e, -, hw⟩ := DataW.trod_int Tryz.underlying3 h
  simp at e
  exact ⟨z, e, int_R hw⟩
theorem cells_Ins : Tryz.prog.cellsOf 47 = 7 := by kernel_rfl
theorem cells_Func : Tryz.prog.cellsOf 32 = 5 := by kernel_rfl
theorem cells_Block : Tryz.prog.cellsOf 39 = 1 := by kernel_rfl
theorem cells_Prog : Tryz.prog.cellsOf 24 = 1 := by kernel_rfl
end
end Go.Proofs.YtehboglielnjbaaGreatDoor

/- The statement KindOrder, walked: it answers true. Conditions: the tables of parts and of rows read as listed; no slice of the program is longer than any machine's memory. -/
set_option linter.unusedSimpArgs false
set_option linter.unusedVariables false
namespace Go.Proofs.YtehboglielnjbaaGreatDoor
open Go.RowKit

end Go.Proofs.YtehboglielnjbaaGreatDoor
namespace Go.Proofs.YtehboglielnjbaaGreatDoor
open Go.ChangeShapes Go.WideShapes Go.ChangeAt Go.RowKit

theorem gCodeZ : Tryz.prog.globalNamed "portolan/code.parts" = some 1 := by kernel_rfl
theorem tCodeZ : (Tryz.prog.globals[1]?).map (·.type) = some 122 := by kernel_rfl
theorem gRow : Tryz.prog.globalNamed "portolan/kind.rows" = some 0 := by kernel_rfl
theorem tRow : (Tryz.prog.globals[0]?).map (·.type) = some 114 := by kernel_rfl
theorem u_rows : Tryz.prog.underlying 114 = some (.array 24 113) := by kernel_rfl
theorem u_row : Tryz.prog.underlying 113 = some (.array 3 5) := by kernel_rfl
theorem u_u8 : Tryz.prog.underlying 5 = some (.int .u8) := by kernel_rfl
theorem c_row : Tryz.prog.cellsOf 113 = 3 := by kernel_rfl
def laidZ : List (String × DataW Unit) := [("portolan/code.parts", Rows.laid_portolan_code_parts), ("portolan/kind.rows", Rows.laid_portolan_kind_rows)]
theorem door_metZ (os : Os) (args : Array Value) : laidMetH Tryz.prog laidZ ((World.doorLaid Tryz.prog 400 os).forCall (fun _ _ => 0) ⟨#[], args, []⟩).memory :=
  laidMetH_of_parts3 (fuel := 8) (laidMet_of_run' 8 (by kernel_rfl) (by kernel_rfl)) (by kernel_rfl) (by kernel_rfl)
theorem laid_listZ : (Rows.laid_portolan_code_parts : DataW Unit) = .agg (partsT.map fun l => .lit (.string (l.map UInt8.ofNat))) := by rfl
theorem laid_listR : (Rows.laid_portolan_kind_rows : DataW Unit) = .agg (rowsT.map fun l => .agg (l.map fun n => .lit (.int .u8 ((n : Nat) : Int)))) := by rfl
theorem of_laidZ {W : World} (h : laidMetH Tryz.prog laidZ W) : TabP W ∧ RowP W := by
  rw [MakeChecks.laidMetH_plain _ _ _ (by kernel_rfl)] at h
  obtain ⟨ps, ⟨g0, t0, cs0, f0, p0, q0, hg0, ht0, hv0, hd0, hrest, _⟩, _, _⟩ := h
  obtain ⟨g1, t1, cs1, f1, p1, q1, hg1, ht1, hv1, hd1, _, _⟩ := hrest
  obtain rfl := Option.some.inj (gCodeZ.symm.trans hg0)
  obtain rfl := Option.some.inj (tCodeZ.symm.trans ht0)
  obtain rfl := Option.some.inj (gRow.symm.trans hg1)
  obtain rfl := Option.some.inj (tRow.symm.trans ht1)
  constructor
  · obtain ⟨xs, m1, rfl, hx1, hlen, hn, hel⟩ := DataW.trod_array Tryz.underlying122 hd0
    rw [laid_listZ] at hx1
    simp only [Prod.mk.injEq, DataW.agg.injEq] at hx1
    have hcell : ∀ j, j < 24 → W.cell? ⟨1, j, none⟩ = some (.string (strOf (partsT.getD j []))) := fun j hj => by
      have h1 := hel j hj
      rw [cells_str, Nat.mul_one] at h1
      obtain ⟨x, hx⟩ : ∃ x, xs[j]? = some x := ⟨_, List.getElem?_eq_getElem (by omega)⟩
      rw [hx] at h1
      obtain ⟨k, e1, e2, _⟩ := DataW.trod_string Tryz.underlying9 h1
      have h2 : (xs.map (·.1))[j]? = some x.1 := by rw [List.getElem?_map, hx]; rfl
      rw [← hx1.1, List.getElem?_map] at h2
      have hlt : j < partsT.length := hj
      rw [List.getElem?_eq_getElem hlt, e2] at h2
      simp only [Option.map_some, Option.some.injEq, DataW.lit.injEq, Lit.string.injEq] at h2
      have h3 := World.var?_cell hg0 hv0 j
      rw [h3, ← Array.getElem?_toList]
      have h4 := congrArg (fun l => l[0]?) e1
      simp only [List.getElem?_cons_zero] at h4
      rw [List.getElem?_take_of_lt (by omega), List.getElem?_drop, Nat.add_zero] at h4
      rw [h4]
      have h5 : k = strOf (partsT.getD j []) := by
        obtain ⟨⟨l⟩⟩ := k
        simp only at h2
        unfold strOf
        rw [List.getD, List.getElem?_eq_getElem hlt, Option.getD_some, h2]
      rw [h5]
    refine ⟨?_, hcell⟩
    rcases Nat.lt_or_ge 1 W.heap.size with h0 | h0
    · exact h0
    · have h1 := hcell 0 (by omega)
      rw [World.cell?, Array.getElem?_eq_none (by show W.heap.size ≤ 1; omega)] at h1
      cases h1
  · obtain ⟨xs, m1, rfl, hx1, hlen, hn, hel⟩ := DataW.trod_array u_rows hd1
    rw [laid_listR] at hx1
    simp only [Prod.mk.injEq, DataW.agg.injEq] at hx1
    have hcell : ∀ j i : Nat, j < 24 → i < 3 → W.cell? ⟨0, j * 3 + i, none⟩ = some (.int .u8 ((rowN (j : Int) i : Nat) : Int)) := fun j i hj hi => by
      have h1 := hel j hj
      rw [c_row] at h1
      obtain ⟨x, hx⟩ : ∃ x, xs[j]? = some x := ⟨_, List.getElem?_eq_getElem (by omega)⟩
      rw [hx] at h1
      obtain ⟨ys, m2, -, hy1, hlen2, hn2, hel2⟩ := DataW.trod_array u_row h1
      have h2 := hel2 i hi
      rw [cells_u8, Nat.mul_one] at h2
      obtain ⟨y, hy⟩ : ∃ y, ys[i]? = some y := ⟨_, List.getElem?_eq_getElem (by omega)⟩
      rw [hy] at h2
      obtain ⟨n, e1, e2, -⟩ := DataW.trod_int u_u8 h2
      have h3 : (xs.map (·.1))[j]? = some x.1 := by rw [List.getElem?_map, hx]; rfl
      have hlt : j < rowsT.length := hj
      rw [← hx1.1, List.getElem?_map, List.getElem?_eq_getElem hlt, hy1] at h3
      simp only [Option.map_some, Option.some.injEq, DataW.agg.injEq] at h3
      have h4 : (ys.map (·.1))[i]? = some y.1 := by rw [List.getElem?_map, hy]; rfl
      rw [← h3, e2, List.getElem?_map] at h4
      have h5 : n = ((rowN (j : Int) i : Nat) : Int) := by
        unfold rowN
        rw [Int.toNat_natCast, List.getD, List.getD, List.getElem?_eq_getElem hlt, Option.getD_some]
        cases hr : rowsT[j][i]? with
        | none => rw [hr] at h4; cases h4
        | some r =>
          rw [hr] at h4
          simp only [Option.map_some, Option.some.injEq, DataW.lit.injEq, Lit.int.injEq] at h4
          rw [Option.getD_some]
          exact h4.2.symm
      have h6 := World.var?_cell hg1 hv1 (j * 3 + i)
      rw [h6, ← Array.getElem?_toList]
      have h7 := congrArg (fun l => l[0]?) e1
      simp only [List.getElem?_cons_zero] at h7
      rw [List.getElem?_take_of_lt (by omega), List.getElem?_drop, List.getElem?_take_of_lt (by omega), List.getElem?_drop, Nat.add_zero] at h7
      rw [h7, h5]
    refine ⟨?_, hcell⟩
    rcases Nat.lt_or_ge 0 W.heap.size with h0 | h0
    · exact h0
    · have h1 := hcell 0 0 (by omega) (by omega)
      rw [World.cell?, Array.getElem?_eq_none (by show W.heap.size ≤ 0; omega)] at h1
      cases h1
end Go.Proofs.YtehboglielnjbaaGreatDoor
