/- Texts of several names, of which only what the statement needs is kept. -/
import Derived.Test.YteoopilmdlhkhaaDoorPaMA
import Derived.Test.YteoopilmdlhkhaaDoorPaMB
import Derived.Test.YteoopilmdlhkhaaDoorPaQA
import Derived.Test.YteoopilmdlhkhaaDoorPaNQ
import Derived.Test.YteoopilmdlhkhaaDoorRows
import Derived.ProofKit
import Derived.OpenShut
import Derived.Deep.Slices
import Derived.Deep.Fields
import Derived.ChangeSame
import Derived.LaidMore
import Derived.LaidHandle
import Derived.LaidLaws
import Derived.ChangeArms
import Derived.Stop.Joined
/- What all rows of the seat share: the program's closed facts; a program among the arguments, opened; the table. Condition: the table reads as listed. -/
set_option linter.unusedSimpArgs false
set_option linter.unusedVariables false
namespace Go.Proofs.YteoopilmdlhkhaaDoor
open Go.ChangeShapes Go.WideShapes Go.ChangeAt Go.RowKit Go.Deep

theorem own : ownKnob Tryd.prog.godebug = none := by kernel_rfl
theorem laidOut : laidOutB Tryd.prog = true := by kernel_rfl
theorem cells_u8 : Tryd.prog.cellsOf 5 = 1 := by kernel_rfl
theorem cells_str : Tryd.prog.cellsOf 9 = 1 := by kernel_rfl
section
variable {H : Type} {enc : TypeId × Value → H} {W : World}
theorem int_R {n : Int} (h : (Lit.int .i64 n).wf = true) : i64R n := bounds_i64 h
theorem fields_of {t : TypeId} {fs : Array Field} {fuel : Nat} {cs : List Value} {d : DataW H} {pl : List MemPlace} (hs : Tryd.prog.underlying t = some (.struct fs)) (hone : oneCellFields Tryd.prog fs = true) (h : DataW.trod enc Tryd.prog W 0 (fun _ => true) true fuel t cs = some (d, pl)) (hlt : ∀ y ∈ pl, y.block < W.heap.size) :
    ∃ n, ∀ (i : Nat) (f : Field) (u : Value), fs[i]? = some f → cs[i]? = some u → ∃ x, DataW.trod enc Tryd.prog W 0 (fun _ => true) true n f.type [u] = some x ∧ ∀ y ∈ x.2, y.block < W.heap.size := by
  obtain ⟨xs, n, -, hx, -, hl, hf⟩ := DataW.trod_struct hs h
  simp only [Prod.mk.injEq] at hx
  refine ⟨n, fun i f u hi hu => ?_⟩
  obtain ⟨ho, hk⟩ := hone_of hone i f hi
  have h1 := hf i f hi
  rw [ho, hk] at h1
  have hil : i < cs.length := (List.getElem?_eq_some_iff.1 hu).1
  have h2 : (cs.drop i).take 1 = [u] := by
    rw [List.drop_eq_getElem_cons hil]
    have := (List.getElem?_eq_some_iff.1 hu).2
    simp [this]
  rw [h2] at h1
  have hix : i < xs.length := by rw [hl]; exact (Array.getElem?_eq_some_iff.1 hi).1
  rw [List.getElem?_eq_getElem hix] at h1
  exact ⟨_, h1, fun y hy => hlt y (by rw [hx.2]; exact List.mem_flatMap.2 ⟨_, List.getElem_mem hix, hy⟩)⟩
def fieldsOf (P : Program) (t : TypeId) : Array Field := match P.underlying t with | some (.struct fs) => fs | _ => #[]
/-- A struct's fields, by their types. -/
theorem read_struct {t : TypeId} {fs : Array Field} {ts : List TypeId} {fuel : Nat} {cs : List Value} {d : DataW H} {pl : List MemPlace} (hs : Tryd.prog.underlying t = some (.struct fs)) (hone : oneCellFields Tryd.prog (fieldsOf Tryd.prog t) = true)
    (hts : (fieldsOf Tryd.prog t).toList.map (·.type) = ts) (h : DataW.trod enc Tryd.prog W 0 (fun _ => true) true fuel t cs = some (d, pl)) (hlt : ∀ y ∈ pl, y.block < W.heap.size) :
    ∃ n, ∀ (i : Nat) (ty : TypeId) (u : Value), ts[i]? = some ty → cs[i]? = some u → ∃ x, DataW.trod enc Tryd.prog W 0 (fun _ => true) true n ty [u] = some x ∧ ∀ y ∈ x.2, y.block < W.heap.size := by
  have hfs : fieldsOf Tryd.prog t = fs := by unfold fieldsOf; rw [hs]
  rw [hfs] at hone hts
  obtain ⟨n, hn⟩ := fields_of hs hone h hlt
  refine ⟨n, fun i ty u hi hu => ?_⟩
  rw [← hts, List.getElem?_map] at hi
  cases hf : fs.toList[i]? with
  | none => rw [hf] at hi; cases hi
  | some f =>
    rw [hf] at hi
    simp only [Option.map_some, Option.some.injEq] at hi
    subst hi
    exact hn i f u (by rw [← Array.getElem?_toList]; exact hf) hu
theorem open_int1 {fuel : Nat} {u : Value} {x : DataW H × List MemPlace} (h : DataW.trod enc Tryd.prog W 0 (fun _ => true) true fuel 3 [u] = some x) : ∃ z, u = .int .i64 z ∧ i64R z := by
  obtain ⟨z, e, -, hw⟩ := DataW.trod_int Tryd.underlying3 h
  simp at e
  exact ⟨z, e, int_R hw⟩
end
end Go.Proofs.YteoopilmdlhkhaaDoor

/- What the tied rows of the seat share: what the two listed tables give the walks; a span by value, opened. Conditions: the tables read as listed. -/
set_option linter.unusedSimpArgs false
set_option linter.unusedVariables false
namespace Go.Proofs.YteoopilmdlhkhaaDoor
open Go.ChangeShapes Go.WideShapes Go.ChangeAt Go.RowKit Go.Deep

theorem gCodeZ : Tryd.prog.globalNamed "portolan/code.parts" = some 0 := by kernel_rfl
theorem tCodeZ : (Tryd.prog.globals[0]?).map (·.type) = some 128 := by kernel_rfl
theorem gDeb15 : Tryd.prog.globalNamed "math/bits.deBruijn64tab" = some 1 := by kernel_rfl
theorem tDeb15 : (Tryd.prog.globals[1]?).map (·.type) = some 129 := by kernel_rfl
def laidZ : List (String × DataW Unit) := [("math/bits.deBruijn64tab", Rows.laid_math_bits_deBruijn64tab), ("portolan/code.parts", Rows.laid_portolan_code_parts)]
theorem door_metZ (os : Os) (args : Array Value) : laidMetH Tryd.prog laidZ ((World.doorLaid Tryd.prog 400 os).forCall (fun _ _ => 0) ⟨#[], args, []⟩).memory :=
  laidMetH_of_parts3 (fuel := 8) (laidMet_of_run' 8 (by kernel_rfl) (by kernel_rfl)) (by kernel_rfl) (by kernel_rfl)
theorem laid_listZ : (Rows.laid_portolan_code_parts : DataW Unit) = .agg (partsT.map fun l => .lit (.string (l.map UInt8.ofNat))) := by rfl
theorem laid_listW : (Rows.laid_math_bits_deBruijn64tab : DataW Unit) = .agg (Lib.deBruijn64tab.map fun n => .lit (.int .u8 ((n : Nat) : Int))) := by rfl
theorem of_laidZ {W : World} (h : laidMetH Tryd.prog laidZ W) : TabP W ∧ TabW W := by
  rw [MakeChecks.laidMetH_plain _ _ _ (by kernel_rfl)] at h
  obtain ⟨ps, ⟨g0, t0, cs0, f0, p0, q0, hg0, ht0, hv0, hd0, hrest, _⟩, _, _⟩ := h
  obtain ⟨g1, t1, cs1, f1, p1, q1, hg1, ht1, hv1, hd1, _, _⟩ := hrest
  obtain rfl := Option.some.inj (gDeb15.symm.trans hg0)
  obtain rfl := Option.some.inj (tDeb15.symm.trans ht0)
  obtain rfl := Option.some.inj (gCodeZ.symm.trans hg1)
  obtain rfl := Option.some.inj (tCodeZ.symm.trans ht1)
  constructor
  · obtain ⟨xs, m1, rfl, hx1, hlen, hn, hel⟩ := DataW.trod_array Tryd.underlying128 hd1
    rw [laid_listZ] at hx1
    simp only [Prod.mk.injEq, DataW.agg.injEq] at hx1
    have hcell : ∀ j, j < 24 → W.cell? ⟨0, j, none⟩ = some (.string (strOf (partsT.getD j []))) := fun j hj => by
      have h1 := hel j hj
      rw [cells_str, Nat.mul_one] at h1
      obtain ⟨x, hx⟩ : ∃ x, xs[j]? = some x := ⟨_, List.getElem?_eq_getElem (by omega)⟩
      rw [hx] at h1
      obtain ⟨k, e1, e2, _⟩ := DataW.trod_string Tryd.underlying9 h1
      have h2 : (xs.map (·.1))[j]? = some x.1 := by rw [List.getElem?_map, hx]; rfl
      rw [← hx1.1, List.getElem?_map] at h2
      have hlt : j < partsT.length := hj
      rw [List.getElem?_eq_getElem hlt, e2] at h2
      simp only [Option.map_some, Option.some.injEq, DataW.lit.injEq, Lit.string.injEq] at h2
      have h3 := World.var?_cell hg1 hv1 j
      rw [h3, ← Array.getElem?_toList]
      have h4 := congrArg (fun l => l[0]?) e1
      simp only [List.getElem?_cons_zero] at h4
      rw [List.getElem?_take_of_lt (by omega), List.getElem?_drop, Nat.add_zero] at h4
      rw [h4]
      have h5 : k = strOf (partsT.getD j []) := by
        obtain ⟨⟨l⟩⟩ := k
        simp only at h2
        unfold strOf
        rw [List.getD, List.getElem?_eq_getElem hlt, Option.getD_some, h2]
      rw [h5]
    refine ⟨?_, hcell⟩
    rcases Nat.lt_or_ge 0 W.heap.size with h0 | h0
    · exact h0
    · have h1 := hcell 0 (by omega)
      rw [World.cell?, Array.getElem?_eq_none (by show W.heap.size ≤ 0; omega)] at h1
      cases h1
  · obtain ⟨xs, m1, rfl, hx1, hlen, hn, hel⟩ := DataW.trod_array Tryd.underlying129 hd0
    rw [laid_listW] at hx1
    simp only [Prod.mk.injEq, DataW.agg.injEq] at hx1
    have hcell : ∀ j, j < 64 → W.cell? ⟨1, j, none⟩ = some (.int .u8 ((Lib.deBruijn64tab.getD j 0 : Nat) : Int)) := fun j hj => by
      have h1 := hel j hj
      rw [cells_u8, Nat.mul_one] at h1
      obtain ⟨x, hx⟩ : ∃ x, xs[j]? = some x := ⟨_, List.getElem?_eq_getElem (by omega)⟩
      rw [hx] at h1
      obtain ⟨k, e1, e2, _⟩ := DataW.trod_int Tryd.underlying5 h1
      have h2 : (xs.map (·.1))[j]? = some x.1 := by rw [List.getElem?_map, hx]; rfl
      rw [← hx1.1, List.getElem?_map] at h2
      have hlt : j < Lib.deBruijn64tab.length := hj
      rw [List.getElem?_eq_getElem hlt, e2] at h2
      simp only [Option.map_some, Option.some.injEq, DataW.lit.injEq, Lit.int.injEq, true_and] at h2
      have h3 := World.var?_cell hg0 hv0 j
      rw [h3, ← Array.getElem?_toList]
      have h4 := congrArg (fun l => l[0]?) e1
      simp only [List.getElem?_cons_zero] at h4
      rw [List.getElem?_take_of_lt (by omega), List.getElem?_drop, Nat.add_zero] at h4
      rw [h4, ← h2]
      simp [List.getD, List.getElem?_eq_getElem hlt]
    refine ⟨?_, hcell⟩
    rcases Nat.lt_or_ge 1 W.heap.size with h0 | h0
    · exact h0
    · have h1 := hcell 0 (by omega)
      rw [World.cell?, Array.getElem?_eq_none (by show W.heap.size ≤ 1; omega)] at h1
      cases h1
theorem scells_Span15 : Tryd.prog.cellsOf 23 = 4 := by kernel_rfl
theorem shone_Span15 : oneCellFields Tryd.prog (fieldsOf Tryd.prog 23) = true := by kernel_rfl
theorem stypes_Span15 : (fieldsOf Tryd.prog 23).toList.map (·.type) = [3, 3, 3, 4] := by kernel_rfl
section
variable {H : Type} {enc : TypeId × Value → H} {W : World}
theorem open_bool15 {fuel : Nat} {u : Value} {x : DataW H × List MemPlace} (h : DataW.trod enc Tryd.prog W 0 (fun _ => true) true fuel 4 [u] = some x) : ∃ b, u = .bool b := by
  obtain ⟨b, e, -⟩ := DataW.trod_bool Tryd.underlying4 h
  simp at e
  exact ⟨b, e⟩
set_option maxRecDepth 100000 in
theorem open_span15 {r : Reach} {b0 : Nat} {v : Value} {d : DataW H} {pl : List MemPlace} (hv : Value.okWide Tryd.prog W r b0 23 v) (h : DataW.Trod enc Tryd.prog W 0 (fun _ => true) true 23 v d pl) (hlt : ∀ y ∈ pl, y.block < W.heap.size) : ∃ y : SpV, v = spA y := by
  obtain ⟨cs, rfl, hsz⟩ := okWide_struct Tryd.underlying23 hv
  obtain ⟨fuel, hf⟩ := h
  rw [scells_Span15] at hsz
  obtain ⟨l⟩ := cs
  match l, hsz with
  | [c0, c1, c2, c3], _ =>
    obtain ⟨n', hf⟩ := read_struct Tryd.underlying23 shone_Span15 stypes_Span15 hf hlt
    obtain ⟨x0, h0, -⟩ := hf 0 _ c0 rfl rfl
    obtain ⟨x1, h1, -⟩ := hf 1 _ c1 rfl rfl
    obtain ⟨x2, h2, -⟩ := hf 2 _ c2 rfl rfl
    obtain ⟨x3, h3, -⟩ := hf 3 _ c3 rfl rfl
    obtain ⟨z0, rfl, r0⟩ := open_int1 h0
    obtain ⟨z1, rfl, r1⟩ := open_int1 h1
    obtain ⟨z2, rfl, r2⟩ := open_int1 h2
    obtain ⟨z3, rfl⟩ := open_bool15 h3
    exact ⟨⟨z0, z1, z2, z3⟩, rfl⟩
end
end Go.Proofs.YteoopilmdlhkhaaDoor
