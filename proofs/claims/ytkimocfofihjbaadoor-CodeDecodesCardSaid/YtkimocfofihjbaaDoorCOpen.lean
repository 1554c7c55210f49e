/- What all rows of the seat share: the program's closed facts; a program among the arguments, opened; the table. Condition: the table reads as listed. -/
import Derived.Test.YtkimocfofihjbaaDoorMA
import Derived.Test.YtkimocfofihjbaaDoorMB
import Derived.Test.YtkimocfofihjbaaDoorRows
import Derived.ProofKit
import Derived.OpenShut
import Derived.Deep.Slices
import Derived.Deep.Fields
import Derived.ChangeSame
import Derived.LaidMore
import Derived.LaidHandle
import Derived.LaidLaws
import Derived.ChangeArms
import Derived.Stop.Joined
set_option linter.unusedSimpArgs false
set_option linter.unusedVariables false
namespace Go.Proofs.YtkimocfofihjbaaDoor
open Go.ChangeShapes Go.WideShapes Go.ChangeAt Go.RowKit Go.Deep

theorem own : ownKnob Tryd.prog.godebug = none := by kernel_rfl
theorem laidOut : laidOutB Tryd.prog = true := by kernel_rfl
theorem cells_u8 : Tryd.prog.cellsOf 5 = 1 := by kernel_rfl
theorem cells_i64 : Tryd.prog.cellsOf 3 = 1 := by kernel_rfl
theorem cells_str : Tryd.prog.cellsOf 9 = 1 := by kernel_rfl
theorem gTab : Tryd.prog.globalNamed "portolan/code.parts" = some 0 := by kernel_rfl
theorem tTab : (Tryd.prog.globals[0]?).map (·.type) = some 58 := by kernel_rfl
def laid1 : List (String × DataW Unit) := [("portolan/code.parts", Rows.laid_portolan_code_parts)]
theorem door_met (os : Os) (args : Array Value) : laidMetH Tryd.prog laid1 ((World.doorLaid Tryd.prog 400 os).forCall (fun _ _ => 0) ⟨#[], args, []⟩).memory :=
  laidMetH_of_parts3 (fuel := 8) (laidMet_of_run' 8 (by kernel_rfl) (by kernel_rfl)) (by kernel_rfl) (by kernel_rfl)

section
variable {H : Type} {enc : TypeId × Value → H} {W : World}
/-- A slice among what is read: things, each as its own reading tells. -/
theorem open_vec {α : Type} {t e : TypeId} {s fuel : Nat} {v : Value} {x : DataW H × List MemPlace} {P : Nat → Nat → α → Prop} (ht : Tryd.prog.underlying t = some (.slice e)) (hC : Tryd.prog.cellsOf e = s)
    (h : DataW.trod enc Tryd.prog W 0 (fun _ => true) true fuel t [v] = some x) (hlt : ∀ y ∈ x.2, y.block < W.heap.size)
    (hel : ∀ (b o n : Nat) (cs : List Value) (d : DataW H) (pl : List MemPlace), cs.length = s → (∀ i, i < s → W.cell? ⟨b, o + i, none⟩ = cs[i]?) → DataW.trod enc Tryd.prog W 0 (fun _ => true) true n e cs = some (d, pl) → (∀ y ∈ pl, y.block < W.heap.size) → ∃ a : α, P b o a) (hs : 0 < s) :
    ∃ xs : List α, Vec s P (· < W.heap.size) v xs := by
  rcases open_slice ht h with ⟨h1, -⟩ | ⟨a, len, cap, m, n, D, Pl, hcs, -, hl, hm, hmm, rfl, hi⟩
  · simp at h1
    subst h1
    exact ⟨[], Vec.nil _ _ _⟩
  · simp at hcs
    subst hcs
    simp only [if_true] at hmm
    subst hmm
    have hm' : m ≤ 9223372036854775807 := by unfold maxLen at hm; exact hm
    by_cases h0 : len = 0
    · subst h0
      exact ⟨[], some a, m, rfl, by simp, hm', fun hp => absurd hp (by simp)⟩
    · obtain ⟨b, o, spot⟩ := a
      have hspot : spot = none := by
        obtain ⟨cs', hc, -⟩ := hi 0 (by omega)
        obtain ⟨-, hlc, hat⟩ := World.cells?_some hc
        have h1 := hat 0 (by omega)
        have h2 : ∃ u, cs'[0]? = some u := ⟨_, List.getElem?_eq_getElem (by omega)⟩
        obtain ⟨u, hu⟩ := h2
        rw [hu] at h1
        simpa [Addr.add] using World.cell?_spot h1
      subst hspot
      have hb : b < W.heap.size := by
        refine hlt (.cell b o) (List.mem_append_left _ ?_)
        exact MemPlace.mem_row.2 ⟨0, Nat.mul_pos (by omega) (by omega), by simp⟩
      have key : ∀ k, k ≤ len → ∃ xs : List α, xs.length = k ∧ ∀ (j : Nat) (y : α), xs[j]? = some y → P b (o + j * s) y := by
        intro k
        induction k with
        | zero => exact fun _ => ⟨[], rfl, fun j y hj => by simp at hj⟩
        | succ k ih =>
          intro hk
          obtain ⟨xs, hxl, hx⟩ := ih (by omega)
          obtain ⟨cs', hc, htr⟩ := hi k (by omega)
          obtain ⟨-, hlc, hat⟩ := World.cells?_some hc
          rw [hC] at hlc hat
          obtain ⟨y, hy⟩ := hel b (o + k * s) n cs' (D k) (Pl k) hlc (fun i hi' => by
            have := hat i hi'
            rw [add_plain, add_plain] at this
            exact this) htr (fun z hz => hlt z (List.mem_append_right _ (List.mem_flatMap.2 ⟨k, List.mem_range.2 (by omega), hz⟩)))
          refine ⟨xs ++ [y], by simp [hxl], fun j z hj => ?_⟩
          by_cases hjl : j < xs.length
          · rw [List.getElem?_append_left hjl] at hj
            exact hx j z hj
          · have hjk : j = k := by
              have := (List.getElem?_eq_some_iff.1 hj).1
              simp at this; omega
            subst hjk
            rw [← hxl, List.getElem?_append_right (Nat.le_refl _)] at hj
            simp at hj
            subst hj
            exact hy
      obtain ⟨xs, hxl, hx⟩ := key len (Nat.le_refl _)
      exact ⟨xs, some ⟨b, o, none⟩, m, by rw [hxl], by omega, hm', fun _ => ⟨b, o, rfl, hb, hx⟩⟩
theorem int_R {n : Int} (h : (Lit.int .i64 n).wf = true) : i64R n := bounds_i64 h
theorem open_intsV {fuel : Nat} {v : Value} {x : DataW H × List MemPlace} (h : DataW.trod enc Tryd.prog W 0 (fun _ => true) true fuel 35 [v] = some x) (hlt : ∀ y ∈ x.2, y.block < W.heap.size) : ∃ zs, IntsV W (· < W.heap.size) v zs :=
  open_vec (s := 1) Tryd.underlying35 cells_i64 h hlt (fun b o n cs d pl hl hc htr _ => by
    obtain ⟨z, rfl, -, hw⟩ := DataW.trod_int Tryd.underlying3 htr
    exact ⟨z, (hc 0 (by omega)), int_R hw⟩) (by omega)
theorem fields_of {t : TypeId} {fs : Array Field} {fuel : Nat} {cs : List Value} {d : DataW H} {pl : List MemPlace} (hs : Tryd.prog.underlying t = some (.struct fs)) (hone : oneCellFields Tryd.prog fs = true) (h : DataW.trod enc Tryd.prog W 0 (fun _ => true) true fuel t cs = some (d, pl)) (hlt : ∀ y ∈ pl, y.block < W.heap.size) :
    ∃ n, ∀ (i : Nat) (f : Field) (u : Value), fs[i]? = some f → cs[i]? = some u → ∃ x, DataW.trod enc Tryd.prog W 0 (fun _ => true) true n f.type [u] = some x ∧ ∀ y ∈ x.2, y.block < W.heap.size := by
  obtain ⟨xs, n, -, hx, -, hl, hf⟩ := DataW.trod_struct hs h
  simp only [Prod.mk.injEq] at hx
  refine ⟨n, fun i f u hi hu => ?_⟩
  obtain ⟨ho, hk⟩ := hone_of hone i f hi
  have h1 := hf i f hi
  rw [ho, hk] at h1
  have hil : i < cs.length := (List.getElem?_eq_some_iff.1 hu).1
  have h2 : (cs.drop i).take 1 = [u] := by
    rw [List.drop_eq_getElem_cons hil]
    have := (List.getElem?_eq_some_iff.1 hu).2
    simp [this]
  rw [h2] at h1
  have hix : i < xs.length := by rw [hl]; exact (Array.getElem?_eq_some_iff.1 hi).1
  rw [List.getElem?_eq_getElem hix] at h1
  exact ⟨_, h1, fun y hy => hlt y (by rw [hx.2]; exact List.mem_flatMap.2 ⟨_, List.getElem_mem hix, hy⟩)⟩
def fieldsOf (P : Program) (t : TypeId) : Array Field := match P.underlying t with | some (.struct fs) => fs | _ => #[]
theorem hone_Ins : oneCellFields Tryd.prog (fieldsOf Tryd.prog 40) = true := by kernel_rfl
theorem hone_Func : oneCellFields Tryd.prog (fieldsOf Tryd.prog 38) = true := by kernel_rfl
theorem hone_Block : oneCellFields Tryd.prog (fieldsOf Tryd.prog 43) = true := by kernel_rfl
theorem hone_Prog : oneCellFields Tryd.prog (fieldsOf Tryd.prog 26) = true := by kernel_rfl
theorem types_Ins : (fieldsOf Tryd.prog 40).toList.map (·.type) = [3, 3, 3, 3, 3, 3, 35] := by kernel_rfl
theorem types_Func : (fieldsOf Tryd.prog 38).toList.map (·.type) = [35, 35, 3, 3, 36] := by kernel_rfl
theorem types_Block : (fieldsOf Tryd.prog 43).toList.map (·.type) = [41] := by kernel_rfl
theorem types_Prog : (fieldsOf Tryd.prog 26).toList.map (·.type) = [24] := by kernel_rfl
/-- A struct's fields, by their types. -/
theorem read_struct {t : TypeId} {fs : Array Field} {ts : List TypeId} {fuel : Nat} {cs : List Value} {d : DataW H} {pl : List MemPlace} (hs : Tryd.prog.underlying t = some (.struct fs)) (hone : oneCellFields Tryd.prog (fieldsOf Tryd.prog t) = true)
    (hts : (fieldsOf Tryd.prog t).toList.map (·.type) = ts) (h : DataW.trod enc Tryd.prog W 0 (fun _ => true) true fuel t cs = some (d, pl)) (hlt : ∀ y ∈ pl, y.block < W.heap.size) :
    ∃ n, ∀ (i : Nat) (ty : TypeId) (u : Value), ts[i]? = some ty → cs[i]? = some u → ∃ x, DataW.trod enc Tryd.prog W 0 (fun _ => true) true n ty [u] = some x ∧ ∀ y ∈ x.2, y.block < W.heap.size := by
  have hfs : fieldsOf Tryd.prog t = fs := by unfold fieldsOf; rw [hs]
  rw [hfs] at hone hts
  obtain ⟨n, hn⟩ := fields_of hs hone h hlt
  refine ⟨n, fun i ty u hi hu => ?_⟩
  rw [← hts, List.getElem?_map] at hi
  cases hf : fs.toList[i]? with
  | none => rw [hf] at hi; cases hi
  | some f =>
    rw [hf] at hi
    simp only [Option.map_some, Option.some.injEq] at hi
    subst hi
    exact hn i f u (by rw [← Array.getElem?_toList]; exact hf) hu
theorem open_int1 {fuel : Nat} {u : Value} {x : DataW H × List MemPlace} (h : DataW.trod enc Tryd.prog W 0 (fun _ => true) true fuel 3 [u] = some x) : ∃ z, u = .int .i64 z ∧ i64R z := by
  obtain ⟨z, e, -, hw⟩ := DataW.trod_int Tryd.underlying3 h
  simp at e
  exact ⟨z, e, int_R hw⟩
theorem cells_Ins : Tryd.prog.cellsOf 40 = 7 := by kernel_rfl
theorem cells_Func : Tryd.prog.cellsOf 38 = 5 := by kernel_rfl
theorem cells_Block : Tryd.prog.cellsOf 43 = 1 := by kernel_rfl
theorem cells_Prog : Tryd.prog.cellsOf 26 = 1 := by kernel_rfl
theorem open_insV {fuel : Nat} {v : Value} {x : DataW H × List MemPlace} (h : DataW.trod enc Tryd.prog W 0 (fun _ => true) true fuel 41 [v] = some x) (hlt : ∀ y ∈ x.2, y.block < W.heap.size) : ∃ xs, InssV W (· < W.heap.size) v xs :=
  open_vec (s := 7) Tryd.underlying41 cells_Ins h hlt (fun b o n cs d pl hl hc htr hp => by
    obtain ⟨n', hf⟩ := read_struct Tryd.underlying40 hone_Ins types_Ins htr hp
    match cs, hl with
    | [c0, c1, c2, c3, c4, c5, c6], _ =>
      obtain ⟨x0, h0, -⟩ := hf 0 _ c0 rfl rfl
      obtain ⟨x1, h1, -⟩ := hf 1 _ c1 rfl rfl
      obtain ⟨x2, h2, -⟩ := hf 2 _ c2 rfl rfl
      obtain ⟨x3, h3, -⟩ := hf 3 _ c3 rfl rfl
      obtain ⟨x4, h4, -⟩ := hf 4 _ c4 rfl rfl
      obtain ⟨x5, h5, -⟩ := hf 5 _ c5 rfl rfl
      obtain ⟨x6, h6, hp6⟩ := hf 6 _ c6 rfl rfl
      obtain ⟨z0, rfl, r0⟩ := open_int1 h0
      obtain ⟨z1, rfl, r1⟩ := open_int1 h1
      obtain ⟨z2, rfl, r2⟩ := open_int1 h2
      obtain ⟨z3, rfl, r3⟩ := open_int1 h3
      obtain ⟨z4, rfl, r4⟩ := open_int1 h4
      obtain ⟨z5, rfl, r5⟩ := open_int1 h5
      obtain ⟨zs, hz⟩ := open_intsV h6 hp6
      exact ⟨⟨z0, z1, z2, z3, z4, z5, zs⟩, c6, ⟨hc 0 (by omega), hc 1 (by omega), hc 2 (by omega), hc 3 (by omega), hc 4 (by omega), hc 5 (by omega), hc 6 (by omega)⟩, hz, r0, r1, r2, r3, r4, r5⟩) (by omega)
theorem open_blksV {fuel : Nat} {v : Value} {x : DataW H × List MemPlace} (h : DataW.trod enc Tryd.prog W 0 (fun _ => true) true fuel 36 [v] = some x) (hlt : ∀ y ∈ x.2, y.block < W.heap.size) : ∃ xs, BlksV W (· < W.heap.size) v xs :=
  open_vec (s := 1) Tryd.underlying36 cells_Block h hlt (fun b o n cs d pl hl hc htr hp => by
    obtain ⟨n', hf⟩ := read_struct Tryd.underlying43 hone_Block types_Block htr hp
    match cs, hl with
    | [c0], _ =>
      obtain ⟨x0, h0, hp0⟩ := hf 0 _ c0 rfl rfl
      obtain ⟨xs, hx⟩ := open_insV h0 hp0
      exact ⟨xs, c0, hc 0 (by omega), hx⟩) (by omega)
theorem open_funsV {fuel : Nat} {v : Value} {x : DataW H × List MemPlace} (h : DataW.trod enc Tryd.prog W 0 (fun _ => true) true fuel 24 [v] = some x) (hlt : ∀ y ∈ x.2, y.block < W.heap.size) : ∃ xs, FunsV W (· < W.heap.size) v xs :=
  open_vec (s := 5) Tryd.underlying24 cells_Func h hlt (fun b o n cs d pl hl hc htr hp => by
    obtain ⟨n', hf⟩ := read_struct Tryd.underlying38 hone_Func types_Func htr hp
    match cs, hl with
    | [c0, c1, c2, c3, c4], _ =>
      obtain ⟨x0, h0, p0⟩ := hf 0 _ c0 rfl rfl
      obtain ⟨x1, h1, p1⟩ := hf 1 _ c1 rfl rfl
      obtain ⟨x2, h2, -⟩ := hf 2 _ c2 rfl rfl
      obtain ⟨x3, h3, -⟩ := hf 3 _ c3 rfl rfl
      obtain ⟨x4, h4, p4⟩ := hf 4 _ c4 rfl rfl
      obtain ⟨ks, hk⟩ := open_intsV h0 p0
      obtain ⟨bs, hb⟩ := open_intsV h1 p1
      obtain ⟨z2, rfl, r2⟩ := open_int1 h2
      obtain ⟨z3, rfl, r3⟩ := open_int1 h3
      obtain ⟨ls, hl⟩ := open_blksV h4 p4
      exact ⟨⟨ks, bs, z2, z3, ls⟩, c0, c1, c4, ⟨hc 0 (by omega), hc 1 (by omega), hc 2 (by omega), hc 3 (by omega), hc 4 (by omega)⟩, hk, hb, hl, r2, r3⟩) (by omega)
set_option maxRecDepth 100000 in
/-- A program among the arguments. -/
theorem open_prog {r : Reach} {b0 : Nat} {v : Value} {d : DataW H} {pl : List MemPlace} (hv : Value.okWide Tryd.prog W r b0 26 v) (h : DataW.Trod enc Tryd.prog W 0 (fun _ => true) true 26 v d pl) (hlt : ∀ y ∈ pl, y.block < W.heap.size) :
    ∃ vp p, v = .agg #[vp] ∧ FunsV W (· < W.heap.size) vp p := by
  obtain ⟨cs, rfl, hsz⟩ := okWide_struct Tryd.underlying26 hv
  obtain ⟨fuel, hf⟩ := h
  obtain ⟨n', hf⟩ := read_struct Tryd.underlying26 hone_Prog types_Prog hf hlt
  rw [cells_Prog] at hsz
  obtain ⟨l⟩ := cs
  match l, hsz with
  | [c0], _ =>
    obtain ⟨x0, h0, p0⟩ := hf 0 _ c0 rfl rfl
    obtain ⟨p, hp⟩ := open_funsV h0 p0
    exact ⟨c0, p, rfl, hp⟩
end
end Go.Proofs.YtkimocfofihjbaaDoor
