/- Lists of moves and locations among the arguments, opened. No condition. -/
import Derived.Test.YtkilfejcohnceaaPaIA
import Derived.Test.YtkilfejcohnceaaPaCOpen
import Derived.ChangeSame
set_option linter.unusedSimpArgs false
set_option linter.unusedVariables false
namespace Go.Proofs.Ytkilfejcohnceaa
open Go.ChangeShapes Go.WideShapes Go.ChangeAt Go.RowKit Go.Deep

theorem cells_Move : Try.prog.cellsOf 38 = 4 := by kernel_rfl
theorem ccells_Loc : Try.prog.cellsOf 24 = 2 := by kernel_rfl
theorem hhone_Loc : oneCellFields Try.prog (fieldsOf Try.prog 24) = true := by kernel_rfl
theorem ttypes_Loc : (fieldsOf Try.prog 24).toList.map (·.type) = [3, 3] := by kernel_rfl
section
variable {H : Type} {enc : TypeId × Value → H} {W : World}
theorem read_loc {fuel : Nat} {c0 c1 : Value} {x : DataW H × List MemPlace} (h : DataW.trod enc Try.prog W 0 (fun _ => true) true fuel 24 [c0, c1] = some x) (hlt : ∀ y ∈ x.2, y.block < W.heap.size) : ∃ y : LcV, c0 = .int .i64 y.k ∧ c1 = .int .i64 y.n ∧ lcR y := by
  obtain ⟨d, pl⟩ := x
  obtain ⟨n', hf⟩ := read_struct Try.underlying24 hhone_Loc ttypes_Loc h hlt
  obtain ⟨x0, h0, -⟩ := hf 0 _ c0 rfl rfl
  obtain ⟨x1, h1, -⟩ := hf 1 _ c1 rfl rfl
  obtain ⟨z0, rfl, r0⟩ := open_int1 h0
  obtain ⟨z1, rfl, r1⟩ := open_int1 h1
  exact ⟨⟨z0, z1⟩, rfl, rfl, r0, r1⟩
theorem open_mvs {fuel : Nat} {v : Value} {x : DataW H × List MemPlace} (h : DataW.trod enc Try.prog W 0 (fun _ => true) true fuel 22 [v] = some x) (hlt : ∀ y ∈ x.2, y.block < W.heap.size) : ∃ xs, MvsV W (· < W.heap.size) v xs :=
  open_vec (s := 4) Try.underlying22 cells_Move h hlt (fun b o n cs d pl hl hc htr hp => by
    match cs, hl with
    | [c0, c1, c2, c3], _ =>
      obtain ⟨y0, y1, n', hx, -, h0, h1⟩ := trod_struct2 Try.underlying38 htr
      rw [ccells_Loc] at h0 h1
      simp only [List.drop_zero, List.take_succ_cons, List.take_zero, List.drop_succ_cons] at h0 h1
      have hp0 : ∀ y ∈ y0.2, y.block < W.heap.size := fun y hy => hp y (by have := congrArg Prod.snd hx; simp only at this; rw [this]; simp [hy])
      have hp1 : ∀ y ∈ y1.2, y.block < W.heap.size := fun y hy => hp y (by have := congrArg Prod.snd hx; simp only at this; rw [this]; simp [hy])
      obtain ⟨y, rfl, rfl, hy⟩ := read_loc h0 hp0
      obtain ⟨z, rfl, rfl, hz⟩ := read_loc h1 hp1
      exact ⟨⟨y, z⟩, ⟨hc 0 (by omega), hc 1 (by omega), hc 2 (by omega), hc 3 (by omega)⟩, hy, hz⟩) (by omega)
theorem open_loc {r : Reach} {b0 : Nat} {v : Value} {d : DataW H} {pl : List MemPlace} (hv : Value.okWide Try.prog W r b0 24 v) (h : DataW.Trod enc Try.prog W 0 (fun _ => true) true 24 v d pl) (hlt : ∀ y ∈ pl, y.block < W.heap.size) : ∃ y : LcV, v = lcA y ∧ lcR y := by
  obtain ⟨cs, rfl, hsz⟩ := okWide_struct Try.underlying24 hv
  obtain ⟨fuel, hf⟩ := h
  rw [ccells_Loc] at hsz
  obtain ⟨l⟩ := cs
  match l, hsz with
  | [c0, c1], _ =>
    obtain ⟨y, rfl, rfl, hr⟩ := read_loc hf hlt
    exact ⟨y, rfl, hr⟩
end
end Go.Proofs.Ytkilfejcohnceaa
