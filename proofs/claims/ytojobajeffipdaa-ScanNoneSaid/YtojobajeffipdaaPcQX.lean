/- Spans and locations among the arguments, opened. No condition. -/
import Derived.Test.YtojobajeffipdaaPcQA
import Derived.Test.YtojobajeffipdaaPcCOpen
set_option linter.unusedSimpArgs false
set_option linter.unusedVariables false
namespace Go.Proofs.Ytojobajeffipdaa
open Go.ChangeShapes Go.WideShapes Go.ChangeAt Go.RowKit Go.Deep

theorem cells_Span : Try.prog.cellsOf 35 = 4 := by kernel_rfl
theorem hone_Span : oneCellFields Try.prog (fieldsOf Try.prog 35) = true := by kernel_rfl
theorem types_Span : (fieldsOf Try.prog 35).toList.map (·.type) = [3, 3, 3, 4] := by kernel_rfl
section
variable {H : Type} {enc : TypeId × Value → H} {W : World}
theorem open_bool1 {fuel : Nat} {u : Value} {x : DataW H × List MemPlace} (h : DataW.trod enc Try.prog W 0 (fun _ => true) true fuel 4 [u] = some x) : ∃ b, u = .bool b := by
  obtain ⟨b, e, -⟩ := DataW.trod_bool Try.underlying4 h
  simp at e
  exact ⟨b, e⟩
theorem open_spsV {fuel : Nat} {v : Value} {x : DataW H × List MemPlace} (h : DataW.trod enc Try.prog W 0 (fun _ => true) true fuel 22 [v] = some x) (hlt : ∀ y ∈ x.2, y.block < W.heap.size) : ∃ xs, SpsV W (· < W.heap.size) v xs :=
  open_vec (s := 4) Try.underlying22 cells_Span h hlt (fun b o n cs d pl hl hc htr hp => by
    obtain ⟨n', hf⟩ := read_struct Try.underlying35 hone_Span types_Span htr hp
    match cs, hl with
    | [c0, c1, c2, c3], _ =>
      obtain ⟨x0, h0, -⟩ := hf 0 _ c0 rfl rfl
      obtain ⟨x1, h1, -⟩ := hf 1 _ c1 rfl rfl
      obtain ⟨x2, h2, -⟩ := hf 2 _ c2 rfl rfl
      obtain ⟨x3, h3, -⟩ := hf 3 _ c3 rfl rfl
      obtain ⟨z0, rfl, r0⟩ := open_int1 h0
      obtain ⟨z1, rfl, r1⟩ := open_int1 h1
      obtain ⟨z2, rfl, r2⟩ := open_int1 h2
      obtain ⟨z3, rfl⟩ := open_bool1 h3
      exact ⟨⟨z0, z1, z2, z3⟩, ⟨hc 0 (by omega), hc 1 (by omega), hc 2 (by omega), hc 3 (by omega)⟩, r0, r1, r2⟩) (by omega)
end
end Go.Proofs.Ytojobajeffipdaa
