/- Layer 14: two ints by value among the arguments, opened. No condition. -/
import Derived.Test.YtnoknodijombpaaPfCOpenW
set_option linter.unusedSimpArgs false
set_option linter.unusedVariables false
namespace Go.Proofs.Ytnoknodijombpaa
open Go.ChangeShapes Go.WideShapes Go.ChangeAt Go.RowKit Go.Deep

theorem cells_twoP : Try.prog.cellsOf 41 = 2 := by kernel_rfl
section
variable {H : Type} {enc : TypeId × Value → H} {W : World}
set_option maxRecDepth 100000 in
theorem open_twoP {r : Reach} {b0 : Nat} {v : Value} {d : DataW H} {pl : List MemPlace} (hv : Value.okWide Try.prog W r b0 41 v) (h : DataW.Trod enc Try.prog W 0 (fun _ => true) true 41 v d pl) :
    ∃ a b : Int, v = .agg #[.int .i64 a, .int .i64 b] ∧ i64R a ∧ i64R b := by
  have hs : ∃ cs, v = .agg cs ∧ cs.size = Try.prog.cellsOf 41 := by
    simp only [Value.okWide, Try.underlying41] at hv
    obtain ⟨cs, h1, h2, _⟩ := hv
    exact ⟨cs, h1, h2⟩
  obtain ⟨cs, rfl, hsz⟩ := hs
  obtain ⟨fuel, hf⟩ := h
  rw [cells_twoP] at hsz
  obtain ⟨l⟩ := cs
  match l, hsz with
  | [c0, c1], _ =>
    obtain ⟨xs, m, -, -, -, hl, hel⟩ := DataW.trod_array Try.underlying41 hf
    have h0 := hel 0 (by omega)
    have h1 := hel 1 (by omega)
    rw [cells_i64] at h0 h1
    rw [List.getElem?_eq_getElem (by omega)] at h0 h1
    obtain ⟨a, rfl, ha⟩ := open_int1 h0
    obtain ⟨b, rfl, hb⟩ := open_int1 h1
    exact ⟨a, b, rfl, ha, hb⟩
end
end Go.Proofs.Ytnoknodijombpaa
