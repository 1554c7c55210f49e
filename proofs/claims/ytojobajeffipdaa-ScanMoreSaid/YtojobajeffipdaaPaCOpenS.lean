/- A slice of integers among the arguments, opened. No condition. -/
import Derived.Test.YtojobajeffipdaaPaCOpen
set_option linter.unusedSimpArgs false
set_option linter.unusedVariables false
namespace Go.Proofs.Ytojobajeffipdaa
open Go.ChangeShapes Go.WideShapes Go.ChangeAt Go.RowKit

theorem u16_nat {n : Int} (h : (Lit.int .u16 n).wf = true) : ∃ u : Nat, n = u ∧ u ≤ 65535 := by
  have h2 : 0 ≤ n ∧ n ≤ 65535 := by
    simp [Lit.wf, IntKind.min, IntKind.max, IntKind.signed, IntKind.bits] at h
    omega
  exact ⟨n.toNat, by omega, by omega⟩
end Go.Proofs.Ytojobajeffipdaa
