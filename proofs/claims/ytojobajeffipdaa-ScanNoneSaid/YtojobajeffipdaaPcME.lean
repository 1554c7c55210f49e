/- Plain mathematics: what is read has just those bytes (programs); an error stays. No condition. -/
import Derived.Test.YtojobajeffipdaaPcMD
import Derived.Test.YtojobajeffipdaaPcMC
set_option linter.unusedSimpArgs false
set_option linter.unusedVariables false
namespace Go.Proofs.Ytojobajeffipdaa
open Go.RowKit

/-- Behind an error nothing is read. -/
def Stk {α : Type} (T : St → α × St) : Prop := ∀ s, s.2 ≠ 0 → (T s).2 = s
theorem Stk.ok {α : Type} {T : St → α × St} (h : Stk T) {s : St} (he : (T s).2.2 = 0) : s.2 = 0 := by
  by_cases hs : s.2 = 0
  · exact hs
  · rw [h s hs] at he; exact absurd he hs

end Go.Proofs.Ytojobajeffipdaa
namespace Go.Proofs.Ytojobajeffipdaa
open Go.RowKit

end Go.Proofs.Ytojobajeffipdaa
namespace Go.Proofs.Ytojobajeffipdaa
open Go.RowKit

end Go.Proofs.Ytojobajeffipdaa
namespace Go.Proofs.Ytojobajeffipdaa
open Go.RowKit

end Go.Proofs.Ytojobajeffipdaa
