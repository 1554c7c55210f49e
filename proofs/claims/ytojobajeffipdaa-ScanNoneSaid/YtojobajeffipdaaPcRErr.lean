/- The mathematics of the reader's early end: behind the first error nothing is read: each of the reading functions keeps the state. -/
import Derived.Test.YtojobajeffipdaaPcMD
set_option linter.unusedSimpArgs false
set_option linter.unusedVariables false
namespace Go.Proofs.Ytojobajeffipdaa
open Go.RowKit

/-- Keeps a state with an error. -/
def KeepE {α : Type} (f : St → α × St) : Prop := ∀ s : St, s.2 ≠ 0 → (f s).2 = s
end Go.Proofs.Ytojobajeffipdaa
