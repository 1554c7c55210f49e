/- The contract of the statements' fixed fact. Condition: the table of parts reads as listed. -/
import Derived.Test.YtnoknodijombpaaPeMD
import Derived.Test.YtnoknodijombpaaPeMC
import Derived.Test.YtnoknodijombpaaPeME
set_option linter.unusedSimpArgs false
set_option linter.unusedVariables false
namespace Go.Proofs.Ytnoknodijombpaa
open Go.RowKit

def P0 : FunV := ⟨[0], [-1], 0, 0, [[⟨1, 0, 0, 0, 5, 0, []⟩, ⟨23, 0, 0, 0, 0, 0, []⟩]]⟩
end Go.Proofs.Ytnoknodijombpaa
