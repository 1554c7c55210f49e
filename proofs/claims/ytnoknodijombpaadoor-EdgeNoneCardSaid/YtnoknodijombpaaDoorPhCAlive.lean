/- The contract of the statements' fixed fact. Condition: the table of parts reads as listed. -/
import Derived.Test.YtnoknodijombpaaDoorPhMD
import Derived.Test.YtnoknodijombpaaDoorPhMC
import Derived.Test.YtnoknodijombpaaDoorPhME
set_option linter.unusedSimpArgs false
set_option linter.unusedVariables false
namespace Go.Proofs.YtnoknodijombpaaDoor
open Go.RowKit

def P0 : FunV := ⟨[0], [-1], 0, 0, [[⟨1, 0, 0, 0, 5, 0, []⟩, ⟨23, 0, 0, 0, 0, 0, []⟩]]⟩
end Go.Proofs.YtnoknodijombpaaDoor
