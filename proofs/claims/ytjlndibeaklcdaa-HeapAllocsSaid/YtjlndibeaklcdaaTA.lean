/- The contracts of the reference's within, Last, has, Sets, Next, Uses of layer 4. No condition but on lengths. -/
import Derived.Test.YtjlndibeaklcdaaSB
import Derived.Test.YtjlndibeaklcdaaMR
set_option linter.unusedSimpArgs false
set_option linter.unusedVariables false
namespace Go.Proofs.Ytjlndibeaklcdaa
open Go.RowKit

end Go.Proofs.Ytjlndibeaklcdaa
