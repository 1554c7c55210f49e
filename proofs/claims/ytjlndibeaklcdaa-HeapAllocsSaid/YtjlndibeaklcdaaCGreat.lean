/- The contract of the reference's Great: it answers (whatever it answers). No condition. -/
import Derived.Test.YtjlndibeaklcdaaMB
import Derived.Test.YtjlndibeaklcdaaProg
set_option linter.unusedSimpArgs false
set_option linter.unusedVariables false
namespace Go.Proofs.Ytjlndibeaklcdaa
open Go.RowKit

end Go.Proofs.Ytjlndibeaklcdaa
