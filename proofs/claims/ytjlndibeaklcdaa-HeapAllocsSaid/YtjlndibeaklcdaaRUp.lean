/- The reference's reader of layer 3: upto: a number of at most so much, or the error ('onlyT'). -/
import Derived.Test.YtjlndibeaklcdaaRRs
set_option linter.unusedSimpArgs false
set_option linter.unusedVariables false
namespace Go.Proofs.Ytjlndibeaklcdaa
open Go.RowKit

end Go.Proofs.Ytjlndibeaklcdaa
