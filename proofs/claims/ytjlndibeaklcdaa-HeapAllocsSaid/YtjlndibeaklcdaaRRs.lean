/- The reference's reader of layer 3: GetSigned, num, signed, upto: they do what the program's own reader does ('numT', 'snumT'). -/
import Derived.Test.YtjlndibeaklcdaaRRd
import Derived.Test.YtjlndibeaklcdaaMD
set_option linter.unusedSimpArgs false
set_option linter.unusedVariables false
namespace Go.Proofs.Ytjlndibeaklcdaa
open Go.RowKit

end Go.Proofs.Ytjlndibeaklcdaa
