/- The contract of the reference's Great: it answers (whatever it answers). No condition. -/
import Derived.Test.YtjmighlchflnjaaMB
import Derived.Test.YtjmighlchflnjaaProg
set_option linter.unusedSimpArgs false
set_option linter.unusedVariables false
namespace Go.Proofs.Ytjmighlchflnjaa
open Go.RowKit

end Go.Proofs.Ytjmighlchflnjaa
