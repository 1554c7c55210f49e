/- The contracts of shape's Sets, Uses, Next, onlyParts. Condition: the table of parts reads as listed. -/
import Derived.Test.YtkilfejcohnceaaPaSA
import Derived.Test.YtkilfejcohnceaaPaMV
import Derived.Test.YtkilfejcohnceaaPaMC
import Derived.Deep.RegionHeld3
set_option linter.unusedSimpArgs false
set_option linter.unusedVariables false
namespace Go.Proofs.Ytkilfejcohnceaa
open Go.RowKit

def hasB4 (op : Int) (c : Nat) : Bool := decide (c ∈ partsN op)
def nextL (x : InsV) : List Int := if x.op = 21 ∨ (x.op = 22 ∧ x.n = x.m) then [x.n] else if x.op = 22 then [min x.n x.m, max x.n x.m] else []
end Go.Proofs.Ytkilfejcohnceaa
namespace Go.Proofs.Ytkilfejcohnceaa
open Go.RowKit

end Go.Proofs.Ytkilfejcohnceaa
namespace Go.Proofs.Ytkilfejcohnceaa
open Go.RowKit

end Go.Proofs.Ytkilfejcohnceaa
namespace Go.Proofs.Ytkilfejcohnceaa
open Go.RowKit

end Go.Proofs.Ytkilfejcohnceaa
namespace Go.Proofs.Ytkilfejcohnceaa
open Go.RowKit

end Go.Proofs.Ytkilfejcohnceaa
namespace Go.Proofs.Ytkilfejcohnceaa
open Go.RowKit

end Go.Proofs.Ytkilfejcohnceaa
