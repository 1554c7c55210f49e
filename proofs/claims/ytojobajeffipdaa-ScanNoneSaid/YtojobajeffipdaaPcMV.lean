/- The contracts of varint.Get, GetSigned, place, number. No condition. -/
import Derived.Test.YtojobajeffipdaaPcMA
import Derived.Laws.DeepNot64
import Derived.Laws.BitsAllLaws
import Derived.Laws.CopyOwn
import Derived.OwnWalk
import Derived.Deep.QuietTactic
import Derived.BigQuiet
set_option linter.unusedSimpArgs false
set_option linter.unusedVariables false
namespace Go.Proofs.Ytojobajeffipdaa
open Go.RowKit
end Go.Proofs.Ytojobajeffipdaa
namespace Go.Proofs.Ytojobajeffipdaa
open Go.RowKit
/-- The bytes of a number that Put writes: none below 0. -/
def encI (n : Int) : List Int := if n < 0 then [] else enc n.toNat
/-- All bytes of a list: none of the numbers below 0. -/
def encL (zs : List Int) : List Int := zs.flatMap encI
end Go.Proofs.Ytojobajeffipdaa
namespace Go.Proofs.Ytojobajeffipdaa
open Go.RowKit
end Go.Proofs.Ytojobajeffipdaa
