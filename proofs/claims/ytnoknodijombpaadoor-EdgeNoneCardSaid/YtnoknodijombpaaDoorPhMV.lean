/- The contracts of varint.Get, GetSigned, place, number. No condition. -/
import Derived.Test.YtnoknodijombpaaDoorPhMA
import Derived.Laws.DeepNot64
import Derived.Laws.BitsAllLaws
import Derived.Laws.CopyOwn
import Derived.OwnWalk
import Derived.Deep.QuietTactic
import Derived.BigQuiet
set_option linter.unusedSimpArgs false
set_option linter.unusedVariables false
namespace Go.Proofs.YtnoknodijombpaaDoor
open Go.RowKit
end Go.Proofs.YtnoknodijombpaaDoor
namespace Go.Proofs.YtnoknodijombpaaDoor
open Go.RowKit
/-- The bytes of a number that Put writes: none below 0. -/
def encI (n : Int) : List Int := if n < 0 then [] else enc n.toNat
/-- All bytes of a list: none of the numbers below 0. -/
def encL (zs : List Int) : List Int := zs.flatMap encI
theorem info_i64 : (Tryd.prog.info? 3).map (fun i => (i.zero, i.size, i.bytes)) = some (some (.int .i64 0), 1, 8) := by kernel_rfl
end Go.Proofs.YtnoknodijombpaaDoor
namespace Go.Proofs.YtnoknodijombpaaDoor
open Go.RowKit
end Go.Proofs.YtnoknodijombpaaDoor
