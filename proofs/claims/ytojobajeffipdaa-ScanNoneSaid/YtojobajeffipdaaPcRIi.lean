/- The reference's ins, its mathematics: what the operation's number leaves; the instruction under way when a letter is laid, when a number is put behind its list. No condition. -/
import Derived.Test.YtojobajeffipdaaPcMV
import Derived.Test.YtojobajeffipdaaPcMD
import Derived.Test.YtojobajeffipdaaPcRErr
import Derived.Test.YtojobajeffipdaaPcMC
import Derived.Test.YtojobajeffipdaaPcMR
import Derived.Test.YtojobajeffipdaaPcME
set_option linter.unusedSimpArgs false
set_option linter.unusedVariables false
namespace Go.Proofs.Ytojobajeffipdaa
open Go.RowKit

/-- Block b holds things of type T. -/
def TB (w : World) (T : TypeId) (b : Nat) : Prop := ∃ c fz, w.heap[b]? = some (.cells c T fz)
theorem TB.set {w : World} {T : TypeId} {b h j : Nat} {v : Value} (t : TB w T b) (hb : b ≠ h) : TB (w.setCell ⟨h, j, none⟩ v) T b := by
  obtain ⟨c, fz, e⟩ := t
  exact ⟨c, fz, (heap_setCell_other w ⟨h, j, none⟩ b v hb).trans e⟩
end Go.Proofs.Ytojobajeffipdaa
