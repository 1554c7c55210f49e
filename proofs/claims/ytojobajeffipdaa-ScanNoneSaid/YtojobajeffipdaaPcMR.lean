/- The contracts of the reference's SameIns, SameFunc, Same. No condition. -/
import Derived.Test.YtojobajeffipdaaPcMB
import Derived.Test.YtojobajeffipdaaPcMV
import Derived.Test.YtojobajeffipdaaPcMD
import Derived.Test.YtojobajeffipdaaPcMC
import Derived.Test.YtojobajeffipdaaPcME
import Derived.StillTailTactics
set_option linter.unusedSimpArgs false
set_option linter.unusedVariables false
namespace Go.Proofs.Ytojobajeffipdaa
open Go.RowKit

end Go.Proofs.Ytojobajeffipdaa
namespace Go.Proofs.Ytojobajeffipdaa
open Go.RowKit

theorem Sl.other {w : World} {B g j : Nat} {A : Option Addr} {zs : List Int} {v : Value} (h : Sl w B .u8 A zs) (hg : ∀ a, A = some a → a.block ≠ g) : Sl (w.setCell ⟨g, j, none⟩ v) B .u8 A zs := fun hp => by
  obtain ⟨b, o, e, hb, hc⟩ := h hp
  refine ⟨b, o, e, hb, fun i hi => ?_⟩
  have hne : b ≠ g := hg _ e
  rw [← hc i hi]
  exact World.cell?_of_block (a := ⟨b, o + i, none⟩) (heap_setCell_other w ⟨g, j, none⟩ b v hne)
end Go.Proofs.Ytojobajeffipdaa
namespace Go.Proofs.Ytojobajeffipdaa
open Go.RowKit

end Go.Proofs.Ytojobajeffipdaa
namespace Go.Proofs.Ytojobajeffipdaa
open Go.RowKit

end Go.Proofs.Ytojobajeffipdaa
