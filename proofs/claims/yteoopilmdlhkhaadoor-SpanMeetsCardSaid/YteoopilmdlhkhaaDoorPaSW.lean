/- Texts of several names, of which only what the statement needs is kept. -/
import Derived.Test.YteoopilmdlhkhaaDoorPaMD
import Derived.Test.YteoopilmdlhkhaaDoorPaMC
import Derived.Test.YteoopilmdlhkhaaDoorPaMB
import Derived.Test.YteoopilmdlhkhaaDoorPaSAlive
import Derived.StillTailTactics
/- Plain mathematics: what is read has just those bytes (programs); an error stays. No condition. -/
set_option linter.unusedSimpArgs false
set_option linter.unusedVariables false
namespace Go.Proofs.YteoopilmdlhkhaaDoor
open Go.RowKit

/-- Behind an error nothing is read. -/
def Stk {α : Type} (T : St → α × St) : Prop := ∀ s, s.2 ≠ 0 → (T s).2 = s
theorem Stk.ok {α : Type} {T : St → α × St} (h : Stk T) {s : St} (he : (T s).2.2 = 0) : s.2 = 0 := by
  by_cases hs : s.2 = 0
  · exact hs
  · rw [h s hs] at he; exact absurd he hs

end Go.Proofs.YteoopilmdlhkhaaDoor
namespace Go.Proofs.YteoopilmdlhkhaaDoor
open Go.RowKit

end Go.Proofs.YteoopilmdlhkhaaDoor
namespace Go.Proofs.YteoopilmdlhkhaaDoor
open Go.RowKit

end Go.Proofs.YteoopilmdlhkhaaDoor
namespace Go.Proofs.YteoopilmdlhkhaaDoor
open Go.RowKit

end Go.Proofs.YteoopilmdlhkhaaDoor

/- The contracts of the reference's SameIns, SameFunc, Same. No condition. -/
set_option linter.unusedSimpArgs false
set_option linter.unusedVariables false
namespace Go.Proofs.YteoopilmdlhkhaaDoor
open Go.RowKit

end Go.Proofs.YteoopilmdlhkhaaDoor
namespace Go.Proofs.YteoopilmdlhkhaaDoor
open Go.RowKit

theorem Sl.other {w : World} {B g j : Nat} {A : Option Addr} {zs : List Int} {v : Value} (h : Sl w B .u8 A zs) (hg : ∀ a, A = some a → a.block ≠ g) : Sl (w.setCell ⟨g, j, none⟩ v) B .u8 A zs := fun hp => by
  obtain ⟨b, o, e, hb, hc⟩ := h hp
  refine ⟨b, o, e, hb, fun i hi => ?_⟩
  have hne : b ≠ g := hg _ e
  rw [← hc i hi]
  exact World.cell?_of_block (a := ⟨b, o + i, none⟩) (heap_setCell_other w ⟨g, j, none⟩ b v hne)
end Go.Proofs.YteoopilmdlhkhaaDoor
namespace Go.Proofs.YteoopilmdlhkhaaDoor
open Go.RowKit

end Go.Proofs.YteoopilmdlhkhaaDoor
namespace Go.Proofs.YteoopilmdlhkhaaDoor
open Go.RowKit

end Go.Proofs.YteoopilmdlhkhaaDoor

/- Plain mathematics: what a program that may be has. No condition. -/
set_option linter.unusedSimpArgs false
set_option linter.unusedVariables false
namespace Go.Proofs.YteoopilmdlhkhaaDoor
open Go.RowKit

theorem inB_iff {lo hi n : Int} : inB lo hi n = true ↔ lo ≤ n ∧ n ≤ hi := by unfold inB; simp
end Go.Proofs.YteoopilmdlhkhaaDoor
