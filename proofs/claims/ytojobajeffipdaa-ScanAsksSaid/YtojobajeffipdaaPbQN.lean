/- Layer 16, the mathematics: slots are numbered without gaps; where there is room each has a register; moved spans; how many slots are needed. No condition. -/
import Derived.Test.YtojobajeffipdaaPbQM
set_option linter.unusedSimpArgs false
set_option linter.unusedVariables false
namespace Go.Proofs.Ytojobajeffipdaa
open Go.RowKit

/-- Slots. -/
def slotF (n : Int) (x : LcV) : Int := if x.k = 2 ∧ 0 ≤ x.n ∧ x.n < 1099511627776 then max n (x.n + 1) else n
def slotsN (ls : List LcV) : Int := ls.foldl slotF 0
theorem slotF_ref {n : Int} {x : LcV} (hn : 0 ≤ n) : (if x.k = 2 ∧ n ≤ x.n ∧ x.n < 1099511627776 then x.n + 1 else n) = slotF n x := by
  unfold slotF
  split <;> split <;> omega
theorem slotF_nn {n : Int} {x : LcV} (hn : 0 ≤ n) : 0 ≤ slotF n x ∧ (n ≤ 1099511627776 → slotF n x ≤ 1099511627776) := by
  unfold slotF
  split <;> omega
end Go.Proofs.Ytojobajeffipdaa
