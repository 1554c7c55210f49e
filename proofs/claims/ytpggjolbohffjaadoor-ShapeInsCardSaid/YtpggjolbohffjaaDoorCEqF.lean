/- The contracts of slices.EqualFunc at Ins, Block, Func, of sameBlock, sameFunc, Same. No condition. -/
import Derived.Test.YtpggjolbohffjaaDoorCEq
set_option linter.unusedSimpArgs false
set_option linter.unusedVariables false
namespace Go.Proofs.YtpggjolbohffjaaDoor
open Go.RowKit

theorem list_ne {α : Type} {xs ys : List α} {k : Nat} {x y : α} (h1 : xs[k]? = some x) (h2 : ys[k]? = some y) (hxy : ¬ x = y) : ¬ xs = ys := fun h => by
  rw [h, h2] at h1
  exact hxy (Option.some.inj h1).symm
theorem take_more {α : Type} {xs ys : List α} {k : Nat} {x : α} (h : xs.take k = ys.take k) (h1 : xs[k]? = some x) (h2 : ys[k]? = some x) : xs.take (k + 1) = ys.take (k + 1) := by
  rw [List.take_add_one, List.take_add_one, h, h1, h2]

end Go.Proofs.YtpggjolbohffjaaDoor
