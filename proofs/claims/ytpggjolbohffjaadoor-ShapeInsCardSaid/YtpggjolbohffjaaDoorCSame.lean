/- The contracts of sameFunc, slices.EqualFunc at Func, Same. No condition. -/
import Derived.Test.YtpggjolbohffjaaDoorCEqF
set_option linter.unusedSimpArgs false
set_option linter.unusedVariables false
namespace Go.Proofs.YtpggjolbohffjaaDoor
open Go.RowKit

theorem fun_eq (x y : FunV) : decide (x = y) = (decide (x.params = y.params) && (decide (x.result = y.result) && (decide (x.kinds = y.kinds) && (decide (x.base = y.base) && decide (x.blocks = y.blocks))))) := by
  obtain ⟨k, b, p, r, l⟩ := x
  obtain ⟨k', b', p', r', l'⟩ := y
  rw [Bool.eq_iff_iff]
  simp
  constructor
  · rintro ⟨h1, h2, h3, h4, h5⟩; exact ⟨h3, h4, h1, h2, h5⟩
  · rintro ⟨h3, h4, h1, h2, h5⟩; exact ⟨h1, h2, h3, h4, h5⟩

end Go.Proofs.YtpggjolbohffjaaDoor
