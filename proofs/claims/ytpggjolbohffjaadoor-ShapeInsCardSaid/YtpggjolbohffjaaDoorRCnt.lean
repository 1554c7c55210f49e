/- The contract of the reference's Counts. No condition. -/
import Derived.Test.YtpggjolbohffjaaDoorRNum
set_option linter.unusedSimpArgs false
set_option linter.unusedVariables false
namespace Go.Proofs.YtpggjolbohffjaaDoor
open Go.RowKit

theorem funCnt_no {p : List FunV} {k : Nat} {y : FunV} (hy : p[k]? = some y) (h : funCnt y = false) : cntB p = false := by
  unfold cntB; rw [allB_not hy h]; simp
theorem blkCnt_no {y : FunV} {k : Nat} {x : List InsV} (hx : y.blocks[k]? = some x) (h : blkCnt x = false) : funCnt y = false := by
  unfold funCnt; rw [allB_not hx h]; simp
theorem insCnt_no {x : List InsV} {k : Nat} {u : InsV} (hu : x[k]? = some u) (h : insCnt u = false) : blkCnt x = false := by
  unfold blkCnt; rw [allB_not hu h]; simp

end Go.Proofs.YtpggjolbohffjaaDoor
