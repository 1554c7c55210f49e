/- The contracts of shape's Sets, Uses, Next, onlyParts. Condition: the table of parts reads as listed. -/
import Derived.Test.YtojobajeffipdaaPcSA
import Derived.Test.YtojobajeffipdaaPcMV
import Derived.Test.YtojobajeffipdaaPcMC
import Derived.Deep.RegionHeld3
set_option linter.unusedSimpArgs false
set_option linter.unusedVariables false
namespace Go.Proofs.Ytojobajeffipdaa
open Go.RowKit

def nextL (x : InsV) : List Int := if x.op = 21 ∨ (x.op = 22 ∧ x.n = x.m) then [x.n] else if x.op = 22 then [min x.n x.m, max x.n x.m] else []
end Go.Proofs.Ytojobajeffipdaa
namespace Go.Proofs.Ytojobajeffipdaa
open Go.RowKit

end Go.Proofs.Ytojobajeffipdaa
namespace Go.Proofs.Ytojobajeffipdaa
open Go.RowKit

theorem SBoxR.of {w : World} {h : Nat} {o d a b n m : Int} {v : Value} {T : TypeId} (hb : Box w h #[.int .i64 o, .int .i64 d, .int .i64 a, .int .i64 b, .int .i64 n, .int .i64 m, v] T) :
    w.cell? ⟨h, 0, none⟩ = some (.int .i64 o) ∧ w.cell? ⟨h, 1, none⟩ = some (.int .i64 d) ∧ w.cell? ⟨h, 2, none⟩ = some (.int .i64 a) ∧ w.cell? ⟨h, 3, none⟩ = some (.int .i64 b) ∧ w.cell? ⟨h, 4, none⟩ = some (.int .i64 n) ∧ w.cell? ⟨h, 5, none⟩ = some (.int .i64 m) ∧ w.cell? ⟨h, 6, none⟩ = some v :=
  ⟨(hb.cell 0 (v := .int .i64 o) rfl).1, (hb.cell 1 (v := .int .i64 d) rfl).1, (hb.cell 2 (v := .int .i64 a) rfl).1, (hb.cell 3 (v := .int .i64 b) rfl).1, (hb.cell 4 (v := .int .i64 n) rfl).1, (hb.cell 5 (v := .int .i64 m) rfl).1, (hb.cell 6 (v := v) rfl).1⟩
end Go.Proofs.Ytojobajeffipdaa
namespace Go.Proofs.Ytojobajeffipdaa
open Go.RowKit

theorem SScp.of {w : World} {h : Nat} {v1 v2 v3 : Value} {T : TypeId} (hb : Box w h #[v1, v2, v3] T) : w.cell? ⟨h, 0, none⟩ = some v1 ∧ w.cell? ⟨h, 1, none⟩ = some v2 ∧ w.cell? ⟨h, 2, none⟩ = some v3 :=
  ⟨(hb.cell 0 (v := v1) rfl).1, (hb.cell 1 (v := v2) rfl).1, (hb.cell 2 (v := v3) rfl).1⟩
end Go.Proofs.Ytojobajeffipdaa
namespace Go.Proofs.Ytojobajeffipdaa
open Go.RowKit

end Go.Proofs.Ytojobajeffipdaa
namespace Go.Proofs.Ytojobajeffipdaa
open Go.RowKit

end Go.Proofs.Ytojobajeffipdaa
