/- The statement EdgeSplits, walked: it answers true. Condition: no slice of the program is longer than any machine's memory. -/
import Derived.Test.YtnoknodijombpaaPeDW
set_option linter.unusedSimpArgs false
set_option linter.unusedVariables false
namespace Go.Proofs.Ytnoknodijombpaa
open Go.RowKit

theorem splits_law (vp : Value) (p : List FunV) (w : World) (hp : FunsV w (· < w.heap.size) vp p) (hsz : progSize p) :
    Calls Try.prog 3 #[.agg #[vp]] w fun e w' => e = .returned (.bool true) ∧ Below w.heap.size w w' :=
  splits_law_of vp p w hp hsz fun hpr f hf W vk vb vs B hB hi => by
    have h := (eOk_of hpr f hf).sok
    exact rcopyF_any vk vb vs f W B hB hi h.kinds h.bl (by have := h.flow.1; omega) (fun l hl => ⟨(h.code l hl).2.1, (h.code l hl).2.2⟩)
end Go.Proofs.Ytnoknodijombpaa
