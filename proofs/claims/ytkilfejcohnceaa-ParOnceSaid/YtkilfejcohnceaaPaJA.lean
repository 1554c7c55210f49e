/- Layer 11, the program: slices.Backward over instructions, and live.through. Condition: the table of parts reads as listed. -/
import Derived.Test.YtkilfejcohnceaaPaKSX
import Derived.RangeFuncNested
import Derived.RangeFuncBound
import Derived.RangeFuncCalls
import Derived.RangeFuncLeaves
import Derived.Shelf.Abstract
import Derived.Shelf.RegionOpen
import Derived.WalkKit
import Derived.OwnWalkIn
import Derived.TacticsInMore
import Derived.LoopNIn
import Derived.LoopIn
set_option linter.unusedSimpArgs false
set_option linter.unusedVariables false
namespace Go.Proofs.Ytkilfejcohnceaa
open Go.RowKit Go.Shelf
attribute [local go_sem] Oper.semAt_some

/-- What a round keeps: what lay below h, and the box of the slice. -/
def KpB (h Bs : Nat) (t : TypeId) (vs : Value) (W W' : World) : Prop := Below h W W' ∧ (Boxed W Bs t vs → Boxed W' Bs t vs)
theorem KpB.t {h Bs : Nat} {t : TypeId} {vs : Value} {A B C : World} (x : KpB h Bs t vs A B) (y : KpB h Bs t vs B C) : KpB h Bs t vs A C := ⟨x.1.trans y.1, fun k => y.2 (x.2 k)⟩
theorem KpB.b {h Bs : Nat} {t : TypeId} {vs : Value} {w : World} (hn : h ≤ w.heap.size) (hBs : Bs < w.heap.size) (W : World) (l : Nat) (o o' : Obj) (hl : w.heap.size ≤ l) (hk : W.heap[l]? = some o) (h1 : o.isCells = false) (h2 : o.isWalk = false) : KpB h Bs t vs W (W.putObj l o') :=
  ⟨belowK_b hn W l o o' hl hk h1 h2, fun k => k.kept (grownBy_putObj' W l o') (fun e => by cases e; omega)⟩

end Go.Proofs.Ytkilfejcohnceaa
