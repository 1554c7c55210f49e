/-
  No cell of these rows narrows 'for every input' (looked for: loops, veiled, ifaces, maps, wideKeys, modest, calm, conditions, laid).
  DERIVED. THE GIVEN ROWS OF THIS SEAT. 5 by the template 'for every input the law returns true; each argument reads behind the call as it read before'; 0 by the template 'total and deterministic' (their statements: YtlolgahaphmfoaaTotals.lean).
  GIVEN WITH THE SEED: the statements are not yours to turn. If you find one false, say at which input.
  Laid BY PROGRAM, IN A SANDBOX (cutbox-rows.mjs): the forced cells as the released guide's own fill.sh prints them over the translation ca7e0d48e0f9887c… (all of the seat's roots in one cut). By AI agents, Wed Nov 11 2026. No macro, syntax, notation, axiom, sorry.
-/
import Derived.Test.YtlolgahaphmfoaaChecked
import GoSem.Claim
import GoSem.ClaimJoined
import GoSem.ClaimMapViews
import Derived.JoinedTies
import Derived.KernelRfl
namespace Go.Proofs.Ytlolgahaphmfoaa
/- THE CELL 'sum', in the pinned program and in every row, IS THE sha256 OF THE DUMP (.gsa) THAT YtlolgahaphmfoaaProg.lean LOADS. Nothing in Lean hashes anything: it is a label: what it is worth is what the hold of that sum in a sandbox is worth. -/
noncomputable def Try.pinned : Pinned := { name := "ytlolgahaphmfoaa", sum := "ca7e0d48e0f9887c1f64762efaea944f40bdadc718dccdfb4a5e9573a0e60ad2", checked := Try.checked }
namespace Rows
def none {H : Type} : Left H := { results := [], args := [] }

/-- 'portolanlaw07.LoopEdges': WHATEVER THE INPUT: true; the input reads as it did. -/
def loopEdgesSpec : ChangeSpec := { name := "loopEdges", fn := fun _ => fun
  | [d] => { results := [.lit (.bool true)], args := [d] }
  | _ => none }
def loopEdgesRow : OpenClaim := { program := "ytlolgahaphmfoaa", sum := "ca7e0d48e0f9887c1f64762efaea944f40bdadc718dccdfb4a5e9573a0e60ad2", func := "portolan/portolanlaw07.LoopEdges", spec := "loopEdges", unfollowed := true, recurses := true, apart := false }
def LoopEdgesSaid : Prop := loopEdgesRow.holds Try.pinned (OpenSpec.ofChange loopEdgesSpec)

/-- ITS FALSE NEIGHBOUR: 'it returns false'. Refute it at one input. -/
def loopEdgesWrong : ChangeSpec := { name := "loopEdges", fn := fun _ => fun
  | [d] => { results := [.lit (.bool false)], args := [d] }
  | _ => none }
def LoopEdgesWrongFalsely : Prop := loopEdgesRow.holds Try.pinned (OpenSpec.ofChange loopEdgesWrong)

/-- 'portolanlaw07.LoopBodies': WHATEVER THE INPUT: true; the input reads as it did. -/
def loopBodiesSpec : ChangeSpec := { name := "loopBodies", fn := fun _ => fun
  | [d1, d2] => { results := [.lit (.bool true)], args := [d1, d2] }
  | _ => none }
def loopBodiesRow : OpenClaim := { program := "ytlolgahaphmfoaa", sum := "ca7e0d48e0f9887c1f64762efaea944f40bdadc718dccdfb4a5e9573a0e60ad2", func := "portolan/portolanlaw07.LoopBodies", spec := "loopBodies", unfollowed := true, recurses := true, apart := false }
def LoopBodiesSaid : Prop := loopBodiesRow.holds Try.pinned (OpenSpec.ofChange loopBodiesSpec)

/-- ITS FALSE NEIGHBOUR: 'it returns false'. Refute it at one input. -/
def loopBodiesWrong : ChangeSpec := { name := "loopBodies", fn := fun _ => fun
  | [d1, d2] => { results := [.lit (.bool false)], args := [d1, d2] }
  | _ => none }
def LoopBodiesWrongFalsely : Prop := loopBodiesRow.holds Try.pinned (OpenSpec.ofChange loopBodiesWrong)

/-- 'portolanlaw07.LoopRound': WHATEVER THE INPUT: true; the input reads as it did. -/
def loopRoundSpec : ChangeSpec := { name := "loopRound", fn := fun _ => fun
  | [d] => { results := [.lit (.bool true)], args := [d] }
  | _ => none }
def loopRoundRow : OpenClaim := { program := "ytlolgahaphmfoaa", sum := "ca7e0d48e0f9887c1f64762efaea944f40bdadc718dccdfb4a5e9573a0e60ad2", func := "portolan/portolanlaw07.LoopRound", spec := "loopRound", unfollowed := true, recurses := true, apart := false }
def LoopRoundSaid : Prop := loopRoundRow.holds Try.pinned (OpenSpec.ofChange loopRoundSpec)

/-- ITS FALSE NEIGHBOUR: 'it returns false'. Refute it at one input. -/
def loopRoundWrong : ChangeSpec := { name := "loopRound", fn := fun _ => fun
  | [d] => { results := [.lit (.bool false)], args := [d] }
  | _ => none }
def LoopRoundWrongFalsely : Prop := loopRoundRow.holds Try.pinned (OpenSpec.ofChange loopRoundWrong)

/-- 'portolanlaw07.LoopDeep': WHATEVER THE INPUT: true; the input reads as it did. -/
def loopDeepSpec : ChangeSpec := { name := "loopDeep", fn := fun _ => fun
  | [d] => { results := [.lit (.bool true)], args := [d] }
  | _ => none }
def loopDeepRow : OpenClaim := { program := "ytlolgahaphmfoaa", sum := "ca7e0d48e0f9887c1f64762efaea944f40bdadc718dccdfb4a5e9573a0e60ad2", func := "portolan/portolanlaw07.LoopDeep", spec := "loopDeep", unfollowed := true, recurses := true, apart := false }
def LoopDeepSaid : Prop := loopDeepRow.holds Try.pinned (OpenSpec.ofChange loopDeepSpec)

/-- ITS FALSE NEIGHBOUR: 'it returns false'. Refute it at one input. -/
def loopDeepWrong : ChangeSpec := { name := "loopDeep", fn := fun _ => fun
  | [d] => { results := [.lit (.bool false)], args := [d] }
  | _ => none }
def LoopDeepWrongFalsely : Prop := loopDeepRow.holds Try.pinned (OpenSpec.ofChange loopDeepWrong)

/-- 'portolanlaw07.LoopNested': WHATEVER THE INPUT: true; the input reads as it did. -/
def loopNestedSpec : ChangeSpec := { name := "loopNested", fn := fun _ => fun
  | [d] => { results := [.lit (.bool true)], args := [d] }
  | _ => none }
def loopNestedRow : OpenClaim := { program := "ytlolgahaphmfoaa", sum := "ca7e0d48e0f9887c1f64762efaea944f40bdadc718dccdfb4a5e9573a0e60ad2", func := "portolan/portolanlaw07.LoopNested", spec := "loopNested", unfollowed := true, recurses := true, apart := false }
def LoopNestedSaid : Prop := loopNestedRow.holds Try.pinned (OpenSpec.ofChange loopNestedSpec)

/-- ITS FALSE NEIGHBOUR: 'it returns false'. Refute it at one input. -/
def loopNestedWrong : ChangeSpec := { name := "loopNested", fn := fun _ => fun
  | [d] => { results := [.lit (.bool false)], args := [d] }
  | _ => none }
def LoopNestedWrongFalsely : Prop := loopNestedRow.holds Try.pinned (OpenSpec.ofChange loopNestedWrong)

/- THE SECOND FORM. 'bulk': how many values and letters a reading holds, each counted each time it is reached (what is shared counts as often as it is met; a slice's spare places count too). A statement '..UptoSaid' is the law's where the arguments, and the package variables that the reading takes, are together of bulk at most 1048576: NARROWER than '..Said'. Prove '..Said' where nothing that the law and all that it calls make is longer than what came in: it says more and counts as full. Else prove '..UptoSaid'. A law counts once. -/
mutual
def uptoBulk {H : Type} : DataW H → Nat
  | .lit (.string bytes) => bytes.length + 1
  | .lit _ => 1
  | .nil => 1
  | .ptr d => uptoBulk d + 1
  | .slice elems spare => uptoBulkAll elems + uptoBulkAll spare + 1
  | .agg parts => uptoBulkAll parts + 1
  | .iface _ d => uptoBulk d + 1
  | .map entries => uptoBulkEntries entries + 1
  | .held _ => 1
def uptoBulkAll {H : Type} : List (DataW H) → Nat
  | [] => 0
  | d :: r => uptoBulk d + uptoBulkAll r
def uptoBulkEntries {H : Type} : List (Lit × DataW H) → Nat
  | [] => 0
  | x :: r => uptoBulkEntry x + uptoBulkEntries r
def uptoBulkEntry {H : Type} : Lit × DataW H → Nat
  | (.string bytes, d) => bytes.length + uptoBulk d + 1
  | (_, d) => uptoBulk d + 1
 end
def uptoSmall : (H : Type) → List (DataW H) → Bool := fun _ ds => decide (uptoBulkAll ds ≤ 1048576)
def OpenSpec.upto (s : _root_.Go.ChangeSpec) : _root_.Go.OpenSpec := { _root_.Go.OpenSpec.ofChange s with cond := some uptoSmall }

/-- 'portolanlaw07.LoopEdges', WHERE WHAT IT READS IS OF BULK AT MOST 1048576: true; the input reads as it did. -/
def loopEdgesUptoRow : OpenClaim := { program := "ytlolgahaphmfoaa", sum := "ca7e0d48e0f9887c1f64762efaea944f40bdadc718dccdfb4a5e9573a0e60ad2", func := "portolan/portolanlaw07.LoopEdges", spec := "loopEdges", unfollowed := true, recurses := true, apart := false, narrowed := true }
def LoopEdgesUptoSaid : Prop := loopEdgesUptoRow.holds Try.pinned (OpenSpec.upto loopEdgesSpec)

/-- 'portolanlaw07.LoopBodies', WHERE WHAT IT READS IS OF BULK AT MOST 1048576: true; the input reads as it did. -/
def loopBodiesUptoRow : OpenClaim := { program := "ytlolgahaphmfoaa", sum := "ca7e0d48e0f9887c1f64762efaea944f40bdadc718dccdfb4a5e9573a0e60ad2", func := "portolan/portolanlaw07.LoopBodies", spec := "loopBodies", unfollowed := true, recurses := true, apart := false, narrowed := true }
def LoopBodiesUptoSaid : Prop := loopBodiesUptoRow.holds Try.pinned (OpenSpec.upto loopBodiesSpec)

/-- 'portolanlaw07.LoopRound', WHERE WHAT IT READS IS OF BULK AT MOST 1048576: true; the input reads as it did. -/
def loopRoundUptoRow : OpenClaim := { program := "ytlolgahaphmfoaa", sum := "ca7e0d48e0f9887c1f64762efaea944f40bdadc718dccdfb4a5e9573a0e60ad2", func := "portolan/portolanlaw07.LoopRound", spec := "loopRound", unfollowed := true, recurses := true, apart := false, narrowed := true }
def LoopRoundUptoSaid : Prop := loopRoundUptoRow.holds Try.pinned (OpenSpec.upto loopRoundSpec)

/-- 'portolanlaw07.LoopDeep', WHERE WHAT IT READS IS OF BULK AT MOST 1048576: true; the input reads as it did. -/
def loopDeepUptoRow : OpenClaim := { program := "ytlolgahaphmfoaa", sum := "ca7e0d48e0f9887c1f64762efaea944f40bdadc718dccdfb4a5e9573a0e60ad2", func := "portolan/portolanlaw07.LoopDeep", spec := "loopDeep", unfollowed := true, recurses := true, apart := false, narrowed := true }
def LoopDeepUptoSaid : Prop := loopDeepUptoRow.holds Try.pinned (OpenSpec.upto loopDeepSpec)

/-- 'portolanlaw07.LoopNested', WHERE WHAT IT READS IS OF BULK AT MOST 1048576: true; the input reads as it did. -/
def loopNestedUptoRow : OpenClaim := { program := "ytlolgahaphmfoaa", sum := "ca7e0d48e0f9887c1f64762efaea944f40bdadc718dccdfb4a5e9573a0e60ad2", func := "portolan/portolanlaw07.LoopNested", spec := "loopNested", unfollowed := true, recurses := true, apart := false, narrowed := true }
def LoopNestedUptoSaid : Prop := loopNestedUptoRow.holds Try.pinned (OpenSpec.upto loopNestedSpec)

end Rows
end Go.Proofs.Ytlolgahaphmfoaa
