/-
  No cell of these rows narrows 'for every input' (looked for: loops, veiled, ifaces, maps, wideKeys, modest, calm, conditions, laid).
  DERIVED. THE GIVEN ROWS OF THIS SEAT. 3 by the template 'for every input the law returns true; each argument reads behind the call as it read before'; 0 by the template 'total and deterministic' (their statements: YtbofnlaacjgclaaTotals.lean).
  GIVEN WITH THE SEED: the statements are not yours to turn. If you find one false, say at which input.
  Laid BY PROGRAM, IN A SANDBOX (cutbox-rows.mjs): the forced cells as the released guide's own fill.sh prints them over the translation ac14c8b8e5ca5b57… (all of the seat's roots in one cut). By AI agents, Wed Nov 11 2026. No macro, syntax, notation, axiom, sorry.
-/
import Derived.Test.YtbofnlaacjgclaaChecked
import GoSem.Claim
import GoSem.ClaimJoined
import GoSem.ClaimMapViews
import Derived.JoinedTies
import Derived.KernelRfl
namespace Go.Proofs.Ytbofnlaacjgclaa
/- THE CELL 'sum', in the pinned program and in every row, IS THE sha256 OF THE DUMP (.gsa) THAT YtbofnlaacjgclaaProg.lean LOADS. Nothing in Lean hashes anything: it is a label: what it is worth is what the hold of that sum in a sandbox is worth. -/
noncomputable def Try.pinned : Pinned := { name := "ytbofnlaacjgclaa", sum := "ac14c8b8e5ca5b5711cdbbb3aba72c5bf2f38906d0dd573d899fccab44e3f992", checked := Try.checked }
namespace Rows
def none {H : Type} : Left H := { results := [], args := [] }

/-- 'portolanlaw13.EdgeSplits': WHATEVER THE INPUT: true; the input reads as it did. -/
def edgeSplitsSpec : ChangeSpec := { name := "edgeSplits", fn := fun _ => fun
  | [d] => { results := [.lit (.bool true)], args := [d] }
  | _ => none }
def edgeSplitsRow : OpenClaim := { program := "ytbofnlaacjgclaa", sum := "ac14c8b8e5ca5b5711cdbbb3aba72c5bf2f38906d0dd573d899fccab44e3f992", func := "portolan/portolanlaw13.EdgeSplits", spec := "edgeSplits", unfollowed := true, recurses := true, apart := false }
def EdgeSplitsSaid : Prop := edgeSplitsRow.holds Try.pinned (OpenSpec.ofChange edgeSplitsSpec)

/-- ITS FALSE NEIGHBOUR: 'it returns false'. Refute it at one input. -/
def edgeSplitsWrong : ChangeSpec := { name := "edgeSplits", fn := fun _ => fun
  | [d] => { results := [.lit (.bool false)], args := [d] }
  | _ => none }
def EdgeSplitsWrongFalsely : Prop := edgeSplitsRow.holds Try.pinned (OpenSpec.ofChange edgeSplitsWrong)

/-- 'portolanlaw13.EdgeOnce': WHATEVER THE INPUT: true; the input reads as it did. -/
def edgeOnceSpec : ChangeSpec := { name := "edgeOnce", fn := fun _ => fun
  | [d] => { results := [.lit (.bool true)], args := [d] }
  | _ => none }
def edgeOnceRow : OpenClaim := { program := "ytbofnlaacjgclaa", sum := "ac14c8b8e5ca5b5711cdbbb3aba72c5bf2f38906d0dd573d899fccab44e3f992", func := "portolan/portolanlaw13.EdgeOnce", spec := "edgeOnce", unfollowed := true, recurses := true, apart := false }
def EdgeOnceSaid : Prop := edgeOnceRow.holds Try.pinned (OpenSpec.ofChange edgeOnceSpec)

/-- ITS FALSE NEIGHBOUR: 'it returns false'. Refute it at one input. -/
def edgeOnceWrong : ChangeSpec := { name := "edgeOnce", fn := fun _ => fun
  | [d] => { results := [.lit (.bool false)], args := [d] }
  | _ => none }
def EdgeOnceWrongFalsely : Prop := edgeOnceRow.holds Try.pinned (OpenSpec.ofChange edgeOnceWrong)

/-- 'portolanlaw13.EdgeCounts': WHATEVER THE INPUT: true; the input reads as it did. -/
def edgeCountsSpec : ChangeSpec := { name := "edgeCounts", fn := fun _ => fun
  | [d] => { results := [.lit (.bool true)], args := [d] }
  | _ => none }
def edgeCountsRow : OpenClaim := { program := "ytbofnlaacjgclaa", sum := "ac14c8b8e5ca5b5711cdbbb3aba72c5bf2f38906d0dd573d899fccab44e3f992", func := "portolan/portolanlaw13.EdgeCounts", spec := "edgeCounts", unfollowed := true, recurses := true, apart := false }
def EdgeCountsSaid : Prop := edgeCountsRow.holds Try.pinned (OpenSpec.ofChange edgeCountsSpec)

/-- ITS FALSE NEIGHBOUR: 'it returns false'. Refute it at one input. -/
def edgeCountsWrong : ChangeSpec := { name := "edgeCounts", fn := fun _ => fun
  | [d] => { results := [.lit (.bool false)], args := [d] }
  | _ => none }
def EdgeCountsWrongFalsely : Prop := edgeCountsRow.holds Try.pinned (OpenSpec.ofChange edgeCountsWrong)

/- THE SECOND FORM. 'bulk': how many values and letters a reading holds, each counted each time it is reached (what is shared counts as often as it is met; a slice's spare places count too). A statement '..UptoSaid' is the law's where the arguments, and the package variables that the reading takes, are together of bulk at most 1048576: NARROWER than '..Said'. Prove '..Said' where nothing that the law and all that it calls make is longer than what came in: it says more and counts as full. Else prove '..UptoSaid'. A law counts once. -/
mutual
def uptoBulk {H : Type} : DataW H → Nat
  | .lit (.string bytes) => bytes.length + 1
  | .lit _ => 1
  | .nil => 1
  | .ptr d => uptoBulk d + 1
  | .slice elems spare => uptoBulkAll elems + uptoBulkAll spare + 1
  | .agg parts => uptoBulkAll parts + 1
  | .iface _ d => uptoBulk d + 1
  | .map entries => uptoBulkEntries entries + 1
  | .held _ => 1
def uptoBulkAll {H : Type} : List (DataW H) → Nat
  | [] => 0
  | d :: r => uptoBulk d + uptoBulkAll r
def uptoBulkEntries {H : Type} : List (Lit × DataW H) → Nat
  | [] => 0
  | x :: r => uptoBulkEntry x + uptoBulkEntries r
def uptoBulkEntry {H : Type} : Lit × DataW H → Nat
  | (.string bytes, d) => bytes.length + uptoBulk d + 1
  | (_, d) => uptoBulk d + 1
 end
def uptoSmall : (H : Type) → List (DataW H) → Bool := fun _ ds => decide (uptoBulkAll ds ≤ 1048576)
def OpenSpec.upto (s : _root_.Go.ChangeSpec) : _root_.Go.OpenSpec := { _root_.Go.OpenSpec.ofChange s with cond := some uptoSmall }

/-- 'portolanlaw13.EdgeSplits', WHERE WHAT IT READS IS OF BULK AT MOST 1048576: true; the input reads as it did. -/
def edgeSplitsUptoRow : OpenClaim := { program := "ytbofnlaacjgclaa", sum := "ac14c8b8e5ca5b5711cdbbb3aba72c5bf2f38906d0dd573d899fccab44e3f992", func := "portolan/portolanlaw13.EdgeSplits", spec := "edgeSplits", unfollowed := true, recurses := true, apart := false, narrowed := true }
def EdgeSplitsUptoSaid : Prop := edgeSplitsUptoRow.holds Try.pinned (OpenSpec.upto edgeSplitsSpec)

/-- 'portolanlaw13.EdgeOnce', WHERE WHAT IT READS IS OF BULK AT MOST 1048576: true; the input reads as it did. -/
def edgeOnceUptoRow : OpenClaim := { program := "ytbofnlaacjgclaa", sum := "ac14c8b8e5ca5b5711cdbbb3aba72c5bf2f38906d0dd573d899fccab44e3f992", func := "portolan/portolanlaw13.EdgeOnce", spec := "edgeOnce", unfollowed := true, recurses := true, apart := false, narrowed := true }
def EdgeOnceUptoSaid : Prop := edgeOnceUptoRow.holds Try.pinned (OpenSpec.upto edgeOnceSpec)

/-- 'portolanlaw13.EdgeCounts', WHERE WHAT IT READS IS OF BULK AT MOST 1048576: true; the input reads as it did. -/
def edgeCountsUptoRow : OpenClaim := { program := "ytbofnlaacjgclaa", sum := "ac14c8b8e5ca5b5711cdbbb3aba72c5bf2f38906d0dd573d899fccab44e3f992", func := "portolan/portolanlaw13.EdgeCounts", spec := "edgeCounts", unfollowed := true, recurses := true, apart := false, narrowed := true }
def EdgeCountsUptoSaid : Prop := edgeCountsUptoRow.holds Try.pinned (OpenSpec.upto edgeCountsSpec)

end Rows
end Go.Proofs.Ytbofnlaacjgclaa
