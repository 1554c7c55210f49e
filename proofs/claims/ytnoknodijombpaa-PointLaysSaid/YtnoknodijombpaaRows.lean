/-
  No cell of these rows narrows 'for every input' (looked for: loops, veiled, ifaces, maps, wideKeys, modest, calm, conditions, laid).
  DERIVED. THE GIVEN ROWS OF THIS SEAT. 4 by the template 'for every input the law returns true; each argument reads behind the call as it read before'; 0 by the template 'total and deterministic' (their statements: YtnoknodijombpaaTotals.lean).
  GIVEN WITH THE SEED: the statements are not yours to turn. If you find one false, say at which input.
  Laid BY PROGRAM, IN A SANDBOX (cutbox-rows.mjs): the forced cells as the released guide's own fill.sh prints them over the translation 423c684d13bfc9ce… (all of the seat's roots in one cut). By AI agents, Wed Nov 11 2026. No macro, syntax, notation, axiom, sorry.
-/
import Derived.Test.YtnoknodijombpaaChecked
import GoSem.Claim
import GoSem.ClaimJoined
import GoSem.ClaimMapViews
import Derived.JoinedTies
import Derived.KernelRfl
namespace Go.Proofs.Ytnoknodijombpaa
/- THE CELL 'sum', in the pinned program and in every row, IS THE sha256 OF THE DUMP (.gsa) THAT YtnoknodijombpaaProg.lean LOADS. Nothing in Lean hashes anything: it is a label: what it is worth is what the hold of that sum in a sandbox is worth. -/
noncomputable def Try.pinned : Pinned := { name := "ytnoknodijombpaa", sum := "423c684d13bfc9ce69fd17d40d007a1f85bc0bc7d4005a1d5828796dea062b18", checked := Try.checked }
namespace Rows
def none {H : Type} : Left H := { results := [], args := [] }

/-- 'portolanlaw13.EdgeSplits': WHATEVER THE INPUT: true; the input reads as it did. -/
def edgeSplitsSpec : ChangeSpec := { name := "edgeSplits", fn := fun _ => fun
  | [d] => { results := [.lit (.bool true)], args := [d] }
  | _ => none }
def edgeSplitsRow : OpenClaim := { program := "ytnoknodijombpaa", sum := "423c684d13bfc9ce69fd17d40d007a1f85bc0bc7d4005a1d5828796dea062b18", func := "portolan/portolanlaw13.EdgeSplits", spec := "edgeSplits", unfollowed := true, recurses := true, apart := false }
def EdgeSplitsSaid : Prop := edgeSplitsRow.holds Try.pinned (OpenSpec.ofChange edgeSplitsSpec)

/-- ITS FALSE NEIGHBOUR: 'it returns false'. Refute it at one input. -/
def edgeSplitsWrong : ChangeSpec := { name := "edgeSplits", fn := fun _ => fun
  | [d] => { results := [.lit (.bool false)], args := [d] }
  | _ => none }
def EdgeSplitsWrongFalsely : Prop := edgeSplitsRow.holds Try.pinned (OpenSpec.ofChange edgeSplitsWrong)

/-- 'portolanlaw14.PointLays': WHATEVER THE INPUT: true; the input reads as it did. -/
def pointLaysSpec : ChangeSpec := { name := "pointLays", fn := fun _ => fun
  | [d] => { results := [.lit (.bool true)], args := [d] }
  | _ => none }
def pointLaysRow : OpenClaim := { program := "ytnoknodijombpaa", sum := "423c684d13bfc9ce69fd17d40d007a1f85bc0bc7d4005a1d5828796dea062b18", func := "portolan/portolanlaw14.PointLays", spec := "pointLays", unfollowed := true, recurses := true, apart := false }
def PointLaysSaid : Prop := pointLaysRow.holds Try.pinned (OpenSpec.ofChange pointLaysSpec)

/-- ITS FALSE NEIGHBOUR: 'it returns false'. Refute it at one input. -/
def pointLaysWrong : ChangeSpec := { name := "pointLays", fn := fun _ => fun
  | [d] => { results := [.lit (.bool false)], args := [d] }
  | _ => none }
def PointLaysWrongFalsely : Prop := pointLaysRow.holds Try.pinned (OpenSpec.ofChange pointLaysWrong)

/-- 'portolanlaw14.PointAsks': WHATEVER THE INPUT: true; the input reads as it did. -/
def pointAsksSpec : ChangeSpec := { name := "pointAsks", fn := fun _ => fun
  | [d1, d2, d3] => { results := [.lit (.bool true)], args := [d1, d2, d3] }
  | _ => none }
def pointAsksRow : OpenClaim := { program := "ytnoknodijombpaa", sum := "423c684d13bfc9ce69fd17d40d007a1f85bc0bc7d4005a1d5828796dea062b18", func := "portolan/portolanlaw14.PointAsks", spec := "pointAsks", unfollowed := true, recurses := true, apart := false }
def PointAsksSaid : Prop := pointAsksRow.holds Try.pinned (OpenSpec.ofChange pointAsksSpec)

/-- ITS FALSE NEIGHBOUR: 'it returns false'. Refute it at one input. -/
def pointAsksWrong : ChangeSpec := { name := "pointAsks", fn := fun _ => fun
  | [d1, d2, d3] => { results := [.lit (.bool false)], args := [d1, d2, d3] }
  | _ => none }
def PointAsksWrongFalsely : Prop := pointAsksRow.holds Try.pinned (OpenSpec.ofChange pointAsksWrong)

/-- 'portolanlaw14.PointNumbers': WHATEVER THE INPUT: true; the input reads as it did. -/
def pointNumbersSpec : ChangeSpec := { name := "pointNumbers", fn := fun _ => fun
  | [d] => { results := [.lit (.bool true)], args := [d] }
  | _ => none }
def pointNumbersRow : OpenClaim := { program := "ytnoknodijombpaa", sum := "423c684d13bfc9ce69fd17d40d007a1f85bc0bc7d4005a1d5828796dea062b18", func := "portolan/portolanlaw14.PointNumbers", spec := "pointNumbers", unfollowed := true, recurses := true, apart := false }
def PointNumbersSaid : Prop := pointNumbersRow.holds Try.pinned (OpenSpec.ofChange pointNumbersSpec)

/-- ITS FALSE NEIGHBOUR: 'it returns false'. Refute it at one input. -/
def pointNumbersWrong : ChangeSpec := { name := "pointNumbers", fn := fun _ => fun
  | [d] => { results := [.lit (.bool false)], args := [d] }
  | _ => none }
def PointNumbersWrongFalsely : Prop := pointNumbersRow.holds Try.pinned (OpenSpec.ofChange pointNumbersWrong)

/- THE SECOND FORM. 'bulk': how many values and letters a reading holds, each counted each time it is reached (what is shared counts as often as it is met; a slice's spare places count too). A statement '..UptoSaid' is the law's where the arguments, and the package variables that the reading takes, are together of bulk at most 1048576: NARROWER than '..Said'. Prove '..Said' where nothing that the law and all that it calls make is longer than what came in: it says more and counts as full. Else prove '..UptoSaid'. A law counts once. -/
mutual
def uptoBulk {H : Type} : DataW H → Nat
  | .lit (.string bytes) => bytes.length + 1
  | .lit _ => 1
  | .nil => 1
  | .ptr d => uptoBulk d + 1
  | .slice elems spare => uptoBulkAll elems + uptoBulkAll spare + 1
  | .agg parts => uptoBulkAll parts + 1
  | .iface _ d => uptoBulk d + 1
  | .map entries => uptoBulkEntries entries + 1
  | .held _ => 1
def uptoBulkAll {H : Type} : List (DataW H) → Nat
  | [] => 0
  | d :: r => uptoBulk d + uptoBulkAll r
def uptoBulkEntries {H : Type} : List (Lit × DataW H) → Nat
  | [] => 0
  | x :: r => uptoBulkEntry x + uptoBulkEntries r
def uptoBulkEntry {H : Type} : Lit × DataW H → Nat
  | (.string bytes, d) => bytes.length + uptoBulk d + 1
  | (_, d) => uptoBulk d + 1
 end
def uptoSmall : (H : Type) → List (DataW H) → Bool := fun _ ds => decide (uptoBulkAll ds ≤ 1048576)
def OpenSpec.upto (s : _root_.Go.ChangeSpec) : _root_.Go.OpenSpec := { _root_.Go.OpenSpec.ofChange s with cond := some uptoSmall }

/-- 'portolanlaw13.EdgeSplits', WHERE WHAT IT READS IS OF BULK AT MOST 1048576: true; the input reads as it did. -/
def edgeSplitsUptoRow : OpenClaim := { program := "ytnoknodijombpaa", sum := "423c684d13bfc9ce69fd17d40d007a1f85bc0bc7d4005a1d5828796dea062b18", func := "portolan/portolanlaw13.EdgeSplits", spec := "edgeSplits", unfollowed := true, recurses := true, apart := false, narrowed := true }
def EdgeSplitsUptoSaid : Prop := edgeSplitsUptoRow.holds Try.pinned (OpenSpec.upto edgeSplitsSpec)

/-- 'portolanlaw14.PointLays', WHERE WHAT IT READS IS OF BULK AT MOST 1048576: true; the input reads as it did. -/
def pointLaysUptoRow : OpenClaim := { program := "ytnoknodijombpaa", sum := "423c684d13bfc9ce69fd17d40d007a1f85bc0bc7d4005a1d5828796dea062b18", func := "portolan/portolanlaw14.PointLays", spec := "pointLays", unfollowed := true, recurses := true, apart := false, narrowed := true }
def PointLaysUptoSaid : Prop := pointLaysUptoRow.holds Try.pinned (OpenSpec.upto pointLaysSpec)

/-- 'portolanlaw14.PointAsks', WHERE WHAT IT READS IS OF BULK AT MOST 1048576: true; the input reads as it did. -/
def pointAsksUptoRow : OpenClaim := { program := "ytnoknodijombpaa", sum := "423c684d13bfc9ce69fd17d40d007a1f85bc0bc7d4005a1d5828796dea062b18", func := "portolan/portolanlaw14.PointAsks", spec := "pointAsks", unfollowed := true, recurses := true, apart := false, narrowed := true }
def PointAsksUptoSaid : Prop := pointAsksUptoRow.holds Try.pinned (OpenSpec.upto pointAsksSpec)

/-- 'portolanlaw14.PointNumbers', WHERE WHAT IT READS IS OF BULK AT MOST 1048576: true; the input reads as it did. -/
def pointNumbersUptoRow : OpenClaim := { program := "ytnoknodijombpaa", sum := "423c684d13bfc9ce69fd17d40d007a1f85bc0bc7d4005a1d5828796dea062b18", func := "portolan/portolanlaw14.PointNumbers", spec := "pointNumbers", unfollowed := true, recurses := true, apart := false, narrowed := true }
def PointNumbersUptoSaid : Prop := pointNumbersUptoRow.holds Try.pinned (OpenSpec.upto pointNumbersSpec)

end Rows
end Go.Proofs.Ytnoknodijombpaa
