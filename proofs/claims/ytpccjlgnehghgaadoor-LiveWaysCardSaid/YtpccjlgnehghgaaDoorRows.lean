/-
  NARROWER THAN 'FOR EVERY INPUT', by the rows' own cells (each row's printed sentence says how): LivePlaces: laid · LiveWays: laid · LiveSteps: laid · LiveOuts: laid · KeepPlaces: laid · KeepSets: laid · KeepCloses: laid.
  DERIVED. THE GIVEN ROWS OF THIS SEAT. 7 by the template 'for every input the law returns true; each argument reads behind the call as it read before'; 0 by the template 'total and deterministic' (their statements: YtpccjlgnehghgaaDoorTotals.lean).
  GIVEN WITH THE SEED: the statements are not yours to turn. If you find one false, say at which input.
  Laid BY PROGRAM, IN A SANDBOX (cutbox-rows.mjs): the forced cells as the released guide's own fill.sh prints them over the translation 671d2cd3c12b261d… (all of the seat's roots in one cut). By AI agents, Wed Nov 11 2026. No macro, syntax, notation, axiom, sorry.
-/
import Derived.Test.YtpccjlgnehghgaaDoorChecked
import GoSem.Claim
import GoSem.ClaimJoined
import GoSem.ClaimMapViews
import Derived.JoinedTies
import Derived.KernelRfl
namespace Go.Proofs.YtpccjlgnehghgaaDoor
/- THE CELL 'sum', in the pinned program and in every row, IS THE sha256 OF THE DUMP (.gsa) THAT YtpccjlgnehghgaaDoorProg.lean LOADS. Nothing in Lean hashes anything: it is a label: what it is worth is what the hold of that sum in a sandbox is worth. -/
noncomputable def Tryd.pinned : Pinned := { name := "ytpccjlgnehghgaadoor", sum := "671d2cd3c12b261d14f28cdca0b602b48b6a19c4e627ed321e01a3a5bdf4fe04", checked := Tryd.checked }
namespace Rows
def none {H : Type} : Left H := { results := [], args := [] }

/- WHAT THE LISTED PACKAGE-LEVEL VARIABLES READ AS WHEN THE CALL BEGINS. Each datum BY PROGRAM (the guide's laid-datum.mjs) off the statement by which the dump's own 'gosem.cut.vars' lays the variable. In a bare row this is a premise. The card (YtpccjlgnehghgaaDoorCards.lean) ties it to the program's text. -/
def laid_portolan_code_parts {H : Type} : DataW H := .agg [.lit (.string []), .lit (.string [68, 110]), .lit (.string [68, 65]), .lit (.string [68, 65, 66]), .lit (.string [68, 65, 66]), .lit (.string [68, 65, 66]), .lit (.string [68, 65, 66]), .lit (.string [68]), .lit (.string [68, 65]), .lit (.string [68, 65, 66]), .lit (.string [68, 78, 77]), .lit (.string [68, 65, 78]), .lit (.string [65, 78, 66]), .lit (.string [68, 65, 78]), .lit (.string [65, 78, 66]), .lit (.string [68, 65, 78]), .lit (.string [68, 65, 110]), .lit (.string [68, 65]), .lit (.string [65, 66]), .lit (.string [68, 78, 76]), .lit (.string [65]), .lit (.string [78]), .lit (.string [65, 78, 77]), .lit (.string [65])]

/-- 'portolanlaw11.LivePlaces': WHATEVER THE INPUT: true; the input reads as it did. -/
def livePlacesSpec : ChangeSpec := { name := "livePlaces", fn := fun _ => fun
  | [d1, d2, d3] => { results := [.lit (.bool true)], args := [d1, d2, d3] }
  | _ => none }
def livePlacesRow : OpenClaim := { program := "ytpccjlgnehghgaadoor", sum := "671d2cd3c12b261d14f28cdca0b602b48b6a19c4e627ed321e01a3a5bdf4fe04", func := "portolan/portolanlaw11.LivePlaces", spec := "livePlaces", inPlace := ["internal/bytealg.IndexByteString", "internal/bytealg.IndexString"], unfollowed := true, recurses := true, named := ["portolan/code.parts", "internal/bytealg.MaxLen"], apart := false, laid := [("portolan/code.parts", laid_portolan_code_parts)] }
def LivePlacesSaid : Prop := livePlacesRow.holds Tryd.pinned (OpenSpec.ofChange livePlacesSpec)

/-- ITS FALSE NEIGHBOUR: 'it returns false'. Refute it at one input. -/
def livePlacesWrong : ChangeSpec := { name := "livePlaces", fn := fun _ => fun
  | [d1, d2, d3] => { results := [.lit (.bool false)], args := [d1, d2, d3] }
  | _ => none }
def LivePlacesWrongFalsely : Prop := livePlacesRow.holds Tryd.pinned (OpenSpec.ofChange livePlacesWrong)

/-- 'portolanlaw11.LiveWays': WHATEVER THE INPUT: true; the input reads as it did. -/
def liveWaysSpec : ChangeSpec := { name := "liveWays", fn := fun _ => fun
  | [d1, d2] => { results := [.lit (.bool true)], args := [d1, d2] }
  | _ => none }
def liveWaysRow : OpenClaim := { program := "ytpccjlgnehghgaadoor", sum := "671d2cd3c12b261d14f28cdca0b602b48b6a19c4e627ed321e01a3a5bdf4fe04", func := "portolan/portolanlaw11.LiveWays", spec := "liveWays", inPlace := ["internal/bytealg.IndexByteString", "internal/bytealg.IndexString"], unfollowed := true, recurses := true, named := ["portolan/code.parts", "internal/bytealg.MaxLen"], apart := false, laid := [("portolan/code.parts", laid_portolan_code_parts)] }
def LiveWaysSaid : Prop := liveWaysRow.holds Tryd.pinned (OpenSpec.ofChange liveWaysSpec)

/-- ITS FALSE NEIGHBOUR: 'it returns false'. Refute it at one input. -/
def liveWaysWrong : ChangeSpec := { name := "liveWays", fn := fun _ => fun
  | [d1, d2] => { results := [.lit (.bool false)], args := [d1, d2] }
  | _ => none }
def LiveWaysWrongFalsely : Prop := liveWaysRow.holds Tryd.pinned (OpenSpec.ofChange liveWaysWrong)

/-- 'portolanlaw11.LiveSteps': WHATEVER THE INPUT: true; the input reads as it did. -/
def liveStepsSpec : ChangeSpec := { name := "liveSteps", fn := fun _ => fun
  | [d1, d2, d3] => { results := [.lit (.bool true)], args := [d1, d2, d3] }
  | _ => none }
def liveStepsRow : OpenClaim := { program := "ytpccjlgnehghgaadoor", sum := "671d2cd3c12b261d14f28cdca0b602b48b6a19c4e627ed321e01a3a5bdf4fe04", func := "portolan/portolanlaw11.LiveSteps", spec := "liveSteps", inPlace := ["internal/bytealg.IndexByteString", "internal/bytealg.IndexString"], unfollowed := true, recurses := true, named := ["portolan/code.parts", "internal/bytealg.MaxLen"], apart := false, laid := [("portolan/code.parts", laid_portolan_code_parts)] }
def LiveStepsSaid : Prop := liveStepsRow.holds Tryd.pinned (OpenSpec.ofChange liveStepsSpec)

/-- ITS FALSE NEIGHBOUR: 'it returns false'. Refute it at one input. -/
def liveStepsWrong : ChangeSpec := { name := "liveSteps", fn := fun _ => fun
  | [d1, d2, d3] => { results := [.lit (.bool false)], args := [d1, d2, d3] }
  | _ => none }
def LiveStepsWrongFalsely : Prop := liveStepsRow.holds Tryd.pinned (OpenSpec.ofChange liveStepsWrong)

/-- 'portolanlaw11.LiveOuts': WHATEVER THE INPUT: true; the input reads as it did. -/
def liveOutsSpec : ChangeSpec := { name := "liveOuts", fn := fun _ => fun
  | [d] => { results := [.lit (.bool true)], args := [d] }
  | _ => none }
def liveOutsRow : OpenClaim := { program := "ytpccjlgnehghgaadoor", sum := "671d2cd3c12b261d14f28cdca0b602b48b6a19c4e627ed321e01a3a5bdf4fe04", func := "portolan/portolanlaw11.LiveOuts", spec := "liveOuts", inPlace := ["internal/bytealg.IndexByteString", "internal/bytealg.IndexString"], unfollowed := true, recurses := true, named := ["portolan/code.parts", "internal/bytealg.MaxLen"], apart := false, laid := [("portolan/code.parts", laid_portolan_code_parts)] }
def LiveOutsSaid : Prop := liveOutsRow.holds Tryd.pinned (OpenSpec.ofChange liveOutsSpec)

/-- ITS FALSE NEIGHBOUR: 'it returns false'. Refute it at one input. -/
def liveOutsWrong : ChangeSpec := { name := "liveOuts", fn := fun _ => fun
  | [d] => { results := [.lit (.bool false)], args := [d] }
  | _ => none }
def LiveOutsWrongFalsely : Prop := liveOutsRow.holds Tryd.pinned (OpenSpec.ofChange liveOutsWrong)

/-- 'portolanlaw12.KeepPlaces': WHATEVER THE INPUT: true; the input reads as it did. -/
def keepPlacesSpec : ChangeSpec := { name := "keepPlaces", fn := fun _ => fun
  | [d1, d2, d3] => { results := [.lit (.bool true)], args := [d1, d2, d3] }
  | _ => none }
def keepPlacesRow : OpenClaim := { program := "ytpccjlgnehghgaadoor", sum := "671d2cd3c12b261d14f28cdca0b602b48b6a19c4e627ed321e01a3a5bdf4fe04", func := "portolan/portolanlaw12.KeepPlaces", spec := "keepPlaces", inPlace := ["internal/bytealg.IndexByteString", "internal/bytealg.IndexString"], unfollowed := true, recurses := true, named := ["portolan/code.parts", "internal/bytealg.MaxLen"], apart := false, laid := [("portolan/code.parts", laid_portolan_code_parts)] }
def KeepPlacesSaid : Prop := keepPlacesRow.holds Tryd.pinned (OpenSpec.ofChange keepPlacesSpec)

/-- ITS FALSE NEIGHBOUR: 'it returns false'. Refute it at one input. -/
def keepPlacesWrong : ChangeSpec := { name := "keepPlaces", fn := fun _ => fun
  | [d1, d2, d3] => { results := [.lit (.bool false)], args := [d1, d2, d3] }
  | _ => none }
def KeepPlacesWrongFalsely : Prop := keepPlacesRow.holds Tryd.pinned (OpenSpec.ofChange keepPlacesWrong)

/-- 'portolanlaw12.KeepSets': WHATEVER THE INPUT: true; the input reads as it did. -/
def keepSetsSpec : ChangeSpec := { name := "keepSets", fn := fun _ => fun
  | [d1, d2] => { results := [.lit (.bool true)], args := [d1, d2] }
  | _ => none }
def keepSetsRow : OpenClaim := { program := "ytpccjlgnehghgaadoor", sum := "671d2cd3c12b261d14f28cdca0b602b48b6a19c4e627ed321e01a3a5bdf4fe04", func := "portolan/portolanlaw12.KeepSets", spec := "keepSets", inPlace := ["internal/bytealg.IndexByteString", "internal/bytealg.IndexString"], unfollowed := true, recurses := true, named := ["portolan/code.parts", "internal/bytealg.MaxLen"], apart := false, laid := [("portolan/code.parts", laid_portolan_code_parts)] }
def KeepSetsSaid : Prop := keepSetsRow.holds Tryd.pinned (OpenSpec.ofChange keepSetsSpec)

/-- ITS FALSE NEIGHBOUR: 'it returns false'. Refute it at one input. -/
def keepSetsWrong : ChangeSpec := { name := "keepSets", fn := fun _ => fun
  | [d1, d2] => { results := [.lit (.bool false)], args := [d1, d2] }
  | _ => none }
def KeepSetsWrongFalsely : Prop := keepSetsRow.holds Tryd.pinned (OpenSpec.ofChange keepSetsWrong)

/-- 'portolanlaw12.KeepCloses': WHATEVER THE INPUT: true; the input reads as it did. -/
def keepClosesSpec : ChangeSpec := { name := "keepCloses", fn := fun _ => fun
  | [d1, d2] => { results := [.lit (.bool true)], args := [d1, d2] }
  | _ => none }
def keepClosesRow : OpenClaim := { program := "ytpccjlgnehghgaadoor", sum := "671d2cd3c12b261d14f28cdca0b602b48b6a19c4e627ed321e01a3a5bdf4fe04", func := "portolan/portolanlaw12.KeepCloses", spec := "keepCloses", inPlace := ["internal/bytealg.IndexByteString", "internal/bytealg.IndexString"], unfollowed := true, recurses := true, named := ["portolan/code.parts", "internal/bytealg.MaxLen"], apart := false, laid := [("portolan/code.parts", laid_portolan_code_parts)] }
def KeepClosesSaid : Prop := keepClosesRow.holds Tryd.pinned (OpenSpec.ofChange keepClosesSpec)

/-- ITS FALSE NEIGHBOUR: 'it returns false'. Refute it at one input. -/
def keepClosesWrong : ChangeSpec := { name := "keepCloses", fn := fun _ => fun
  | [d1, d2] => { results := [.lit (.bool false)], args := [d1, d2] }
  | _ => none }
def KeepClosesWrongFalsely : Prop := keepClosesRow.holds Tryd.pinned (OpenSpec.ofChange keepClosesWrong)

/- THE SECOND FORM. 'bulk': how many values and letters a reading holds, each counted each time it is reached (what is shared counts as often as it is met; a slice's spare places count too). A statement '..UptoSaid' is the law's where the arguments, and the package variables that the reading takes, are together of bulk at most 1048576: NARROWER than '..Said'. Prove '..Said' where nothing that the law and all that it calls make is longer than what came in: it says more and counts as full. Else prove '..UptoSaid'. A law counts once. -/
mutual
def uptoBulk {H : Type} : DataW H → Nat
  | .lit (.string bytes) => bytes.length + 1
  | .lit _ => 1
  | .nil => 1
  | .ptr d => uptoBulk d + 1
  | .slice elems spare => uptoBulkAll elems + uptoBulkAll spare + 1
  | .agg parts => uptoBulkAll parts + 1
  | .iface _ d => uptoBulk d + 1
  | .map entries => uptoBulkEntries entries + 1
  | .held _ => 1
def uptoBulkAll {H : Type} : List (DataW H) → Nat
  | [] => 0
  | d :: r => uptoBulk d + uptoBulkAll r
def uptoBulkEntries {H : Type} : List (Lit × DataW H) → Nat
  | [] => 0
  | x :: r => uptoBulkEntry x + uptoBulkEntries r
def uptoBulkEntry {H : Type} : Lit × DataW H → Nat
  | (.string bytes, d) => bytes.length + uptoBulk d + 1
  | (_, d) => uptoBulk d + 1
 end
def uptoSmall : (H : Type) → List (DataW H) → Bool := fun _ ds => decide (uptoBulkAll ds ≤ 1048576)
def OpenSpec.upto (s : _root_.Go.ChangeSpec) : _root_.Go.OpenSpec := { _root_.Go.OpenSpec.ofChange s with cond := some uptoSmall }

/-- 'portolanlaw11.LivePlaces', WHERE WHAT IT READS IS OF BULK AT MOST 1048576: true; the input reads as it did. -/
def livePlacesUptoRow : OpenClaim := { program := "ytpccjlgnehghgaadoor", sum := "671d2cd3c12b261d14f28cdca0b602b48b6a19c4e627ed321e01a3a5bdf4fe04", func := "portolan/portolanlaw11.LivePlaces", spec := "livePlaces", inPlace := ["internal/bytealg.IndexByteString", "internal/bytealg.IndexString"], unfollowed := true, recurses := true, named := ["portolan/code.parts", "internal/bytealg.MaxLen"], apart := false, laid := [("portolan/code.parts", laid_portolan_code_parts)], narrowed := true }
def LivePlacesUptoSaid : Prop := livePlacesUptoRow.holds Tryd.pinned (OpenSpec.upto livePlacesSpec)

/-- 'portolanlaw11.LiveWays', WHERE WHAT IT READS IS OF BULK AT MOST 1048576: true; the input reads as it did. -/
def liveWaysUptoRow : OpenClaim := { program := "ytpccjlgnehghgaadoor", sum := "671d2cd3c12b261d14f28cdca0b602b48b6a19c4e627ed321e01a3a5bdf4fe04", func := "portolan/portolanlaw11.LiveWays", spec := "liveWays", inPlace := ["internal/bytealg.IndexByteString", "internal/bytealg.IndexString"], unfollowed := true, recurses := true, named := ["portolan/code.parts", "internal/bytealg.MaxLen"], apart := false, laid := [("portolan/code.parts", laid_portolan_code_parts)], narrowed := true }
def LiveWaysUptoSaid : Prop := liveWaysUptoRow.holds Tryd.pinned (OpenSpec.upto liveWaysSpec)

/-- 'portolanlaw11.LiveSteps', WHERE WHAT IT READS IS OF BULK AT MOST 1048576: true; the input reads as it did. -/
def liveStepsUptoRow : OpenClaim := { program := "ytpccjlgnehghgaadoor", sum := "671d2cd3c12b261d14f28cdca0b602b48b6a19c4e627ed321e01a3a5bdf4fe04", func := "portolan/portolanlaw11.LiveSteps", spec := "liveSteps", inPlace := ["internal/bytealg.IndexByteString", "internal/bytealg.IndexString"], unfollowed := true, recurses := true, named := ["portolan/code.parts", "internal/bytealg.MaxLen"], apart := false, laid := [("portolan/code.parts", laid_portolan_code_parts)], narrowed := true }
def LiveStepsUptoSaid : Prop := liveStepsUptoRow.holds Tryd.pinned (OpenSpec.upto liveStepsSpec)

/-- 'portolanlaw11.LiveOuts', WHERE WHAT IT READS IS OF BULK AT MOST 1048576: true; the input reads as it did. -/
def liveOutsUptoRow : OpenClaim := { program := "ytpccjlgnehghgaadoor", sum := "671d2cd3c12b261d14f28cdca0b602b48b6a19c4e627ed321e01a3a5bdf4fe04", func := "portolan/portolanlaw11.LiveOuts", spec := "liveOuts", inPlace := ["internal/bytealg.IndexByteString", "internal/bytealg.IndexString"], unfollowed := true, recurses := true, named := ["portolan/code.parts", "internal/bytealg.MaxLen"], apart := false, laid := [("portolan/code.parts", laid_portolan_code_parts)], narrowed := true }
def LiveOutsUptoSaid : Prop := liveOutsUptoRow.holds Tryd.pinned (OpenSpec.upto liveOutsSpec)

/-- 'portolanlaw12.KeepPlaces', WHERE WHAT IT READS IS OF BULK AT MOST 1048576: true; the input reads as it did. -/
def keepPlacesUptoRow : OpenClaim := { program := "ytpccjlgnehghgaadoor", sum := "671d2cd3c12b261d14f28cdca0b602b48b6a19c4e627ed321e01a3a5bdf4fe04", func := "portolan/portolanlaw12.KeepPlaces", spec := "keepPlaces", inPlace := ["internal/bytealg.IndexByteString", "internal/bytealg.IndexString"], unfollowed := true, recurses := true, named := ["portolan/code.parts", "internal/bytealg.MaxLen"], apart := false, laid := [("portolan/code.parts", laid_portolan_code_parts)], narrowed := true }
def KeepPlacesUptoSaid : Prop := keepPlacesUptoRow.holds Tryd.pinned (OpenSpec.upto keepPlacesSpec)

/-- 'portolanlaw12.KeepSets', WHERE WHAT IT READS IS OF BULK AT MOST 1048576: true; the input reads as it did. -/
def keepSetsUptoRow : OpenClaim := { program := "ytpccjlgnehghgaadoor", sum := "671d2cd3c12b261d14f28cdca0b602b48b6a19c4e627ed321e01a3a5bdf4fe04", func := "portolan/portolanlaw12.KeepSets", spec := "keepSets", inPlace := ["internal/bytealg.IndexByteString", "internal/bytealg.IndexString"], unfollowed := true, recurses := true, named := ["portolan/code.parts", "internal/bytealg.MaxLen"], apart := false, laid := [("portolan/code.parts", laid_portolan_code_parts)], narrowed := true }
def KeepSetsUptoSaid : Prop := keepSetsUptoRow.holds Tryd.pinned (OpenSpec.upto keepSetsSpec)

/-- 'portolanlaw12.KeepCloses', WHERE WHAT IT READS IS OF BULK AT MOST 1048576: true; the input reads as it did. -/
def keepClosesUptoRow : OpenClaim := { program := "ytpccjlgnehghgaadoor", sum := "671d2cd3c12b261d14f28cdca0b602b48b6a19c4e627ed321e01a3a5bdf4fe04", func := "portolan/portolanlaw12.KeepCloses", spec := "keepCloses", inPlace := ["internal/bytealg.IndexByteString", "internal/bytealg.IndexString"], unfollowed := true, recurses := true, named := ["portolan/code.parts", "internal/bytealg.MaxLen"], apart := false, laid := [("portolan/code.parts", laid_portolan_code_parts)], narrowed := true }
def KeepClosesUptoSaid : Prop := keepClosesUptoRow.holds Tryd.pinned (OpenSpec.upto keepClosesSpec)

end Rows
end Go.Proofs.YtpccjlgnehghgaaDoor
