/-
  NARROWER THAN 'FOR EVERY INPUT', by the rows' own cells (each row's printed sentence says how): RunRuns: laid · RunEdges: laid · RunBegins: laid · RunHeap: laid · RunPrints: laid.
  DERIVED. THE GIVEN ROWS OF THIS SEAT. 5 by the template 'for every input the law returns true; each argument reads behind the call as it read before'; 0 by the template 'total and deterministic' (their statements: YthbnbaikdcfbmaaGreatDoorTotals.lean).
  GIVEN WITH THE SEED: the statements are not yours to turn. If you find one false, say at which input.
  Laid BY PROGRAM, IN A SANDBOX (cutbox-rows.mjs): the forced cells as the released guide's own fill.sh prints them over the translation fd91ea04fd29b8ec… (all of the seat's roots in one cut). By AI agents, Wed Nov 11 2026. No macro, syntax, notation, axiom, sorry.
-/
import Derived.Test.YthbnbaikdcfbmaaGreatDoorChecked
import GoSem.Claim
import GoSem.ClaimJoined
import GoSem.ClaimMapViews
import Derived.JoinedTies
import Derived.KernelRfl
namespace Go.Proofs.YthbnbaikdcfbmaaGreatDoor
/- THE CELL 'sum', in the pinned program and in every row, IS THE sha256 OF THE DUMP (.gsa) THAT YthbnbaikdcfbmaaGreatDoorProg.lean LOADS. Nothing in Lean hashes anything: it is a label: what it is worth is what the hold of that sum in a sandbox is worth. -/
noncomputable def Tryz.pinned : Pinned := { name := "ythbnbaikdcfbmaagreatdoor", sum := "fd91ea04fd29b8ec6b342d7573cf7e521305878f3f7d9adbe7a4ebebbe93a63e", checked := Tryz.checked }
namespace Rows
def none {H : Type} : Left H := { results := [], args := [] }

/- WHAT THE LISTED PACKAGE-LEVEL VARIABLES READ AS WHEN THE CALL BEGINS. Each datum BY PROGRAM (the guide's laid-datum.mjs) off the statement by which the dump's own 'gosem.cut.vars' lays the variable. In a bare row this is a premise. The card (YthbnbaikdcfbmaaGreatDoorCards.lean) ties it to the program's text. -/
def laid_portolan_code_parts {H : Type} : DataW H := .agg [.lit (.string []), .lit (.string [68, 110]), .lit (.string [68, 65]), .lit (.string [68, 65, 66]), .lit (.string [68, 65, 66]), .lit (.string [68, 65, 66]), .lit (.string [68, 65, 66]), .lit (.string [68]), .lit (.string [68, 65]), .lit (.string [68, 65, 66]), .lit (.string [68, 78, 77]), .lit (.string [68, 65, 78]), .lit (.string [65, 78, 66]), .lit (.string [68, 65, 78]), .lit (.string [65, 78, 66]), .lit (.string [68, 65, 78]), .lit (.string [68, 65, 110]), .lit (.string [68, 65]), .lit (.string [65, 66]), .lit (.string [68, 78, 76]), .lit (.string [65]), .lit (.string [78]), .lit (.string [65, 78, 77]), .lit (.string [65])]
def laid_portolan_kind_rows {H : Type} : DataW H := .agg [.agg [.lit (.int .u8 0), .lit (.int .u8 0), .lit (.int .u8 0)], .agg [.lit (.int .u8 105), .lit (.int .u8 0), .lit (.int .u8 0)], .agg [.lit (.int .u8 0), .lit (.int .u8 0), .lit (.int .u8 0)], .agg [.lit (.int .u8 105), .lit (.int .u8 105), .lit (.int .u8 105)], .agg [.lit (.int .u8 105), .lit (.int .u8 105), .lit (.int .u8 105)], .agg [.lit (.int .u8 105), .lit (.int .u8 105), .lit (.int .u8 105)], .agg [.lit (.int .u8 105), .lit (.int .u8 105), .lit (.int .u8 105)], .agg [.lit (.int .u8 114), .lit (.int .u8 0), .lit (.int .u8 0)], .agg [.lit (.int .u8 105), .lit (.int .u8 114), .lit (.int .u8 0)], .agg [.lit (.int .u8 105), .lit (.int .u8 114), .lit (.int .u8 114)], .agg [.lit (.int .u8 114), .lit (.int .u8 0), .lit (.int .u8 0)], .agg [.lit (.int .u8 105), .lit (.int .u8 114), .lit (.int .u8 0)], .agg [.lit (.int .u8 45), .lit (.int .u8 114), .lit (.int .u8 105)], .agg [.lit (.int .u8 114), .lit (.int .u8 114), .lit (.int .u8 0)], .agg [.lit (.int .u8 45), .lit (.int .u8 114), .lit (.int .u8 114)], .agg [.lit (.int .u8 100), .lit (.int .u8 114), .lit (.int .u8 0)], .agg [.lit (.int .u8 100), .lit (.int .u8 100), .lit (.int .u8 0)], .agg [.lit (.int .u8 105), .lit (.int .u8 100), .lit (.int .u8 0)], .agg [.lit (.int .u8 45), .lit (.int .u8 100), .lit (.int .u8 105)], .agg [.lit (.int .u8 0), .lit (.int .u8 0), .lit (.int .u8 0)], .agg [.lit (.int .u8 45), .lit (.int .u8 105), .lit (.int .u8 0)], .agg [.lit (.int .u8 0), .lit (.int .u8 0), .lit (.int .u8 0)], .agg [.lit (.int .u8 45), .lit (.int .u8 105), .lit (.int .u8 0)], .agg [.lit (.int .u8 0), .lit (.int .u8 0), .lit (.int .u8 0)]]

/-- 'portolanlaw10.RunRuns': WHATEVER THE INPUT: true; the input reads as it did. -/
def runRunsSpec : ChangeSpec := { name := "runRuns", fn := fun _ => fun
  | [d1, d2] => { results := [.lit (.bool true)], args := [d1, d2] }
  | _ => none }
def runRunsRow : OpenClaim := { program := "ythbnbaikdcfbmaagreatdoor", sum := "fd91ea04fd29b8ec6b342d7573cf7e521305878f3f7d9adbe7a4ebebbe93a63e", func := "portolan/portolanlaw10.RunRuns", spec := "runRuns", inPlace := ["internal/bytealg.IndexByteString", "internal/bytealg.IndexString"], unfollowed := true, recurses := true, named := ["portolan/code.parts", "portolan/kind.rows", "internal/bytealg.MaxLen"], apart := false, laid := [("portolan/code.parts", laid_portolan_code_parts), ("portolan/kind.rows", laid_portolan_kind_rows)] }
def RunRunsSaid : Prop := runRunsRow.holds Tryz.pinned (OpenSpec.ofChange runRunsSpec)

/-- ITS FALSE NEIGHBOUR: 'it returns false'. Refute it at one input. -/
def runRunsWrong : ChangeSpec := { name := "runRuns", fn := fun _ => fun
  | [d1, d2] => { results := [.lit (.bool false)], args := [d1, d2] }
  | _ => none }
def RunRunsWrongFalsely : Prop := runRunsRow.holds Tryz.pinned (OpenSpec.ofChange runRunsWrong)

/-- 'portolanlaw10.RunEdges': WHATEVER THE INPUT: true; the input reads as it did. -/
def runEdgesSpec : ChangeSpec := { name := "runEdges", fn := fun _ => fun
  | [d1, d2] => { results := [.lit (.bool true)], args := [d1, d2] }
  | _ => none }
def runEdgesRow : OpenClaim := { program := "ythbnbaikdcfbmaagreatdoor", sum := "fd91ea04fd29b8ec6b342d7573cf7e521305878f3f7d9adbe7a4ebebbe93a63e", func := "portolan/portolanlaw10.RunEdges", spec := "runEdges", inPlace := ["internal/bytealg.IndexByteString", "internal/bytealg.IndexString"], unfollowed := true, recurses := true, named := ["portolan/code.parts", "portolan/kind.rows", "internal/bytealg.MaxLen"], apart := false, laid := [("portolan/code.parts", laid_portolan_code_parts), ("portolan/kind.rows", laid_portolan_kind_rows)] }
def RunEdgesSaid : Prop := runEdgesRow.holds Tryz.pinned (OpenSpec.ofChange runEdgesSpec)

/-- ITS FALSE NEIGHBOUR: 'it returns false'. Refute it at one input. -/
def runEdgesWrong : ChangeSpec := { name := "runEdges", fn := fun _ => fun
  | [d1, d2] => { results := [.lit (.bool false)], args := [d1, d2] }
  | _ => none }
def RunEdgesWrongFalsely : Prop := runEdgesRow.holds Tryz.pinned (OpenSpec.ofChange runEdgesWrong)

/-- 'portolanlaw10.RunBegins': WHATEVER THE INPUT: true; the input reads as it did. -/
def runBeginsSpec : ChangeSpec := { name := "runBegins", fn := fun _ => fun
  | [d1, d2] => { results := [.lit (.bool true)], args := [d1, d2] }
  | _ => none }
def runBeginsRow : OpenClaim := { program := "ythbnbaikdcfbmaagreatdoor", sum := "fd91ea04fd29b8ec6b342d7573cf7e521305878f3f7d9adbe7a4ebebbe93a63e", func := "portolan/portolanlaw10.RunBegins", spec := "runBegins", inPlace := ["internal/bytealg.IndexByteString", "internal/bytealg.IndexString"], unfollowed := true, recurses := true, named := ["portolan/code.parts", "portolan/kind.rows", "internal/bytealg.MaxLen"], apart := false, laid := [("portolan/code.parts", laid_portolan_code_parts), ("portolan/kind.rows", laid_portolan_kind_rows)] }
def RunBeginsSaid : Prop := runBeginsRow.holds Tryz.pinned (OpenSpec.ofChange runBeginsSpec)

/-- ITS FALSE NEIGHBOUR: 'it returns false'. Refute it at one input. -/
def runBeginsWrong : ChangeSpec := { name := "runBegins", fn := fun _ => fun
  | [d1, d2] => { results := [.lit (.bool false)], args := [d1, d2] }
  | _ => none }
def RunBeginsWrongFalsely : Prop := runBeginsRow.holds Tryz.pinned (OpenSpec.ofChange runBeginsWrong)

/-- 'portolanlaw10.RunHeap': WHATEVER THE INPUT: true; the input reads as it did. -/
def runHeapSpec : ChangeSpec := { name := "runHeap", fn := fun _ => fun
  | [d1, d2] => { results := [.lit (.bool true)], args := [d1, d2] }
  | _ => none }
def runHeapRow : OpenClaim := { program := "ythbnbaikdcfbmaagreatdoor", sum := "fd91ea04fd29b8ec6b342d7573cf7e521305878f3f7d9adbe7a4ebebbe93a63e", func := "portolan/portolanlaw10.RunHeap", spec := "runHeap", inPlace := ["internal/bytealg.IndexByteString", "internal/bytealg.IndexString"], unfollowed := true, recurses := true, named := ["portolan/code.parts", "portolan/kind.rows", "internal/bytealg.MaxLen"], apart := false, laid := [("portolan/code.parts", laid_portolan_code_parts), ("portolan/kind.rows", laid_portolan_kind_rows)] }
def RunHeapSaid : Prop := runHeapRow.holds Tryz.pinned (OpenSpec.ofChange runHeapSpec)

/-- ITS FALSE NEIGHBOUR: 'it returns false'. Refute it at one input. -/
def runHeapWrong : ChangeSpec := { name := "runHeap", fn := fun _ => fun
  | [d1, d2] => { results := [.lit (.bool false)], args := [d1, d2] }
  | _ => none }
def RunHeapWrongFalsely : Prop := runHeapRow.holds Tryz.pinned (OpenSpec.ofChange runHeapWrong)

/-- 'portolanlaw10.RunPrints': WHATEVER THE INPUT: true; the input reads as it did. -/
def runPrintsSpec : ChangeSpec := { name := "runPrints", fn := fun _ => fun
  | [d1, d2] => { results := [.lit (.bool true)], args := [d1, d2] }
  | _ => none }
def runPrintsRow : OpenClaim := { program := "ythbnbaikdcfbmaagreatdoor", sum := "fd91ea04fd29b8ec6b342d7573cf7e521305878f3f7d9adbe7a4ebebbe93a63e", func := "portolan/portolanlaw10.RunPrints", spec := "runPrints", inPlace := ["internal/bytealg.IndexByteString", "internal/bytealg.IndexString"], unfollowed := true, recurses := true, named := ["portolan/code.parts", "portolan/kind.rows", "internal/bytealg.MaxLen"], apart := false, laid := [("portolan/code.parts", laid_portolan_code_parts), ("portolan/kind.rows", laid_portolan_kind_rows)] }
def RunPrintsSaid : Prop := runPrintsRow.holds Tryz.pinned (OpenSpec.ofChange runPrintsSpec)

/-- ITS FALSE NEIGHBOUR: 'it returns false'. Refute it at one input. -/
def runPrintsWrong : ChangeSpec := { name := "runPrints", fn := fun _ => fun
  | [d1, d2] => { results := [.lit (.bool false)], args := [d1, d2] }
  | _ => none }
def RunPrintsWrongFalsely : Prop := runPrintsRow.holds Tryz.pinned (OpenSpec.ofChange runPrintsWrong)

/- THE SECOND FORM. 'bulk': how many values and letters a reading holds, each counted each time it is reached (what is shared counts as often as it is met; a slice's spare places count too). A statement '..UptoSaid' is the law's where the arguments, and the package variables that the reading takes, are together of bulk at most 1048576: NARROWER than '..Said'. Prove '..Said' where nothing that the law and all that it calls make is longer than what came in: it says more and counts as full. Else prove '..UptoSaid'. A law counts once. -/
mutual
def uptoBulk {H : Type} : DataW H → Nat
  | .lit (.string bytes) => bytes.length + 1
  | .lit _ => 1
  | .nil => 1
  | .ptr d => uptoBulk d + 1
  | .slice elems spare => uptoBulkAll elems + uptoBulkAll spare + 1
  | .agg parts => uptoBulkAll parts + 1
  | .iface _ d => uptoBulk d + 1
  | .map entries => uptoBulkEntries entries + 1
  | .held _ => 1
def uptoBulkAll {H : Type} : List (DataW H) → Nat
  | [] => 0
  | d :: r => uptoBulk d + uptoBulkAll r
def uptoBulkEntries {H : Type} : List (Lit × DataW H) → Nat
  | [] => 0
  | x :: r => uptoBulkEntry x + uptoBulkEntries r
def uptoBulkEntry {H : Type} : Lit × DataW H → Nat
  | (.string bytes, d) => bytes.length + uptoBulk d + 1
  | (_, d) => uptoBulk d + 1
 end
def uptoSmall : (H : Type) → List (DataW H) → Bool := fun _ ds => decide (uptoBulkAll ds ≤ 1048576)
def OpenSpec.upto (s : _root_.Go.ChangeSpec) : _root_.Go.OpenSpec := { _root_.Go.OpenSpec.ofChange s with cond := some uptoSmall }

/-- 'portolanlaw10.RunRuns', WHERE WHAT IT READS IS OF BULK AT MOST 1048576: true; the input reads as it did. -/
def runRunsUptoRow : OpenClaim := { program := "ythbnbaikdcfbmaagreatdoor", sum := "fd91ea04fd29b8ec6b342d7573cf7e521305878f3f7d9adbe7a4ebebbe93a63e", func := "portolan/portolanlaw10.RunRuns", spec := "runRuns", inPlace := ["internal/bytealg.IndexByteString", "internal/bytealg.IndexString"], unfollowed := true, recurses := true, named := ["portolan/code.parts", "portolan/kind.rows", "internal/bytealg.MaxLen"], apart := false, laid := [("portolan/code.parts", laid_portolan_code_parts), ("portolan/kind.rows", laid_portolan_kind_rows)], narrowed := true }
def RunRunsUptoSaid : Prop := runRunsUptoRow.holds Tryz.pinned (OpenSpec.upto runRunsSpec)

/-- 'portolanlaw10.RunEdges', WHERE WHAT IT READS IS OF BULK AT MOST 1048576: true; the input reads as it did. -/
def runEdgesUptoRow : OpenClaim := { program := "ythbnbaikdcfbmaagreatdoor", sum := "fd91ea04fd29b8ec6b342d7573cf7e521305878f3f7d9adbe7a4ebebbe93a63e", func := "portolan/portolanlaw10.RunEdges", spec := "runEdges", inPlace := ["internal/bytealg.IndexByteString", "internal/bytealg.IndexString"], unfollowed := true, recurses := true, named := ["portolan/code.parts", "portolan/kind.rows", "internal/bytealg.MaxLen"], apart := false, laid := [("portolan/code.parts", laid_portolan_code_parts), ("portolan/kind.rows", laid_portolan_kind_rows)], narrowed := true }
def RunEdgesUptoSaid : Prop := runEdgesUptoRow.holds Tryz.pinned (OpenSpec.upto runEdgesSpec)

/-- 'portolanlaw10.RunBegins', WHERE WHAT IT READS IS OF BULK AT MOST 1048576: true; the input reads as it did. -/
def runBeginsUptoRow : OpenClaim := { program := "ythbnbaikdcfbmaagreatdoor", sum := "fd91ea04fd29b8ec6b342d7573cf7e521305878f3f7d9adbe7a4ebebbe93a63e", func := "portolan/portolanlaw10.RunBegins", spec := "runBegins", inPlace := ["internal/bytealg.IndexByteString", "internal/bytealg.IndexString"], unfollowed := true, recurses := true, named := ["portolan/code.parts", "portolan/kind.rows", "internal/bytealg.MaxLen"], apart := false, laid := [("portolan/code.parts", laid_portolan_code_parts), ("portolan/kind.rows", laid_portolan_kind_rows)], narrowed := true }
def RunBeginsUptoSaid : Prop := runBeginsUptoRow.holds Tryz.pinned (OpenSpec.upto runBeginsSpec)

/-- 'portolanlaw10.RunHeap', WHERE WHAT IT READS IS OF BULK AT MOST 1048576: true; the input reads as it did. -/
def runHeapUptoRow : OpenClaim := { program := "ythbnbaikdcfbmaagreatdoor", sum := "fd91ea04fd29b8ec6b342d7573cf7e521305878f3f7d9adbe7a4ebebbe93a63e", func := "portolan/portolanlaw10.RunHeap", spec := "runHeap", inPlace := ["internal/bytealg.IndexByteString", "internal/bytealg.IndexString"], unfollowed := true, recurses := true, named := ["portolan/code.parts", "portolan/kind.rows", "internal/bytealg.MaxLen"], apart := false, laid := [("portolan/code.parts", laid_portolan_code_parts), ("portolan/kind.rows", laid_portolan_kind_rows)], narrowed := true }
def RunHeapUptoSaid : Prop := runHeapUptoRow.holds Tryz.pinned (OpenSpec.upto runHeapSpec)

/-- 'portolanlaw10.RunPrints', WHERE WHAT IT READS IS OF BULK AT MOST 1048576: true; the input reads as it did. -/
def runPrintsUptoRow : OpenClaim := { program := "ythbnbaikdcfbmaagreatdoor", sum := "fd91ea04fd29b8ec6b342d7573cf7e521305878f3f7d9adbe7a4ebebbe93a63e", func := "portolan/portolanlaw10.RunPrints", spec := "runPrints", inPlace := ["internal/bytealg.IndexByteString", "internal/bytealg.IndexString"], unfollowed := true, recurses := true, named := ["portolan/code.parts", "portolan/kind.rows", "internal/bytealg.MaxLen"], apart := false, laid := [("portolan/code.parts", laid_portolan_code_parts), ("portolan/kind.rows", laid_portolan_kind_rows)], narrowed := true }
def RunPrintsUptoSaid : Prop := runPrintsUptoRow.holds Tryz.pinned (OpenSpec.upto runPrintsSpec)

end Rows
end Go.Proofs.YthbnbaikdcfbmaaGreatDoor
