/-
  NARROWER THAN 'FOR EVERY INPUT', by the rows' own cells (each row's printed sentence says how): CodeDecodes: laid · ShapeChecks: laid · ShapeIns: laid.
  DERIVED. THE GIVEN ROWS OF THIS SEAT. 3 by the template 'for every input the law returns true; each argument reads behind the call as it read before'; 0 by the template 'total and deterministic' (their statements: YtpggjolbohffjaaDoorTotals.lean).
  GIVEN WITH THE SEED: the statements are not yours to turn. If you find one false, say at which input.
  Laid BY PROGRAM, IN A SANDBOX (cutbox-rows.mjs): the forced cells as the released guide's own fill.sh prints them over the translation a05b333d80d46bcd… (all of the seat's roots in one cut). By AI agents, Wed Nov 11 2026. No macro, syntax, notation, axiom, sorry.
-/
import Derived.Test.YtpggjolbohffjaaDoorChecked
import GoSem.Claim
import GoSem.ClaimJoined
import GoSem.ClaimMapViews
import Derived.JoinedTies
import Derived.KernelRfl
namespace Go.Proofs.YtpggjolbohffjaaDoor
/- THE CELL 'sum', in the pinned program and in every row, IS THE sha256 OF THE DUMP (.gsa) THAT YtpggjolbohffjaaDoorProg.lean LOADS. Nothing in Lean hashes anything: it is a label: what it is worth is what the hold of that sum in a sandbox is worth. -/
noncomputable def Tryd.pinned : Pinned := { name := "ytpggjolbohffjaadoor", sum := "a05b333d80d46bcd7f779b268636978f2ad9a1f69a70aefc355441c1c2086ed8", checked := Tryd.checked }
namespace Rows
def none {H : Type} : Left H := { results := [], args := [] }

/- WHAT THE LISTED PACKAGE-LEVEL VARIABLES READ AS WHEN THE CALL BEGINS. Each datum BY PROGRAM (the guide's laid-datum.mjs) off the statement by which the dump's own 'gosem.cut.vars' lays the variable. In a bare row this is a premise. The card (YtpggjolbohffjaaDoorCards.lean) ties it to the program's text. -/
def laid_portolan_code_parts {H : Type} : DataW H := .agg [.lit (.string []), .lit (.string [68, 110]), .lit (.string [68, 65]), .lit (.string [68, 65, 66]), .lit (.string [68, 65, 66]), .lit (.string [68, 65, 66]), .lit (.string [68, 65, 66]), .lit (.string [68]), .lit (.string [68, 65]), .lit (.string [68, 65, 66]), .lit (.string [68, 78, 77]), .lit (.string [68, 65, 78]), .lit (.string [65, 78, 66]), .lit (.string [68, 65, 78]), .lit (.string [65, 78, 66]), .lit (.string [68, 65, 78]), .lit (.string [68, 65, 110]), .lit (.string [68, 65]), .lit (.string [65, 66]), .lit (.string [68, 78, 76]), .lit (.string [65]), .lit (.string [78]), .lit (.string [65, 78, 77]), .lit (.string [65])]

/-- 'portolanlaw03.CodeDecodes': WHATEVER THE INPUT: true; the input reads as it did. -/
def codeDecodesSpec : ChangeSpec := { name := "codeDecodes", fn := fun _ => fun
  | [d1, d2] => { results := [.lit (.bool true)], args := [d1, d2] }
  | _ => none }
def codeDecodesRow : OpenClaim := { program := "ytpggjolbohffjaadoor", sum := "a05b333d80d46bcd7f779b268636978f2ad9a1f69a70aefc355441c1c2086ed8", func := "portolan/portolanlaw03.CodeDecodes", spec := "codeDecodes", unfollowed := true, recurses := true, named := ["portolan/code.parts"], apart := false, laid := [("portolan/code.parts", laid_portolan_code_parts)] }
def CodeDecodesSaid : Prop := codeDecodesRow.holds Tryd.pinned (OpenSpec.ofChange codeDecodesSpec)

/-- ITS FALSE NEIGHBOUR: 'it returns false'. Refute it at one input. -/
def codeDecodesWrong : ChangeSpec := { name := "codeDecodes", fn := fun _ => fun
  | [d1, d2] => { results := [.lit (.bool false)], args := [d1, d2] }
  | _ => none }
def CodeDecodesWrongFalsely : Prop := codeDecodesRow.holds Tryd.pinned (OpenSpec.ofChange codeDecodesWrong)

/-- 'portolanlaw04.ShapeChecks': WHATEVER THE INPUT: true; the input reads as it did. -/
def shapeChecksSpec : ChangeSpec := { name := "shapeChecks", fn := fun _ => fun
  | [d] => { results := [.lit (.bool true)], args := [d] }
  | _ => none }
def shapeChecksRow : OpenClaim := { program := "ytpggjolbohffjaadoor", sum := "a05b333d80d46bcd7f779b268636978f2ad9a1f69a70aefc355441c1c2086ed8", func := "portolan/portolanlaw04.ShapeChecks", spec := "shapeChecks", inPlace := ["internal/bytealg.IndexByteString", "internal/bytealg.IndexString"], unfollowed := true, recurses := true, named := ["portolan/code.parts", "internal/bytealg.MaxLen"], apart := false, laid := [("portolan/code.parts", laid_portolan_code_parts)] }
def ShapeChecksSaid : Prop := shapeChecksRow.holds Tryd.pinned (OpenSpec.ofChange shapeChecksSpec)

/-- ITS FALSE NEIGHBOUR: 'it returns false'. Refute it at one input. -/
def shapeChecksWrong : ChangeSpec := { name := "shapeChecks", fn := fun _ => fun
  | [d] => { results := [.lit (.bool false)], args := [d] }
  | _ => none }
def ShapeChecksWrongFalsely : Prop := shapeChecksRow.holds Tryd.pinned (OpenSpec.ofChange shapeChecksWrong)

/-- 'portolanlaw04.ShapeIns': WHATEVER THE INPUT: true; the input reads as it did. -/
def shapeInsSpec : ChangeSpec := { name := "shapeIns", fn := fun _ => fun
  | [d1, d2, d3] => { results := [.lit (.bool true)], args := [d1, d2, d3] }
  | _ => none }
def shapeInsRow : OpenClaim := { program := "ytpggjolbohffjaadoor", sum := "a05b333d80d46bcd7f779b268636978f2ad9a1f69a70aefc355441c1c2086ed8", func := "portolan/portolanlaw04.ShapeIns", spec := "shapeIns", inPlace := ["internal/bytealg.IndexByteString", "internal/bytealg.IndexString"], unfollowed := true, recurses := true, named := ["portolan/code.parts", "internal/bytealg.MaxLen"], apart := false, laid := [("portolan/code.parts", laid_portolan_code_parts)] }
def ShapeInsSaid : Prop := shapeInsRow.holds Tryd.pinned (OpenSpec.ofChange shapeInsSpec)

/-- ITS FALSE NEIGHBOUR: 'it returns false'. Refute it at one input. -/
def shapeInsWrong : ChangeSpec := { name := "shapeIns", fn := fun _ => fun
  | [d1, d2, d3] => { results := [.lit (.bool false)], args := [d1, d2, d3] }
  | _ => none }
def ShapeInsWrongFalsely : Prop := shapeInsRow.holds Tryd.pinned (OpenSpec.ofChange shapeInsWrong)

/- THE SECOND FORM. 'bulk': how many values and letters a reading holds, each counted each time it is reached (what is shared counts as often as it is met; a slice's spare places count too). A statement '..UptoSaid' is the law's where the arguments, and the package variables that the reading takes, are together of bulk at most 1048576: NARROWER than '..Said'. Prove '..Said' where nothing that the law and all that it calls make is longer than what came in: it says more and counts as full. Else prove '..UptoSaid'. A law counts once. -/
mutual
def uptoBulk {H : Type} : DataW H → Nat
  | .lit (.string bytes) => bytes.length + 1
  | .lit _ => 1
  | .nil => 1
  | .ptr d => uptoBulk d + 1
  | .slice elems spare => uptoBulkAll elems + uptoBulkAll spare + 1
  | .agg parts => uptoBulkAll parts + 1
  | .iface _ d => uptoBulk d + 1
  | .map entries => uptoBulkEntries entries + 1
  | .held _ => 1
def uptoBulkAll {H : Type} : List (DataW H) → Nat
  | [] => 0
  | d :: r => uptoBulk d + uptoBulkAll r
def uptoBulkEntries {H : Type} : List (Lit × DataW H) → Nat
  | [] => 0
  | x :: r => uptoBulkEntry x + uptoBulkEntries r
def uptoBulkEntry {H : Type} : Lit × DataW H → Nat
  | (.string bytes, d) => bytes.length + uptoBulk d + 1
  | (_, d) => uptoBulk d + 1
 end
def uptoSmall : (H : Type) → List (DataW H) → Bool := fun _ ds => decide (uptoBulkAll ds ≤ 1048576)
def OpenSpec.upto (s : _root_.Go.ChangeSpec) : _root_.Go.OpenSpec := { _root_.Go.OpenSpec.ofChange s with cond := some uptoSmall }

/-- 'portolanlaw03.CodeDecodes', WHERE WHAT IT READS IS OF BULK AT MOST 1048576: true; the input reads as it did. -/
def codeDecodesUptoRow : OpenClaim := { program := "ytpggjolbohffjaadoor", sum := "a05b333d80d46bcd7f779b268636978f2ad9a1f69a70aefc355441c1c2086ed8", func := "portolan/portolanlaw03.CodeDecodes", spec := "codeDecodes", unfollowed := true, recurses := true, named := ["portolan/code.parts"], apart := false, laid := [("portolan/code.parts", laid_portolan_code_parts)], narrowed := true }
def CodeDecodesUptoSaid : Prop := codeDecodesUptoRow.holds Tryd.pinned (OpenSpec.upto codeDecodesSpec)

/-- 'portolanlaw04.ShapeChecks', WHERE WHAT IT READS IS OF BULK AT MOST 1048576: true; the input reads as it did. -/
def shapeChecksUptoRow : OpenClaim := { program := "ytpggjolbohffjaadoor", sum := "a05b333d80d46bcd7f779b268636978f2ad9a1f69a70aefc355441c1c2086ed8", func := "portolan/portolanlaw04.ShapeChecks", spec := "shapeChecks", inPlace := ["internal/bytealg.IndexByteString", "internal/bytealg.IndexString"], unfollowed := true, recurses := true, named := ["portolan/code.parts", "internal/bytealg.MaxLen"], apart := false, laid := [("portolan/code.parts", laid_portolan_code_parts)], narrowed := true }
def ShapeChecksUptoSaid : Prop := shapeChecksUptoRow.holds Tryd.pinned (OpenSpec.upto shapeChecksSpec)

/-- 'portolanlaw04.ShapeIns', WHERE WHAT IT READS IS OF BULK AT MOST 1048576: true; the input reads as it did. -/
def shapeInsUptoRow : OpenClaim := { program := "ytpggjolbohffjaadoor", sum := "a05b333d80d46bcd7f779b268636978f2ad9a1f69a70aefc355441c1c2086ed8", func := "portolan/portolanlaw04.ShapeIns", spec := "shapeIns", inPlace := ["internal/bytealg.IndexByteString", "internal/bytealg.IndexString"], unfollowed := true, recurses := true, named := ["portolan/code.parts", "internal/bytealg.MaxLen"], apart := false, laid := [("portolan/code.parts", laid_portolan_code_parts)], narrowed := true }
def ShapeInsUptoSaid : Prop := shapeInsUptoRow.holds Tryd.pinned (OpenSpec.upto shapeInsSpec)

end Rows
end Go.Proofs.YtpggjolbohffjaaDoor
