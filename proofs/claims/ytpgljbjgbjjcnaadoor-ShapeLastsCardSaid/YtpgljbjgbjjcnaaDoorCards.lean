/-
  DERIVED. GIVEN WITH THE SEED: THE CARDS: each row of YtpgljbjgbjjcnaaDoorRows.lean that lists a variable, with what it lists TIED to the program's text (the seventh form; the later family's looks); each row that meets fmt, with fmt's text TOLD by the authors' own Lean function (tested against real Go, not proved from fmt's source: count such statements apart). THE CARD IS WHAT COUNTS. Prove the row's statement (the work); the ties are given (YtpgljbjgbjjcnaaDoorTie.lean); close each card by the builder's one call (the guide's Derived/Test/ToyasCard.lean, 'card_holds'). Laid BY PROGRAM, IN A SANDBOX (cutbox-door.mjs). By AI agents, Wed Nov 11 2026. No macro, syntax, notation, axiom, sorry.
-/
import Derived.Test.YtpgljbjgbjjcnaaDoorRows
import GoSem.ClaimSeven
namespace Go.Proofs.YtpgljbjgbjjcnaaDoor
namespace Rows

/-- THE TIED CARD OF 'portolanlaw03.CodeEncodes'. -/
def codeEncodesCard : Claim7 := { stood := { row := codeEncodesRow, standIns := [], harness := (true, "f0a12adea81f76d031bc3e629dca845222e725041e031d6acb9242e606b5f360"), looks := false }, kinds := [], alts := [], laidByText := true, laidKinds := [.data], laidTests := true, laidLooks := .later }
def CodeEncodesCardSaid : Prop := Claim7.holds Tryd.pinned (.plain (OpenSpec.ofChange codeEncodesSpec)) codeEncodesCard

/-- THE TIED CARD OF 'portolanlaw03.CodeDecodes'. -/
def codeDecodesCard : Claim7 := { stood := { row := codeDecodesRow, standIns := [], harness := (true, "f0a12adea81f76d031bc3e629dca845222e725041e031d6acb9242e606b5f360"), looks := false }, kinds := [], alts := [], laidByText := true, laidKinds := [.data], laidTests := true, laidLooks := .later }
def CodeDecodesCardSaid : Prop := Claim7.holds Tryd.pinned (.plain (OpenSpec.ofChange codeDecodesSpec)) codeDecodesCard

/-- THE TIED CARD OF 'portolanlaw03.CodeBack'. -/
def codeBackCard : Claim7 := { stood := { row := codeBackRow, standIns := [], harness := (true, "f0a12adea81f76d031bc3e629dca845222e725041e031d6acb9242e606b5f360"), looks := false }, kinds := [], alts := [], laidByText := true, laidKinds := [.data], laidTests := true, laidLooks := .later }
def CodeBackCardSaid : Prop := Claim7.holds Tryd.pinned (.plain (OpenSpec.ofChange codeBackSpec)) codeBackCard

/-- THE TIED CARD OF 'portolanlaw03.CodeOnce'. -/
def codeOnceCard : Claim7 := { stood := { row := codeOnceRow, standIns := [], harness := (true, "f0a12adea81f76d031bc3e629dca845222e725041e031d6acb9242e606b5f360"), looks := false }, kinds := [], alts := [], laidByText := true, laidKinds := [.data], laidTests := true, laidLooks := .later }
def CodeOnceCardSaid : Prop := Claim7.holds Tryd.pinned (.plain (OpenSpec.ofChange codeOnceSpec)) codeOnceCard

/-- THE TIED CARD OF 'portolanlaw03.CodeEnds'. -/
def codeEndsCard : Claim7 := { stood := { row := codeEndsRow, standIns := [], harness := (true, "f0a12adea81f76d031bc3e629dca845222e725041e031d6acb9242e606b5f360"), looks := false }, kinds := [], alts := [], laidByText := true, laidKinds := [.data], laidTests := true, laidLooks := .later }
def CodeEndsCardSaid : Prop := Claim7.holds Tryd.pinned (.plain (OpenSpec.ofChange codeEndsSpec)) codeEndsCard

/-- THE TIED CARD OF 'portolanlaw04.ShapeChecks'. -/
def shapeChecksCard : Claim7 := { stood := { row := shapeChecksRow, standIns := [], harness := (true, "f0a12adea81f76d031bc3e629dca845222e725041e031d6acb9242e606b5f360"), looks := false }, kinds := [], alts := [], laidByText := true, laidKinds := [.data], laidTests := true, laidLooks := .later }
def ShapeChecksCardSaid : Prop := Claim7.holds Tryd.pinned (.plain (OpenSpec.ofChange shapeChecksSpec)) shapeChecksCard

/-- THE TIED CARD OF 'portolanlaw04.ShapeIns'. -/
def shapeInsCard : Claim7 := { stood := { row := shapeInsRow, standIns := [], harness := (true, "f0a12adea81f76d031bc3e629dca845222e725041e031d6acb9242e606b5f360"), looks := false }, kinds := [], alts := [], laidByText := true, laidKinds := [.data], laidTests := true, laidLooks := .later }
def ShapeInsCardSaid : Prop := Claim7.holds Tryd.pinned (.plain (OpenSpec.ofChange shapeInsSpec)) shapeInsCard

/-- THE TIED CARD OF 'portolanlaw04.ShapeBytes'. -/
def shapeBytesCard : Claim7 := { stood := { row := shapeBytesRow, standIns := [], harness := (true, "f0a12adea81f76d031bc3e629dca845222e725041e031d6acb9242e606b5f360"), looks := false }, kinds := [], alts := [], laidByText := true, laidKinds := [.data], laidTests := true, laidLooks := .later }
def ShapeBytesCardSaid : Prop := Claim7.holds Tryd.pinned (.plain (OpenSpec.ofChange shapeBytesSpec)) shapeBytesCard

/-- THE TIED CARD OF 'portolanlaw04.ShapeLasts'. -/
def shapeLastsCard : Claim7 := { stood := { row := shapeLastsRow, standIns := [], harness := (true, "f0a12adea81f76d031bc3e629dca845222e725041e031d6acb9242e606b5f360"), looks := false }, kinds := [], alts := [], laidByText := true, laidKinds := [.data], laidTests := true, laidLooks := .later }
def ShapeLastsCardSaid : Prop := Claim7.holds Tryd.pinned (.plain (OpenSpec.ofChange shapeLastsSpec)) shapeLastsCard

/-- THE TIED CARD OF 'portolanlaw04.ShapeFirst'. -/
def shapeFirstCard : Claim7 := { stood := { row := shapeFirstRow, standIns := [], harness := (true, "f0a12adea81f76d031bc3e629dca845222e725041e031d6acb9242e606b5f360"), looks := false }, kinds := [], alts := [], laidByText := true, laidKinds := [.data], laidTests := true, laidLooks := .later }
def ShapeFirstCardSaid : Prop := Claim7.holds Tryd.pinned (.plain (OpenSpec.ofChange shapeFirstSpec)) shapeFirstCard

/-- THE SECOND FORM's CARD OF 'portolanlaw03.CodeEncodes'. -/
def codeEncodesUptoCard : Claim7 := { stood := { row := codeEncodesUptoRow, standIns := [], harness := (true, "f0a12adea81f76d031bc3e629dca845222e725041e031d6acb9242e606b5f360"), looks := false }, kinds := [], alts := [], laidByText := true, laidKinds := [.data], laidTests := true, laidLooks := .later }
def CodeEncodesUptoCardSaid : Prop := Claim7.holds Tryd.pinned (.plain (OpenSpec.upto codeEncodesSpec)) codeEncodesUptoCard

/-- THE SECOND FORM's CARD OF 'portolanlaw03.CodeDecodes'. -/
def codeDecodesUptoCard : Claim7 := { stood := { row := codeDecodesUptoRow, standIns := [], harness := (true, "f0a12adea81f76d031bc3e629dca845222e725041e031d6acb9242e606b5f360"), looks := false }, kinds := [], alts := [], laidByText := true, laidKinds := [.data], laidTests := true, laidLooks := .later }
def CodeDecodesUptoCardSaid : Prop := Claim7.holds Tryd.pinned (.plain (OpenSpec.upto codeDecodesSpec)) codeDecodesUptoCard

/-- THE SECOND FORM's CARD OF 'portolanlaw03.CodeBack'. -/
def codeBackUptoCard : Claim7 := { stood := { row := codeBackUptoRow, standIns := [], harness := (true, "f0a12adea81f76d031bc3e629dca845222e725041e031d6acb9242e606b5f360"), looks := false }, kinds := [], alts := [], laidByText := true, laidKinds := [.data], laidTests := true, laidLooks := .later }
def CodeBackUptoCardSaid : Prop := Claim7.holds Tryd.pinned (.plain (OpenSpec.upto codeBackSpec)) codeBackUptoCard

/-- THE SECOND FORM's CARD OF 'portolanlaw03.CodeOnce'. -/
def codeOnceUptoCard : Claim7 := { stood := { row := codeOnceUptoRow, standIns := [], harness := (true, "f0a12adea81f76d031bc3e629dca845222e725041e031d6acb9242e606b5f360"), looks := false }, kinds := [], alts := [], laidByText := true, laidKinds := [.data], laidTests := true, laidLooks := .later }
def CodeOnceUptoCardSaid : Prop := Claim7.holds Tryd.pinned (.plain (OpenSpec.upto codeOnceSpec)) codeOnceUptoCard

/-- THE SECOND FORM's CARD OF 'portolanlaw03.CodeEnds'. -/
def codeEndsUptoCard : Claim7 := { stood := { row := codeEndsUptoRow, standIns := [], harness := (true, "f0a12adea81f76d031bc3e629dca845222e725041e031d6acb9242e606b5f360"), looks := false }, kinds := [], alts := [], laidByText := true, laidKinds := [.data], laidTests := true, laidLooks := .later }
def CodeEndsUptoCardSaid : Prop := Claim7.holds Tryd.pinned (.plain (OpenSpec.upto codeEndsSpec)) codeEndsUptoCard

/-- THE SECOND FORM's CARD OF 'portolanlaw04.ShapeChecks'. -/
def shapeChecksUptoCard : Claim7 := { stood := { row := shapeChecksUptoRow, standIns := [], harness := (true, "f0a12adea81f76d031bc3e629dca845222e725041e031d6acb9242e606b5f360"), looks := false }, kinds := [], alts := [], laidByText := true, laidKinds := [.data], laidTests := true, laidLooks := .later }
def ShapeChecksUptoCardSaid : Prop := Claim7.holds Tryd.pinned (.plain (OpenSpec.upto shapeChecksSpec)) shapeChecksUptoCard

/-- THE SECOND FORM's CARD OF 'portolanlaw04.ShapeIns'. -/
def shapeInsUptoCard : Claim7 := { stood := { row := shapeInsUptoRow, standIns := [], harness := (true, "f0a12adea81f76d031bc3e629dca845222e725041e031d6acb9242e606b5f360"), looks := false }, kinds := [], alts := [], laidByText := true, laidKinds := [.data], laidTests := true, laidLooks := .later }
def ShapeInsUptoCardSaid : Prop := Claim7.holds Tryd.pinned (.plain (OpenSpec.upto shapeInsSpec)) shapeInsUptoCard

/-- THE SECOND FORM's CARD OF 'portolanlaw04.ShapeBytes'. -/
def shapeBytesUptoCard : Claim7 := { stood := { row := shapeBytesUptoRow, standIns := [], harness := (true, "f0a12adea81f76d031bc3e629dca845222e725041e031d6acb9242e606b5f360"), looks := false }, kinds := [], alts := [], laidByText := true, laidKinds := [.data], laidTests := true, laidLooks := .later }
def ShapeBytesUptoCardSaid : Prop := Claim7.holds Tryd.pinned (.plain (OpenSpec.upto shapeBytesSpec)) shapeBytesUptoCard

/-- THE SECOND FORM's CARD OF 'portolanlaw04.ShapeLasts'. -/
def shapeLastsUptoCard : Claim7 := { stood := { row := shapeLastsUptoRow, standIns := [], harness := (true, "f0a12adea81f76d031bc3e629dca845222e725041e031d6acb9242e606b5f360"), looks := false }, kinds := [], alts := [], laidByText := true, laidKinds := [.data], laidTests := true, laidLooks := .later }
def ShapeLastsUptoCardSaid : Prop := Claim7.holds Tryd.pinned (.plain (OpenSpec.upto shapeLastsSpec)) shapeLastsUptoCard

/-- THE SECOND FORM's CARD OF 'portolanlaw04.ShapeFirst'. -/
def shapeFirstUptoCard : Claim7 := { stood := { row := shapeFirstUptoRow, standIns := [], harness := (true, "f0a12adea81f76d031bc3e629dca845222e725041e031d6acb9242e606b5f360"), looks := false }, kinds := [], alts := [], laidByText := true, laidKinds := [.data], laidTests := true, laidLooks := .later }
def ShapeFirstUptoCardSaid : Prop := Claim7.holds Tryd.pinned (.plain (OpenSpec.upto shapeFirstSpec)) shapeFirstUptoCard
end Rows
end Go.Proofs.YtpgljbjgbjjcnaaDoor
