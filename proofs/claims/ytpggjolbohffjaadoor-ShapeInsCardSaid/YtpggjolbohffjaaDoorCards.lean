/-
  DERIVED. GIVEN WITH THE SEED: THE CARDS: each row of YtpggjolbohffjaaDoorRows.lean that lists a variable, with what it lists TIED to the program's text (the seventh form; the later family's looks); each row that meets fmt, with fmt's text TOLD by the authors' own Lean function (tested against real Go, not proved from fmt's source: count such statements apart). THE CARD IS WHAT COUNTS. Prove the row's statement (the work); the ties are given (YtpggjolbohffjaaDoorTie.lean); close each card by the builder's one call (the guide's Derived/Test/ToyasCard.lean, 'card_holds'). Laid BY PROGRAM, IN A SANDBOX (cutbox-door.mjs). By AI agents, Wed Nov 11 2026. No macro, syntax, notation, axiom, sorry.
-/
import Derived.Test.YtpggjolbohffjaaDoorRows
import GoSem.ClaimSeven
namespace Go.Proofs.YtpggjolbohffjaaDoor
namespace Rows

/-- THE TIED CARD OF 'portolanlaw03.CodeDecodes'. -/
def codeDecodesCard : Claim7 := { stood := { row := codeDecodesRow, standIns := [], harness := (true, "60435e5ec49b2cf9db1c4794a6bb481e54d05d5182d631a9a0468e2f0e8b5396"), looks := false }, kinds := [], alts := [], laidByText := true, laidKinds := [.data], laidTests := true, laidLooks := .later }
def CodeDecodesCardSaid : Prop := Claim7.holds Tryd.pinned (.plain (OpenSpec.ofChange codeDecodesSpec)) codeDecodesCard

/-- THE TIED CARD OF 'portolanlaw04.ShapeChecks'. -/
def shapeChecksCard : Claim7 := { stood := { row := shapeChecksRow, standIns := [], harness := (true, "60435e5ec49b2cf9db1c4794a6bb481e54d05d5182d631a9a0468e2f0e8b5396"), looks := false }, kinds := [], alts := [], laidByText := true, laidKinds := [.data], laidTests := true, laidLooks := .later }
def ShapeChecksCardSaid : Prop := Claim7.holds Tryd.pinned (.plain (OpenSpec.ofChange shapeChecksSpec)) shapeChecksCard

/-- THE TIED CARD OF 'portolanlaw04.ShapeIns'. -/
def shapeInsCard : Claim7 := { stood := { row := shapeInsRow, standIns := [], harness := (true, "60435e5ec49b2cf9db1c4794a6bb481e54d05d5182d631a9a0468e2f0e8b5396"), looks := false }, kinds := [], alts := [], laidByText := true, laidKinds := [.data], laidTests := true, laidLooks := .later }
def ShapeInsCardSaid : Prop := Claim7.holds Tryd.pinned (.plain (OpenSpec.ofChange shapeInsSpec)) shapeInsCard

/-- THE SECOND FORM's CARD OF 'portolanlaw03.CodeDecodes'. -/
def codeDecodesUptoCard : Claim7 := { stood := { row := codeDecodesUptoRow, standIns := [], harness := (true, "60435e5ec49b2cf9db1c4794a6bb481e54d05d5182d631a9a0468e2f0e8b5396"), looks := false }, kinds := [], alts := [], laidByText := true, laidKinds := [.data], laidTests := true, laidLooks := .later }
def CodeDecodesUptoCardSaid : Prop := Claim7.holds Tryd.pinned (.plain (OpenSpec.upto codeDecodesSpec)) codeDecodesUptoCard

/-- THE SECOND FORM's CARD OF 'portolanlaw04.ShapeChecks'. -/
def shapeChecksUptoCard : Claim7 := { stood := { row := shapeChecksUptoRow, standIns := [], harness := (true, "60435e5ec49b2cf9db1c4794a6bb481e54d05d5182d631a9a0468e2f0e8b5396"), looks := false }, kinds := [], alts := [], laidByText := true, laidKinds := [.data], laidTests := true, laidLooks := .later }
def ShapeChecksUptoCardSaid : Prop := Claim7.holds Tryd.pinned (.plain (OpenSpec.upto shapeChecksSpec)) shapeChecksUptoCard

/-- THE SECOND FORM's CARD OF 'portolanlaw04.ShapeIns'. -/
def shapeInsUptoCard : Claim7 := { stood := { row := shapeInsUptoRow, standIns := [], harness := (true, "60435e5ec49b2cf9db1c4794a6bb481e54d05d5182d631a9a0468e2f0e8b5396"), looks := false }, kinds := [], alts := [], laidByText := true, laidKinds := [.data], laidTests := true, laidLooks := .later }
def ShapeInsUptoCardSaid : Prop := Claim7.holds Tryd.pinned (.plain (OpenSpec.upto shapeInsSpec)) shapeInsUptoCard
end Rows
end Go.Proofs.YtpggjolbohffjaaDoor
