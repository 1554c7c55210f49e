/-
  DERIVED. GIVEN WITH THE SEED: THE CARDS: each row of YtlhdfoebjldhiaaGreatDoorRows.lean that lists a variable, with what it lists TIED to the program's text (the seventh form; the later family's looks); each row that meets fmt, with fmt's text TOLD by the authors' own Lean function (tested against real Go, not proved from fmt's source: count such statements apart). THE CARD IS WHAT COUNTS. Prove the row's statement (the work); the ties are given (YtlhdfoebjldhiaaGreatDoorTie.lean); close each card by the builder's one call (the guide's Derived/Test/ToyasCard.lean, 'card_holds'). Laid BY PROGRAM, IN A SANDBOX (cutbox-door.mjs). By AI agents, Wed Nov 11 2026. No macro, syntax, notation, axiom, sorry.
-/
import Derived.Test.YtlhdfoebjldhiaaGreatDoorRows
import GoSem.ClaimSeven
namespace Go.Proofs.YtlhdfoebjldhiaaGreatDoor
namespace Rows

/-- THE TIED CARD OF 'portolanlaw12.KeepAcross'. -/
def keepAcrossCard : Claim7 := { stood := { row := keepAcrossRow, standIns := [], harness := (true, "1bc579383417bd68f97fee95fc827763391f7ea28790999eb4bfee3b21483617"), looks := false }, kinds := [], alts := [], laidByText := true, laidKinds := [.data, .data], laidTests := true, laidLooks := .later }
def KeepAcrossCardSaid : Prop := Claim7.holds Tryz.pinned (.plain (OpenSpec.ofChange keepAcrossSpec)) keepAcrossCard

/-- THE SECOND FORM's CARD OF 'portolanlaw12.KeepAcross'. -/
def keepAcrossUptoCard : Claim7 := { stood := { row := keepAcrossUptoRow, standIns := [], harness := (true, "1bc579383417bd68f97fee95fc827763391f7ea28790999eb4bfee3b21483617"), looks := false }, kinds := [], alts := [], laidByText := true, laidKinds := [.data, .data], laidTests := true, laidLooks := .later }
def KeepAcrossUptoCardSaid : Prop := Claim7.holds Tryz.pinned (.plain (OpenSpec.upto keepAcrossSpec)) keepAcrossUptoCard
end Rows
end Go.Proofs.YtlhdfoebjldhiaaGreatDoor
