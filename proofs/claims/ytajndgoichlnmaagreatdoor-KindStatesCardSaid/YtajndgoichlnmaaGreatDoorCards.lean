/-
  DERIVED. GIVEN WITH THE SEED: THE CARDS: each row of YtajndgoichlnmaaGreatDoorRows.lean that lists a variable, with what it lists TIED to the program's text (the seventh form; the later family's looks); each row that meets fmt, with fmt's text TOLD by the authors' own Lean function (tested against real Go, not proved from fmt's source: count such statements apart). THE CARD IS WHAT COUNTS. Prove the row's statement (the work); the ties are given (YtajndgoichlnmaaGreatDoorTie.lean); close each card by the builder's one call (the guide's Derived/Test/ToyasCard.lean, 'card_holds'). Laid BY PROGRAM, IN A SANDBOX (cutbox-door.mjs). By AI agents, Wed Nov 11 2026. No macro, syntax, notation, axiom, sorry.
-/
import Derived.Test.YtajndgoichlnmaaGreatDoorRows
import GoSem.ClaimSeven
namespace Go.Proofs.YtajndgoichlnmaaGreatDoor
namespace Rows

/-- THE TIED CARD OF 'portolanlaw08.KindChecks'. -/
def kindChecksCard : Claim7 := { stood := { row := kindChecksRow, standIns := [], harness := (true, "4116e549dfc627444a6af6e1d16cd83dda0afa875f24f1b82f5f2a26e70f20c4"), looks := false }, kinds := [], alts := [], laidByText := true, laidKinds := [.data, .data], laidTests := true, laidLooks := .later }
def KindChecksCardSaid : Prop := Claim7.holds Tryz.pinned (.plain (OpenSpec.ofChange kindChecksSpec)) kindChecksCard

/-- THE TIED CARD OF 'portolanlaw08.KindFits'. -/
def kindFitsCard : Claim7 := { stood := { row := kindFitsRow, standIns := [], harness := (true, "4116e549dfc627444a6af6e1d16cd83dda0afa875f24f1b82f5f2a26e70f20c4"), looks := false }, kinds := [], alts := [], laidByText := true, laidKinds := [.data, .data], laidTests := true, laidLooks := .later }
def KindFitsCardSaid : Prop := Claim7.holds Tryz.pinned (.plain (OpenSpec.ofChange kindFitsSpec)) kindFitsCard

/-- THE TIED CARD OF 'portolanlaw08.KindStates'. -/
def kindStatesCard : Claim7 := { stood := { row := kindStatesRow, standIns := [], harness := (true, "4116e549dfc627444a6af6e1d16cd83dda0afa875f24f1b82f5f2a26e70f20c4"), looks := false }, kinds := [], alts := [], laidByText := true, laidKinds := [.data, .data], laidTests := true, laidLooks := .later }
def KindStatesCardSaid : Prop := Claim7.holds Tryz.pinned (.plain (OpenSpec.ofChange kindStatesSpec)) kindStatesCard

/-- THE TIED CARD OF 'portolanlaw08.KindWays'. -/
def kindWaysCard : Claim7 := { stood := { row := kindWaysRow, standIns := [], harness := (true, "4116e549dfc627444a6af6e1d16cd83dda0afa875f24f1b82f5f2a26e70f20c4"), looks := false }, kinds := [], alts := [], laidByText := true, laidKinds := [.data, .data], laidTests := true, laidLooks := .later }
def KindWaysCardSaid : Prop := Claim7.holds Tryz.pinned (.plain (OpenSpec.ofChange kindWaysSpec)) kindWaysCard

/-- THE SECOND FORM's CARD OF 'portolanlaw08.KindChecks'. -/
def kindChecksUptoCard : Claim7 := { stood := { row := kindChecksUptoRow, standIns := [], harness := (true, "4116e549dfc627444a6af6e1d16cd83dda0afa875f24f1b82f5f2a26e70f20c4"), looks := false }, kinds := [], alts := [], laidByText := true, laidKinds := [.data, .data], laidTests := true, laidLooks := .later }
def KindChecksUptoCardSaid : Prop := Claim7.holds Tryz.pinned (.plain (OpenSpec.upto kindChecksSpec)) kindChecksUptoCard

/-- THE SECOND FORM's CARD OF 'portolanlaw08.KindFits'. -/
def kindFitsUptoCard : Claim7 := { stood := { row := kindFitsUptoRow, standIns := [], harness := (true, "4116e549dfc627444a6af6e1d16cd83dda0afa875f24f1b82f5f2a26e70f20c4"), looks := false }, kinds := [], alts := [], laidByText := true, laidKinds := [.data, .data], laidTests := true, laidLooks := .later }
def KindFitsUptoCardSaid : Prop := Claim7.holds Tryz.pinned (.plain (OpenSpec.upto kindFitsSpec)) kindFitsUptoCard

/-- THE SECOND FORM's CARD OF 'portolanlaw08.KindStates'. -/
def kindStatesUptoCard : Claim7 := { stood := { row := kindStatesUptoRow, standIns := [], harness := (true, "4116e549dfc627444a6af6e1d16cd83dda0afa875f24f1b82f5f2a26e70f20c4"), looks := false }, kinds := [], alts := [], laidByText := true, laidKinds := [.data, .data], laidTests := true, laidLooks := .later }
def KindStatesUptoCardSaid : Prop := Claim7.holds Tryz.pinned (.plain (OpenSpec.upto kindStatesSpec)) kindStatesUptoCard

/-- THE SECOND FORM's CARD OF 'portolanlaw08.KindWays'. -/
def kindWaysUptoCard : Claim7 := { stood := { row := kindWaysUptoRow, standIns := [], harness := (true, "4116e549dfc627444a6af6e1d16cd83dda0afa875f24f1b82f5f2a26e70f20c4"), looks := false }, kinds := [], alts := [], laidByText := true, laidKinds := [.data, .data], laidTests := true, laidLooks := .later }
def KindWaysUptoCardSaid : Prop := Claim7.holds Tryz.pinned (.plain (OpenSpec.upto kindWaysSpec)) kindWaysUptoCard
end Rows
end Go.Proofs.YtajndgoichlnmaaGreatDoor
