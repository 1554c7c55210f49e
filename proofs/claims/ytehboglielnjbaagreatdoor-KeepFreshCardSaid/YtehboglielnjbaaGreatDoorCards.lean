/-
  DERIVED. GIVEN WITH THE SEED: THE CARDS: each row of YtehboglielnjbaaGreatDoorRows.lean that lists a variable, with what it lists TIED to the program's text (the seventh form; the later family's looks); each row that meets fmt, with fmt's text TOLD by the authors' own Lean function (tested against real Go, not proved from fmt's source: count such statements apart). THE CARD IS WHAT COUNTS. Prove the row's statement (the work); the ties are given (YtehboglielnjbaaGreatDoorTie.lean); close each card by the builder's one call (the guide's Derived/Test/ToyasCard.lean, 'card_holds'). Laid BY PROGRAM, IN A SANDBOX (cutbox-door.mjs). By AI agents, Wed Nov 11 2026. No macro, syntax, notation, axiom, sorry.
-/
import Derived.Test.YtehboglielnjbaaGreatDoorRows
import GoSem.ClaimSeven
namespace Go.Proofs.YtehboglielnjbaaGreatDoor
namespace Rows

/-- THE TIED CARD OF 'portolanlaw12.KeepFresh'. -/
def keepFreshCard : Claim7 := { stood := { row := keepFreshRow, standIns := [], harness := (true, "e33e18f66338c84f239667294df768812afbfeaec5a0a67997d928f8661d36e2"), looks := false }, kinds := [], alts := [], laidByText := true, laidKinds := [.data, .data], laidTests := true, laidLooks := .later }
def KeepFreshCardSaid : Prop := Claim7.holds Tryz.pinned (.plain (OpenSpec.ofChange keepFreshSpec)) keepFreshCard

/-- THE SECOND FORM's CARD OF 'portolanlaw12.KeepFresh'. -/
def keepFreshUptoCard : Claim7 := { stood := { row := keepFreshUptoRow, standIns := [], harness := (true, "e33e18f66338c84f239667294df768812afbfeaec5a0a67997d928f8661d36e2"), looks := false }, kinds := [], alts := [], laidByText := true, laidKinds := [.data, .data], laidTests := true, laidLooks := .later }
def KeepFreshUptoCardSaid : Prop := Claim7.holds Tryz.pinned (.plain (OpenSpec.upto keepFreshSpec)) keepFreshUptoCard
end Rows
end Go.Proofs.YtehboglielnjbaaGreatDoor
