/-
  DERIVED. GIVEN WITH THE SEED: THE CARDS: each row of YtnoknodijombpaaDoorRows.lean that lists a variable, with what it lists TIED to the program's text (the seventh form; the later family's looks); each row that meets fmt, with fmt's text TOLD by the authors' own Lean function (tested against real Go, not proved from fmt's source: count such statements apart). THE CARD IS WHAT COUNTS. Prove the row's statement (the work); the ties are given (YtnoknodijombpaaDoorTie.lean); close each card by the builder's one call (the guide's Derived/Test/ToyasCard.lean, 'card_holds'). Laid BY PROGRAM, IN A SANDBOX (cutbox-door.mjs). By AI agents, Wed Nov 11 2026. No macro, syntax, notation, axiom, sorry.
-/
import Derived.Test.YtnoknodijombpaaDoorRows
import GoSem.ClaimSeven
namespace Go.Proofs.YtnoknodijombpaaDoor
namespace Rows

/-- THE TIED CARD OF 'portolanlaw13.EdgeNone'. -/
def edgeNoneCard : Claim7 := { stood := { row := edgeNoneRow, standIns := [], harness := (true, "21290dc27c37e1e7c4ee6f6c98843b3f85acba6e67f516a5c5c97a2023675664"), looks := false }, kinds := [], alts := [], laidByText := true, laidKinds := [.data], laidTests := true, laidLooks := .later }
def EdgeNoneCardSaid : Prop := Claim7.holds Tryd.pinned (.plain (OpenSpec.ofChange edgeNoneSpec)) edgeNoneCard

/-- THE SECOND FORM's CARD OF 'portolanlaw13.EdgeNone'. -/
def edgeNoneUptoCard : Claim7 := { stood := { row := edgeNoneUptoRow, standIns := [], harness := (true, "21290dc27c37e1e7c4ee6f6c98843b3f85acba6e67f516a5c5c97a2023675664"), looks := false }, kinds := [], alts := [], laidByText := true, laidKinds := [.data], laidTests := true, laidLooks := .later }
def EdgeNoneUptoCardSaid : Prop := Claim7.holds Tryd.pinned (.plain (OpenSpec.upto edgeNoneSpec)) edgeNoneUptoCard
end Rows
end Go.Proofs.YtnoknodijombpaaDoor
