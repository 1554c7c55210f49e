/-
  DERIVED. GIVEN WITH THE SEED: THE CARDS: each row of YtbofnlaacjgclaaDoorRows.lean that lists a variable, with what it lists TIED to the program's text (the seventh form; the later family's looks); each row that meets fmt, with fmt's text TOLD by the authors' own Lean function (tested against real Go, not proved from fmt's source: count such statements apart). THE CARD IS WHAT COUNTS. Prove the row's statement (the work); the ties are given (YtbofnlaacjgclaaDoorTie.lean); close each card by the builder's one call (the guide's Derived/Test/ToyasCard.lean, 'card_holds'). Laid BY PROGRAM, IN A SANDBOX (cutbox-door.mjs). By AI agents, Wed Nov 11 2026. No macro, syntax, notation, axiom, sorry.
-/
import Derived.Test.YtbofnlaacjgclaaDoorRows
import GoSem.ClaimSeven
namespace Go.Proofs.YtbofnlaacjgclaaDoor
namespace Rows

/-- THE TIED CARD OF 'portolanlaw11.LivePlaces'. -/
def livePlacesCard : Claim7 := { stood := { row := livePlacesRow, standIns := [], harness := (true, "57f816c105bbe99fd6717070dbc0bd7e4e478a673dffe4c9d83de3bd5ef08998"), looks := false }, kinds := [], alts := [], laidByText := true, laidKinds := [.data], laidTests := true, laidLooks := .later }
def LivePlacesCardSaid : Prop := Claim7.holds Tryd.pinned (.plain (OpenSpec.ofChange livePlacesSpec)) livePlacesCard

/-- THE TIED CARD OF 'portolanlaw12.KeepPlaces'. -/
def keepPlacesCard : Claim7 := { stood := { row := keepPlacesRow, standIns := [], harness := (true, "57f816c105bbe99fd6717070dbc0bd7e4e478a673dffe4c9d83de3bd5ef08998"), looks := false }, kinds := [], alts := [], laidByText := true, laidKinds := [.data], laidTests := true, laidLooks := .later }
def KeepPlacesCardSaid : Prop := Claim7.holds Tryd.pinned (.plain (OpenSpec.ofChange keepPlacesSpec)) keepPlacesCard

/-- THE TIED CARD OF 'portolanlaw13.EdgeNone'. -/
def edgeNoneCard : Claim7 := { stood := { row := edgeNoneRow, standIns := [], harness := (true, "57f816c105bbe99fd6717070dbc0bd7e4e478a673dffe4c9d83de3bd5ef08998"), looks := false }, kinds := [], alts := [], laidByText := true, laidKinds := [.data], laidTests := true, laidLooks := .later }
def EdgeNoneCardSaid : Prop := Claim7.holds Tryd.pinned (.plain (OpenSpec.ofChange edgeNoneSpec)) edgeNoneCard

/-- THE SECOND FORM's CARD OF 'portolanlaw11.LivePlaces'. -/
def livePlacesUptoCard : Claim7 := { stood := { row := livePlacesUptoRow, standIns := [], harness := (true, "57f816c105bbe99fd6717070dbc0bd7e4e478a673dffe4c9d83de3bd5ef08998"), looks := false }, kinds := [], alts := [], laidByText := true, laidKinds := [.data], laidTests := true, laidLooks := .later }
def LivePlacesUptoCardSaid : Prop := Claim7.holds Tryd.pinned (.plain (OpenSpec.upto livePlacesSpec)) livePlacesUptoCard

/-- THE SECOND FORM's CARD OF 'portolanlaw12.KeepPlaces'. -/
def keepPlacesUptoCard : Claim7 := { stood := { row := keepPlacesUptoRow, standIns := [], harness := (true, "57f816c105bbe99fd6717070dbc0bd7e4e478a673dffe4c9d83de3bd5ef08998"), looks := false }, kinds := [], alts := [], laidByText := true, laidKinds := [.data], laidTests := true, laidLooks := .later }
def KeepPlacesUptoCardSaid : Prop := Claim7.holds Tryd.pinned (.plain (OpenSpec.upto keepPlacesSpec)) keepPlacesUptoCard

/-- THE SECOND FORM's CARD OF 'portolanlaw13.EdgeNone'. -/
def edgeNoneUptoCard : Claim7 := { stood := { row := edgeNoneUptoRow, standIns := [], harness := (true, "57f816c105bbe99fd6717070dbc0bd7e4e478a673dffe4c9d83de3bd5ef08998"), looks := false }, kinds := [], alts := [], laidByText := true, laidKinds := [.data], laidTests := true, laidLooks := .later }
def EdgeNoneUptoCardSaid : Prop := Claim7.holds Tryd.pinned (.plain (OpenSpec.upto edgeNoneSpec)) edgeNoneUptoCard
end Rows
end Go.Proofs.YtbofnlaacjgclaaDoor
