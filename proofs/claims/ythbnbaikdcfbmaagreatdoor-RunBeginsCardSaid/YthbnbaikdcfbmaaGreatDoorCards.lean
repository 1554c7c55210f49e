/-
  DERIVED. GIVEN WITH THE SEED: THE CARDS: each row of YthbnbaikdcfbmaaGreatDoorRows.lean that lists a variable, with what it lists TIED to the program's text (the seventh form; the later family's looks); each row that meets fmt, with fmt's text TOLD by the authors' own Lean function (tested against real Go, not proved from fmt's source: count such statements apart). THE CARD IS WHAT COUNTS. Prove the row's statement (the work); the ties are given (YthbnbaikdcfbmaaGreatDoorTie.lean); close each card by the builder's one call (the guide's Derived/Test/ToyasCard.lean, 'card_holds'). Laid BY PROGRAM, IN A SANDBOX (cutbox-door.mjs). By AI agents, Wed Nov 11 2026. No macro, syntax, notation, axiom, sorry.
-/
import Derived.Test.YthbnbaikdcfbmaaGreatDoorRows
import GoSem.ClaimSeven
namespace Go.Proofs.YthbnbaikdcfbmaaGreatDoor
namespace Rows

/-- THE TIED CARD OF 'portolanlaw10.RunRuns'. -/
def runRunsCard : Claim7 := { stood := { row := runRunsRow, standIns := [], harness := (true, "3afbd7850b949618b82600867f6d6784141e7586d303d92e5252f92aadbaf797"), looks := false }, kinds := [], alts := [], laidByText := true, laidKinds := [.data, .data], laidTests := true, laidLooks := .later }
def RunRunsCardSaid : Prop := Claim7.holds Tryz.pinned (.plain (OpenSpec.ofChange runRunsSpec)) runRunsCard

/-- THE TIED CARD OF 'portolanlaw10.RunEdges'. -/
def runEdgesCard : Claim7 := { stood := { row := runEdgesRow, standIns := [], harness := (true, "3afbd7850b949618b82600867f6d6784141e7586d303d92e5252f92aadbaf797"), looks := false }, kinds := [], alts := [], laidByText := true, laidKinds := [.data, .data], laidTests := true, laidLooks := .later }
def RunEdgesCardSaid : Prop := Claim7.holds Tryz.pinned (.plain (OpenSpec.ofChange runEdgesSpec)) runEdgesCard

/-- THE TIED CARD OF 'portolanlaw10.RunBegins'. -/
def runBeginsCard : Claim7 := { stood := { row := runBeginsRow, standIns := [], harness := (true, "3afbd7850b949618b82600867f6d6784141e7586d303d92e5252f92aadbaf797"), looks := false }, kinds := [], alts := [], laidByText := true, laidKinds := [.data, .data], laidTests := true, laidLooks := .later }
def RunBeginsCardSaid : Prop := Claim7.holds Tryz.pinned (.plain (OpenSpec.ofChange runBeginsSpec)) runBeginsCard

/-- THE TIED CARD OF 'portolanlaw10.RunHeap'. -/
def runHeapCard : Claim7 := { stood := { row := runHeapRow, standIns := [], harness := (true, "3afbd7850b949618b82600867f6d6784141e7586d303d92e5252f92aadbaf797"), looks := false }, kinds := [], alts := [], laidByText := true, laidKinds := [.data, .data], laidTests := true, laidLooks := .later }
def RunHeapCardSaid : Prop := Claim7.holds Tryz.pinned (.plain (OpenSpec.ofChange runHeapSpec)) runHeapCard

/-- THE TIED CARD OF 'portolanlaw10.RunPrints'. -/
def runPrintsCard : Claim7 := { stood := { row := runPrintsRow, standIns := [], harness := (true, "3afbd7850b949618b82600867f6d6784141e7586d303d92e5252f92aadbaf797"), looks := false }, kinds := [], alts := [], laidByText := true, laidKinds := [.data, .data], laidTests := true, laidLooks := .later }
def RunPrintsCardSaid : Prop := Claim7.holds Tryz.pinned (.plain (OpenSpec.ofChange runPrintsSpec)) runPrintsCard

/-- THE SECOND FORM's CARD OF 'portolanlaw10.RunRuns'. -/
def runRunsUptoCard : Claim7 := { stood := { row := runRunsUptoRow, standIns := [], harness := (true, "3afbd7850b949618b82600867f6d6784141e7586d303d92e5252f92aadbaf797"), looks := false }, kinds := [], alts := [], laidByText := true, laidKinds := [.data, .data], laidTests := true, laidLooks := .later }
def RunRunsUptoCardSaid : Prop := Claim7.holds Tryz.pinned (.plain (OpenSpec.upto runRunsSpec)) runRunsUptoCard

/-- THE SECOND FORM's CARD OF 'portolanlaw10.RunEdges'. -/
def runEdgesUptoCard : Claim7 := { stood := { row := runEdgesUptoRow, standIns := [], harness := (true, "3afbd7850b949618b82600867f6d6784141e7586d303d92e5252f92aadbaf797"), looks := false }, kinds := [], alts := [], laidByText := true, laidKinds := [.data, .data], laidTests := true, laidLooks := .later }
def RunEdgesUptoCardSaid : Prop := Claim7.holds Tryz.pinned (.plain (OpenSpec.upto runEdgesSpec)) runEdgesUptoCard

/-- THE SECOND FORM's CARD OF 'portolanlaw10.RunBegins'. -/
def runBeginsUptoCard : Claim7 := { stood := { row := runBeginsUptoRow, standIns := [], harness := (true, "3afbd7850b949618b82600867f6d6784141e7586d303d92e5252f92aadbaf797"), looks := false }, kinds := [], alts := [], laidByText := true, laidKinds := [.data, .data], laidTests := true, laidLooks := .later }
def RunBeginsUptoCardSaid : Prop := Claim7.holds Tryz.pinned (.plain (OpenSpec.upto runBeginsSpec)) runBeginsUptoCard

/-- THE SECOND FORM's CARD OF 'portolanlaw10.RunHeap'. -/
def runHeapUptoCard : Claim7 := { stood := { row := runHeapUptoRow, standIns := [], harness := (true, "3afbd7850b949618b82600867f6d6784141e7586d303d92e5252f92aadbaf797"), looks := false }, kinds := [], alts := [], laidByText := true, laidKinds := [.data, .data], laidTests := true, laidLooks := .later }
def RunHeapUptoCardSaid : Prop := Claim7.holds Tryz.pinned (.plain (OpenSpec.upto runHeapSpec)) runHeapUptoCard

/-- THE SECOND FORM's CARD OF 'portolanlaw10.RunPrints'. -/
def runPrintsUptoCard : Claim7 := { stood := { row := runPrintsUptoRow, standIns := [], harness := (true, "3afbd7850b949618b82600867f6d6784141e7586d303d92e5252f92aadbaf797"), looks := false }, kinds := [], alts := [], laidByText := true, laidKinds := [.data, .data], laidTests := true, laidLooks := .later }
def RunPrintsUptoCardSaid : Prop := Claim7.holds Tryz.pinned (.plain (OpenSpec.upto runPrintsSpec)) runPrintsUptoCard
end Rows
end Go.Proofs.YthbnbaikdcfbmaaGreatDoor
