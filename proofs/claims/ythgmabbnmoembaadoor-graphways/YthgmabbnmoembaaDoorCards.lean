/-
  DERIVED. GIVEN WITH THE SEED: THE CARDS: each row of YthgmabbnmoembaaDoorRows.lean that lists a variable, with what it lists TIED to the program's text (the seventh form; the later family's looks); each row that meets fmt, with fmt's text TOLD by the authors' own Lean function (tested against real Go, not proved from fmt's source: count such statements apart). THE CARD IS WHAT COUNTS. Prove the row's statement (the work); the ties are given (YthgmabbnmoembaaDoorTie.lean); close each card by the builder's one call (the guide's Derived/Test/ToyasCard.lean, 'card_holds'). Laid BY PROGRAM, IN A SANDBOX (cutbox-door.mjs). By AI agents, Wed Nov 11 2026. No macro, syntax, notation, axiom, sorry.
-/
import Derived.Test.YthgmabbnmoembaaDoorRows
import GoSem.ClaimSeven
namespace Go.Proofs.YthgmabbnmoembaaDoor
namespace Rows

/-- THE TIED CARD OF 'cartularylaw18.GraphPlaces'. -/
def graphPlacesCard : Claim7 := { stood := { row := graphPlacesRow, standIns := [], harness := (true, "43e8f7d686b14f575a82941f92f9c02f7b79e0ad63de180ec0834764e9703490"), looks := false }, kinds := [], alts := [], laidByText := true, laidKinds := [.data, .pinned], laidTests := true, laidLooks := .later }
def GraphPlacesCardSaid : Prop := Claim7.holds Tryd.pinned (.plain (OpenSpec.ofChange graphPlacesSpec)) graphPlacesCard

/-- THE TIED CARD OF 'cartularylaw18.GraphWays'. -/
def graphWaysCard : Claim7 := { stood := { row := graphWaysRow, standIns := [], harness := (true, "43e8f7d686b14f575a82941f92f9c02f7b79e0ad63de180ec0834764e9703490"), looks := false }, kinds := [], alts := [], laidByText := true, laidKinds := [.data, .pinned], laidTests := true, laidLooks := .later }
def GraphWaysCardSaid : Prop := Claim7.holds Tryd.pinned (.plain (OpenSpec.ofChange graphWaysSpec)) graphWaysCard

/-- THE TIED CARD OF 'cartularylaw18.GraphApart'. -/
def graphApartCard : Claim7 := { stood := { row := graphApartRow, standIns := [], harness := (true, "43e8f7d686b14f575a82941f92f9c02f7b79e0ad63de180ec0834764e9703490"), looks := false }, kinds := [], alts := [], laidByText := true, laidKinds := [.data, .pinned], laidTests := true, laidLooks := .later }
def GraphApartCardSaid : Prop := Claim7.holds Tryd.pinned (.plain (OpenSpec.ofChange graphApartSpec)) graphApartCard

/-- THE TIED CARD OF 'cartularylaw18.GraphBusy'. -/
def graphBusyCard : Claim7 := { stood := { row := graphBusyRow, standIns := [], harness := (true, "43e8f7d686b14f575a82941f92f9c02f7b79e0ad63de180ec0834764e9703490"), looks := false }, kinds := [], alts := [], laidByText := true, laidKinds := [.data, .pinned], laidTests := true, laidLooks := .later }
def GraphBusyCardSaid : Prop := Claim7.holds Tryd.pinned (.plain (OpenSpec.ofChange graphBusySpec)) graphBusyCard

/-- THE SECOND FORM's CARD OF 'cartularylaw18.GraphPlaces'. -/
def graphPlacesUptoCard : Claim7 := { stood := { row := graphPlacesUptoRow, standIns := [], harness := (true, "43e8f7d686b14f575a82941f92f9c02f7b79e0ad63de180ec0834764e9703490"), looks := false }, kinds := [], alts := [], laidByText := true, laidKinds := [.data, .pinned], laidTests := true, laidLooks := .later }
def GraphPlacesUptoCardSaid : Prop := Claim7.holds Tryd.pinned (.plain (OpenSpec.upto graphPlacesSpec)) graphPlacesUptoCard

/-- THE SECOND FORM's CARD OF 'cartularylaw18.GraphWays'. -/
def graphWaysUptoCard : Claim7 := { stood := { row := graphWaysUptoRow, standIns := [], harness := (true, "43e8f7d686b14f575a82941f92f9c02f7b79e0ad63de180ec0834764e9703490"), looks := false }, kinds := [], alts := [], laidByText := true, laidKinds := [.data, .pinned], laidTests := true, laidLooks := .later }
def GraphWaysUptoCardSaid : Prop := Claim7.holds Tryd.pinned (.plain (OpenSpec.upto graphWaysSpec)) graphWaysUptoCard

/-- THE SECOND FORM's CARD OF 'cartularylaw18.GraphApart'. -/
def graphApartUptoCard : Claim7 := { stood := { row := graphApartUptoRow, standIns := [], harness := (true, "43e8f7d686b14f575a82941f92f9c02f7b79e0ad63de180ec0834764e9703490"), looks := false }, kinds := [], alts := [], laidByText := true, laidKinds := [.data, .pinned], laidTests := true, laidLooks := .later }
def GraphApartUptoCardSaid : Prop := Claim7.holds Tryd.pinned (.plain (OpenSpec.upto graphApartSpec)) graphApartUptoCard

/-- THE SECOND FORM's CARD OF 'cartularylaw18.GraphBusy'. -/
def graphBusyUptoCard : Claim7 := { stood := { row := graphBusyUptoRow, standIns := [], harness := (true, "43e8f7d686b14f575a82941f92f9c02f7b79e0ad63de180ec0834764e9703490"), looks := false }, kinds := [], alts := [], laidByText := true, laidKinds := [.data, .pinned], laidTests := true, laidLooks := .later }
def GraphBusyUptoCardSaid : Prop := Claim7.holds Tryd.pinned (.plain (OpenSpec.upto graphBusySpec)) graphBusyUptoCard
end Rows
end Go.Proofs.YthgmabbnmoembaaDoor
