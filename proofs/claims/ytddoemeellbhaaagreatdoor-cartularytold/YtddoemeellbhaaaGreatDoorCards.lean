/-
  DERIVED. GIVEN WITH THE SEED: THE CARDS: each row of YtddoemeellbhaaaGreatDoorRows.lean that lists a variable, with what it lists TIED to the program's text (the seventh form; the later family's looks); each row that meets fmt, with fmt's text TOLD by the authors' own Lean function (tested against real Go, not proved from fmt's source: count such statements apart). THE CARD IS WHAT COUNTS. Prove the row's statement (the work); the ties are given (YtddoemeellbhaaaGreatDoorTie.lean); close each card by the builder's one call (the guide's Derived/Test/ToyasCard.lean, 'card_holds'). Laid BY PROGRAM, IN A SANDBOX (cutbox-door.mjs). By AI agents, Wed Nov 11 2026. No macro, syntax, notation, axiom, sorry.
-/
import Derived.Test.YtddoemeellbhaaaGreatDoorRows
import GoSem.ClaimSeven
namespace Go.Proofs.YtddoemeellbhaaaGreatDoor
namespace Rows

/-- THE TIED CARD OF 'cartularylaw09.LooseReads'. -/
def looseReadsCard : Claim7 := { stood := { row := looseReadsRow, standIns := [], harness := (true, "ec501db70b02efe81e3e8365dd197205d21823041f992802c08272c746f4e0a5"), looks := true }, kinds := [], alts := [], laidByText := true, laidKinds := [.data, .data, .data, .data, .data, .data, .pinned], laidTests := true, laidLooks := .later }
def LooseReadsCardSaid : Prop := Claim7.holds Tryz.pinned (.plain (OpenSpec.ofChange looseReadsSpec)) looseReadsCard

/-- THE TIED CARD OF 'cartularylaw09.LooseWrites'. -/
def looseWritesCard : Claim7 := { stood := { row := looseWritesRow, standIns := [], harness := (true, "ec501db70b02efe81e3e8365dd197205d21823041f992802c08272c746f4e0a5"), looks := true }, kinds := [], alts := [], laidByText := true, laidKinds := [.data, .data, .data, .data, .data, .data, .pinned], laidTests := true, laidLooks := .later }
def LooseWritesCardSaid : Prop := Claim7.holds Tryz.pinned (.plain (OpenSpec.ofChange looseWritesSpec)) looseWritesCard

/-- THE TIED CARD OF 'cartularylaw09.LooseSure'. -/
def looseSureCard : Claim7 := { stood := { row := looseSureRow, standIns := [], harness := (true, "ec501db70b02efe81e3e8365dd197205d21823041f992802c08272c746f4e0a5"), looks := true }, kinds := [], alts := [], laidByText := true, laidKinds := [.data, .data, .data, .data, .data, .data, .pinned], laidTests := true, laidLooks := .later }
def LooseSureCardSaid : Prop := Claim7.holds Tryz.pinned (.plain (OpenSpec.ofChange looseSureSpec)) looseSureCard

/-- THE TIED CARD OF 'cartularylaw09.LooseOnly'. -/
def looseOnlyCard : Claim7 := { stood := { row := looseOnlyRow, standIns := [], harness := (true, "ec501db70b02efe81e3e8365dd197205d21823041f992802c08272c746f4e0a5"), looks := true }, kinds := [], alts := [], laidByText := true, laidKinds := [.data, .data, .data, .data, .data, .data, .pinned], laidTests := true, laidLooks := .later }
def LooseOnlyCardSaid : Prop := Claim7.holds Tryz.pinned (.plain (OpenSpec.ofChange looseOnlySpec)) looseOnlyCard

/-- THE TIED CARD OF 'cartularytop.CartularyTold'. -/
def cartularyToldCard : Claim7 := { stood := { row := cartularyToldRow, standIns := [], harness := (true, "ec501db70b02efe81e3e8365dd197205d21823041f992802c08272c746f4e0a5"), looks := true }, kinds := [], alts := [], laidByText := true, laidKinds := [.data, .data, .data, .data, .data, .data, .pinned], laidTests := true, laidLooks := .later }
def CartularyToldCardSaid : Prop := Claim7.holds Tryz.pinned (.plain (OpenSpec.ofChange cartularyToldSpec)) cartularyToldCard

/-- THE SECOND FORM's CARD OF 'cartularylaw09.LooseReads'. -/
def looseReadsUptoCard : Claim7 := { stood := { row := looseReadsUptoRow, standIns := [], harness := (true, "ec501db70b02efe81e3e8365dd197205d21823041f992802c08272c746f4e0a5"), looks := true }, kinds := [], alts := [], laidByText := true, laidKinds := [.data, .data, .data, .data, .data, .data, .pinned], laidTests := true, laidLooks := .later }
def LooseReadsUptoCardSaid : Prop := Claim7.holds Tryz.pinned (.plain (OpenSpec.upto looseReadsSpec)) looseReadsUptoCard

/-- THE SECOND FORM's CARD OF 'cartularylaw09.LooseWrites'. -/
def looseWritesUptoCard : Claim7 := { stood := { row := looseWritesUptoRow, standIns := [], harness := (true, "ec501db70b02efe81e3e8365dd197205d21823041f992802c08272c746f4e0a5"), looks := true }, kinds := [], alts := [], laidByText := true, laidKinds := [.data, .data, .data, .data, .data, .data, .pinned], laidTests := true, laidLooks := .later }
def LooseWritesUptoCardSaid : Prop := Claim7.holds Tryz.pinned (.plain (OpenSpec.upto looseWritesSpec)) looseWritesUptoCard

/-- THE SECOND FORM's CARD OF 'cartularylaw09.LooseSure'. -/
def looseSureUptoCard : Claim7 := { stood := { row := looseSureUptoRow, standIns := [], harness := (true, "ec501db70b02efe81e3e8365dd197205d21823041f992802c08272c746f4e0a5"), looks := true }, kinds := [], alts := [], laidByText := true, laidKinds := [.data, .data, .data, .data, .data, .data, .pinned], laidTests := true, laidLooks := .later }
def LooseSureUptoCardSaid : Prop := Claim7.holds Tryz.pinned (.plain (OpenSpec.upto looseSureSpec)) looseSureUptoCard

/-- THE SECOND FORM's CARD OF 'cartularylaw09.LooseOnly'. -/
def looseOnlyUptoCard : Claim7 := { stood := { row := looseOnlyUptoRow, standIns := [], harness := (true, "ec501db70b02efe81e3e8365dd197205d21823041f992802c08272c746f4e0a5"), looks := true }, kinds := [], alts := [], laidByText := true, laidKinds := [.data, .data, .data, .data, .data, .data, .pinned], laidTests := true, laidLooks := .later }
def LooseOnlyUptoCardSaid : Prop := Claim7.holds Tryz.pinned (.plain (OpenSpec.upto looseOnlySpec)) looseOnlyUptoCard

/-- THE SECOND FORM's CARD OF 'cartularytop.CartularyTold'. -/
def cartularyToldUptoCard : Claim7 := { stood := { row := cartularyToldUptoRow, standIns := [], harness := (true, "ec501db70b02efe81e3e8365dd197205d21823041f992802c08272c746f4e0a5"), looks := true }, kinds := [], alts := [], laidByText := true, laidKinds := [.data, .data, .data, .data, .data, .data, .pinned], laidTests := true, laidLooks := .later }
def CartularyToldUptoCardSaid : Prop := Claim7.holds Tryz.pinned (.plain (OpenSpec.upto cartularyToldSpec)) cartularyToldUptoCard
end Rows
end Go.Proofs.YtddoemeellbhaaaGreatDoor
