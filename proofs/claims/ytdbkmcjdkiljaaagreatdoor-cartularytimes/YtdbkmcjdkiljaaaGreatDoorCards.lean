/-
  DERIVED. GIVEN WITH THE SEED: THE CARDS: each row of YtdbkmcjdkiljaaaGreatDoorRows.lean that lists a variable, with what it lists TIED to the program's text (the seventh form; the later family's looks); each row that meets fmt, with fmt's text TOLD by the authors' own Lean function (tested against real Go, not proved from fmt's source: count such statements apart). THE CARD IS WHAT COUNTS. Prove the row's statement (the work); the ties are given (YtdbkmcjdkiljaaaGreatDoorTie.lean); close each card by the builder's one call (the guide's Derived/Test/ToyasCard.lean, 'card_holds'). Laid BY PROGRAM, IN A SANDBOX (cutbox-door.mjs). By AI agents, Wed Nov 11 2026. No macro, syntax, notation, axiom, sorry.
-/
import Derived.Test.YtdbkmcjdkiljaaaGreatDoorRows
import GoSem.ClaimSeven
namespace Go.Proofs.YtdbkmcjdkiljaaaGreatDoor
namespace Rows

/-- THE TIED CARD OF 'cartularytop.CartularyTimes'. -/
def cartularyTimesCard : Claim7 := { stood := { row := cartularyTimesRow, standIns := [], harness := (true, "0f6cef5589fa0fbb842eed0cd411021cb0fad86c56a63568ac371ed0f2ec7597"), looks := false }, kinds := [], alts := [], laidByText := true, laidKinds := [.data, .data, .data, .data, .data, .pinned], laidTests := true, laidLooks := .later }
def CartularyTimesCardSaid : Prop := Claim7.holds Tryz.pinned (.plain (OpenSpec.ofChange cartularyTimesSpec)) cartularyTimesCard

/-- THE SECOND FORM's CARD OF 'cartularytop.CartularyTimes'. -/
def cartularyTimesUptoCard : Claim7 := { stood := { row := cartularyTimesUptoRow, standIns := [], harness := (true, "0f6cef5589fa0fbb842eed0cd411021cb0fad86c56a63568ac371ed0f2ec7597"), looks := false }, kinds := [], alts := [], laidByText := true, laidKinds := [.data, .data, .data, .data, .data, .pinned], laidTests := true, laidLooks := .later }
def CartularyTimesUptoCardSaid : Prop := Claim7.holds Tryz.pinned (.plain (OpenSpec.upto cartularyTimesSpec)) cartularyTimesUptoCard
end Rows
end Go.Proofs.YtdbkmcjdkiljaaaGreatDoor
