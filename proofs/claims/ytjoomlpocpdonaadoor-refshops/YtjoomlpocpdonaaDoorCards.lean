/-
  DERIVED. GIVEN WITH THE SEED: THE CARDS: each row of YtjoomlpocpdonaaDoorRows.lean that lists a variable, with what it lists TIED to the program's text (the seventh form; the later family's looks); each row that meets fmt, with fmt's text TOLD by the authors' own Lean function (tested against real Go, not proved from fmt's source: count such statements apart). THE CARD IS WHAT COUNTS. Prove the row's statement (the work); the ties are given (YtjoomlpocpdonaaDoorTie.lean); close each card by the builder's one call (the guide's Derived/Test/ToyasCard.lean, 'card_holds'). Laid BY PROGRAM, IN A SANDBOX (cutbox-door.mjs). By AI agents, Wed Nov 11 2026. No macro, syntax, notation, axiom, sorry.
-/
import Derived.Test.YtjoomlpocpdonaaDoorRows
import GoSem.ClaimSeven
namespace Go.Proofs.YtjoomlpocpdonaaDoor
namespace Rows

/-- THE TIED CARD OF 'cartularylaw16.RefsHops'. -/
def refsHopsCard : Claim7 := { stood := { row := refsHopsRow, standIns := [], harness := (true, "aceb44a4f5bdc72248b76428a1ba53ac0726249be92027d9095eb4f74aeb51eb"), looks := false }, kinds := [], alts := [], laidByText := true, laidKinds := [.data, .pinned], laidTests := true, laidLooks := .later }
def RefsHopsCardSaid : Prop := Claim7.holds Tryd.pinned (.plain (OpenSpec.ofChange refsHopsSpec)) refsHopsCard

/-- THE TIED CARD OF 'cartularylaw16.RefsNames'. -/
def refsNamesCard : Claim7 := { stood := { row := refsNamesRow, standIns := [], harness := (true, "aceb44a4f5bdc72248b76428a1ba53ac0726249be92027d9095eb4f74aeb51eb"), looks := false }, kinds := [], alts := [], laidByText := true, laidKinds := [.data, .pinned], laidTests := true, laidLooks := .later }
def RefsNamesCardSaid : Prop := Claim7.holds Tryd.pinned (.plain (OpenSpec.ofChange refsNamesSpec)) refsNamesCard

/-- THE SECOND FORM's CARD OF 'cartularylaw16.RefsHops'. -/
def refsHopsUptoCard : Claim7 := { stood := { row := refsHopsUptoRow, standIns := [], harness := (true, "aceb44a4f5bdc72248b76428a1ba53ac0726249be92027d9095eb4f74aeb51eb"), looks := false }, kinds := [], alts := [], laidByText := true, laidKinds := [.data, .pinned], laidTests := true, laidLooks := .later }
def RefsHopsUptoCardSaid : Prop := Claim7.holds Tryd.pinned (.plain (OpenSpec.upto refsHopsSpec)) refsHopsUptoCard

/-- THE SECOND FORM's CARD OF 'cartularylaw16.RefsNames'. -/
def refsNamesUptoCard : Claim7 := { stood := { row := refsNamesUptoRow, standIns := [], harness := (true, "aceb44a4f5bdc72248b76428a1ba53ac0726249be92027d9095eb4f74aeb51eb"), looks := false }, kinds := [], alts := [], laidByText := true, laidKinds := [.data, .pinned], laidTests := true, laidLooks := .later }
def RefsNamesUptoCardSaid : Prop := Claim7.holds Tryd.pinned (.plain (OpenSpec.upto refsNamesSpec)) refsNamesUptoCard
end Rows
end Go.Proofs.YtjoomlpocpdonaaDoor
