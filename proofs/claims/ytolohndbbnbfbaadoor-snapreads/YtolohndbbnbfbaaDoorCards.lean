/-
  DERIVED. GIVEN WITH THE SEED: THE CARDS: each row of YtolohndbbnbfbaaDoorRows.lean that lists a variable, with what it lists TIED to the program's text (the seventh form; the later family's looks); each row that meets fmt, with fmt's text TOLD by the authors' own Lean function (tested against real Go, not proved from fmt's source: count such statements apart). THE CARD IS WHAT COUNTS. Prove the row's statement (the work); the ties are given (YtolohndbbnbfbaaDoorTie.lean); close each card by the builder's one call (the guide's Derived/Test/ToyasCard.lean, 'card_holds'). Laid BY PROGRAM, IN A SANDBOX (cutbox-door.mjs). By AI agents, Wed Nov 11 2026. No macro, syntax, notation, axiom, sorry.
-/
import Derived.Test.YtolohndbbnbfbaaDoorRows
import GoSem.ClaimSeven
namespace Go.Proofs.YtolohndbbnbfbaaDoor
namespace Rows

/-- THE TIED CARD OF 'cartularylaw07.SnapReads'. -/
def snapReadsCard : Claim7 := { stood := { row := snapReadsRow, standIns := [], harness := (true, "b8ad438b3cde469957dd6e9758a0f115ed18fac7c512b2c53e9541dc34d44a99"), looks := false }, kinds := [], alts := [], laidByText := true, laidKinds := [.data, .pinned], laidTests := true, laidLooks := .later }
def SnapReadsCardSaid : Prop := Claim7.holds Tryd.pinned (.plain (OpenSpec.ofChange snapReadsSpec)) snapReadsCard

/-- THE TIED CARD OF 'cartularylaw07.SnapFull'. -/
def snapFullCard : Claim7 := { stood := { row := snapFullRow, standIns := [], harness := (true, "b8ad438b3cde469957dd6e9758a0f115ed18fac7c512b2c53e9541dc34d44a99"), looks := false }, kinds := [], alts := [], laidByText := true, laidKinds := [.data, .pinned], laidTests := true, laidLooks := .later }
def SnapFullCardSaid : Prop := Claim7.holds Tryd.pinned (.plain (OpenSpec.ofChange snapFullSpec)) snapFullCard

/-- THE TIED CARD OF 'cartularylaw07.SnapTurns'. -/
def snapTurnsCard : Claim7 := { stood := { row := snapTurnsRow, standIns := [], harness := (true, "b8ad438b3cde469957dd6e9758a0f115ed18fac7c512b2c53e9541dc34d44a99"), looks := false }, kinds := [], alts := [], laidByText := true, laidKinds := [.data, .pinned], laidTests := true, laidLooks := .later }
def SnapTurnsCardSaid : Prop := Claim7.holds Tryd.pinned (.plain (OpenSpec.ofChange snapTurnsSpec)) snapTurnsCard

/-- THE TIED CARD OF 'cartularylaw07.SnapBeginnings'. -/
def snapBeginningsCard : Claim7 := { stood := { row := snapBeginningsRow, standIns := [], harness := (true, "b8ad438b3cde469957dd6e9758a0f115ed18fac7c512b2c53e9541dc34d44a99"), looks := false }, kinds := [], alts := [], laidByText := true, laidKinds := [.data, .pinned], laidTests := true, laidLooks := .later }
def SnapBeginningsCardSaid : Prop := Claim7.holds Tryd.pinned (.plain (OpenSpec.ofChange snapBeginningsSpec)) snapBeginningsCard

/-- THE TIED CARD OF 'cartularylaw08.ObjectTexts'. -/
def objectTextsCard : Claim7 := { stood := { row := objectTextsRow, standIns := [], harness := (true, "b8ad438b3cde469957dd6e9758a0f115ed18fac7c512b2c53e9541dc34d44a99"), looks := false }, kinds := [], alts := [], laidByText := true, laidKinds := [.data, .data, .data, .data], laidTests := true, laidLooks := .later }
def ObjectTextsCardSaid : Prop := Claim7.holds Tryd.pinned (.plain (OpenSpec.ofChange objectTextsSpec)) objectTextsCard

/-- THE TIED CARD OF 'cartularylaw08.ObjectReads'. -/
def objectReadsCard : Claim7 := { stood := { row := objectReadsRow, standIns := [], harness := (true, "b8ad438b3cde469957dd6e9758a0f115ed18fac7c512b2c53e9541dc34d44a99"), looks := false }, kinds := [], alts := [], laidByText := true, laidKinds := [.data, .data, .data, .data], laidTests := true, laidLooks := .later }
def ObjectReadsCardSaid : Prop := Claim7.holds Tryd.pinned (.plain (OpenSpec.ofChange objectReadsSpec)) objectReadsCard

/-- THE TIED CARD OF 'cartularylaw08.ObjectApart'. -/
def objectApartCard : Claim7 := { stood := { row := objectApartRow, standIns := [], harness := (true, "b8ad438b3cde469957dd6e9758a0f115ed18fac7c512b2c53e9541dc34d44a99"), looks := false }, kinds := [], alts := [], laidByText := true, laidKinds := [.data, .data, .data, .data], laidTests := true, laidLooks := .later }
def ObjectApartCardSaid : Prop := Claim7.holds Tryd.pinned (.plain (OpenSpec.ofChange objectApartSpec)) objectApartCard

/-- THE TIED CARD OF 'cartularylaw08.ObjectNumbers'. -/
def objectNumbersCard : Claim7 := { stood := { row := objectNumbersRow, standIns := [], harness := (true, "b8ad438b3cde469957dd6e9758a0f115ed18fac7c512b2c53e9541dc34d44a99"), looks := false }, kinds := [], alts := [], laidByText := true, laidKinds := [.data, .data, .data, .data], laidTests := true, laidLooks := .later }
def ObjectNumbersCardSaid : Prop := Claim7.holds Tryd.pinned (.plain (OpenSpec.ofChange objectNumbersSpec)) objectNumbersCard

/-- THE TIED CARD OF 'cartularytop.CartularyNames'. -/
def cartularyNamesCard : Claim7 := { stood := { row := cartularyNamesRow, standIns := [], harness := (true, "b8ad438b3cde469957dd6e9758a0f115ed18fac7c512b2c53e9541dc34d44a99"), looks := false }, kinds := [], alts := [], laidByText := true, laidKinds := [.data, .data, .data, .data, .data, .pinned], laidTests := true, laidLooks := .later }
def CartularyNamesCardSaid : Prop := Claim7.holds Tryd.pinned (.plain (OpenSpec.ofChange cartularyNamesSpec)) cartularyNamesCard

/-- THE SECOND FORM's CARD OF 'cartularylaw07.SnapReads'. -/
def snapReadsUptoCard : Claim7 := { stood := { row := snapReadsUptoRow, standIns := [], harness := (true, "b8ad438b3cde469957dd6e9758a0f115ed18fac7c512b2c53e9541dc34d44a99"), looks := false }, kinds := [], alts := [], laidByText := true, laidKinds := [.data, .pinned], laidTests := true, laidLooks := .later }
def SnapReadsUptoCardSaid : Prop := Claim7.holds Tryd.pinned (.plain (OpenSpec.upto snapReadsSpec)) snapReadsUptoCard

/-- THE SECOND FORM's CARD OF 'cartularylaw07.SnapFull'. -/
def snapFullUptoCard : Claim7 := { stood := { row := snapFullUptoRow, standIns := [], harness := (true, "b8ad438b3cde469957dd6e9758a0f115ed18fac7c512b2c53e9541dc34d44a99"), looks := false }, kinds := [], alts := [], laidByText := true, laidKinds := [.data, .pinned], laidTests := true, laidLooks := .later }
def SnapFullUptoCardSaid : Prop := Claim7.holds Tryd.pinned (.plain (OpenSpec.upto snapFullSpec)) snapFullUptoCard

/-- THE SECOND FORM's CARD OF 'cartularylaw07.SnapTurns'. -/
def snapTurnsUptoCard : Claim7 := { stood := { row := snapTurnsUptoRow, standIns := [], harness := (true, "b8ad438b3cde469957dd6e9758a0f115ed18fac7c512b2c53e9541dc34d44a99"), looks := false }, kinds := [], alts := [], laidByText := true, laidKinds := [.data, .pinned], laidTests := true, laidLooks := .later }
def SnapTurnsUptoCardSaid : Prop := Claim7.holds Tryd.pinned (.plain (OpenSpec.upto snapTurnsSpec)) snapTurnsUptoCard

/-- THE SECOND FORM's CARD OF 'cartularylaw07.SnapBeginnings'. -/
def snapBeginningsUptoCard : Claim7 := { stood := { row := snapBeginningsUptoRow, standIns := [], harness := (true, "b8ad438b3cde469957dd6e9758a0f115ed18fac7c512b2c53e9541dc34d44a99"), looks := false }, kinds := [], alts := [], laidByText := true, laidKinds := [.data, .pinned], laidTests := true, laidLooks := .later }
def SnapBeginningsUptoCardSaid : Prop := Claim7.holds Tryd.pinned (.plain (OpenSpec.upto snapBeginningsSpec)) snapBeginningsUptoCard

/-- THE SECOND FORM's CARD OF 'cartularylaw08.ObjectTexts'. -/
def objectTextsUptoCard : Claim7 := { stood := { row := objectTextsUptoRow, standIns := [], harness := (true, "b8ad438b3cde469957dd6e9758a0f115ed18fac7c512b2c53e9541dc34d44a99"), looks := false }, kinds := [], alts := [], laidByText := true, laidKinds := [.data, .data, .data, .data], laidTests := true, laidLooks := .later }
def ObjectTextsUptoCardSaid : Prop := Claim7.holds Tryd.pinned (.plain (OpenSpec.upto objectTextsSpec)) objectTextsUptoCard

/-- THE SECOND FORM's CARD OF 'cartularylaw08.ObjectReads'. -/
def objectReadsUptoCard : Claim7 := { stood := { row := objectReadsUptoRow, standIns := [], harness := (true, "b8ad438b3cde469957dd6e9758a0f115ed18fac7c512b2c53e9541dc34d44a99"), looks := false }, kinds := [], alts := [], laidByText := true, laidKinds := [.data, .data, .data, .data], laidTests := true, laidLooks := .later }
def ObjectReadsUptoCardSaid : Prop := Claim7.holds Tryd.pinned (.plain (OpenSpec.upto objectReadsSpec)) objectReadsUptoCard

/-- THE SECOND FORM's CARD OF 'cartularylaw08.ObjectApart'. -/
def objectApartUptoCard : Claim7 := { stood := { row := objectApartUptoRow, standIns := [], harness := (true, "b8ad438b3cde469957dd6e9758a0f115ed18fac7c512b2c53e9541dc34d44a99"), looks := false }, kinds := [], alts := [], laidByText := true, laidKinds := [.data, .data, .data, .data], laidTests := true, laidLooks := .later }
def ObjectApartUptoCardSaid : Prop := Claim7.holds Tryd.pinned (.plain (OpenSpec.upto objectApartSpec)) objectApartUptoCard

/-- THE SECOND FORM's CARD OF 'cartularylaw08.ObjectNumbers'. -/
def objectNumbersUptoCard : Claim7 := { stood := { row := objectNumbersUptoRow, standIns := [], harness := (true, "b8ad438b3cde469957dd6e9758a0f115ed18fac7c512b2c53e9541dc34d44a99"), looks := false }, kinds := [], alts := [], laidByText := true, laidKinds := [.data, .data, .data, .data], laidTests := true, laidLooks := .later }
def ObjectNumbersUptoCardSaid : Prop := Claim7.holds Tryd.pinned (.plain (OpenSpec.upto objectNumbersSpec)) objectNumbersUptoCard

/-- THE SECOND FORM's CARD OF 'cartularytop.CartularyNames'. -/
def cartularyNamesUptoCard : Claim7 := { stood := { row := cartularyNamesUptoRow, standIns := [], harness := (true, "b8ad438b3cde469957dd6e9758a0f115ed18fac7c512b2c53e9541dc34d44a99"), looks := false }, kinds := [], alts := [], laidByText := true, laidKinds := [.data, .data, .data, .data, .data, .pinned], laidTests := true, laidLooks := .later }
def CartularyNamesUptoCardSaid : Prop := Claim7.holds Tryd.pinned (.plain (OpenSpec.upto cartularyNamesSpec)) cartularyNamesUptoCard
end Rows
end Go.Proofs.YtolohndbbnbfbaaDoor
