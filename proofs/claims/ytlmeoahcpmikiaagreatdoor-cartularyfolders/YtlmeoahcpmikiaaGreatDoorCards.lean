/-
  DERIVED. GIVEN WITH THE SEED: THE CARDS: each row of YtlmeoahcpmikiaaGreatDoorRows.lean that lists a variable, with what it lists TIED to the program's text (the seventh form; the later family's looks); each row that meets fmt, with fmt's text TOLD by the authors' own Lean function (tested against real Go, not proved from fmt's source: count such statements apart). THE CARD IS WHAT COUNTS. Prove the row's statement (the work); the ties are given (YtlmeoahcpmikiaaGreatDoorTie.lean); close each card by the builder's one call (the guide's Derived/Test/ToyasCard.lean, 'card_holds'). Laid BY PROGRAM, IN A SANDBOX (cutbox-door.mjs). By AI agents, Wed Nov 11 2026. No macro, syntax, notation, axiom, sorry.
-/
import Derived.Test.YtlmeoahcpmikiaaGreatDoorRows
import GoSem.ClaimSeven
namespace Go.Proofs.YtlmeoahcpmikiaaGreatDoor
namespace Rows

/-- THE TIED CARD OF 'cartularytop.CartularyFolders'. -/
def cartularyFoldersCard : Claim7 := { stood := { row := cartularyFoldersRow, standIns := [], harness := (true, "f998a62ca9c058be0b4eec4fd826863b700687090faa1314b124f4f75cfff306"), looks := true }, kinds := [], alts := [], laidByText := true, laidKinds := [.data, .data, .data, .data, .data, .data, .data, .data, .data, .data, .pinned, .pinned], laidTests := true, laidLooks := .later }
def CartularyFoldersCardSaid : Prop := Claim7.holds Tryz.pinned (.plain (OpenSpec.ofChange cartularyFoldersSpec)) cartularyFoldersCard

/-- THE TIED CARD OF 'cartularytop.CartularyLabels'. -/
def cartularyLabelsCard : Claim7 := { stood := { row := cartularyLabelsRow, standIns := [], harness := (true, "f998a62ca9c058be0b4eec4fd826863b700687090faa1314b124f4f75cfff306"), looks := true }, kinds := [], alts := [], laidByText := true, laidKinds := [.data, .data, .data, .data, .data, .data, .sentinel, .sentinel, .data, .pinned], laidTests := true, laidLooks := .later }
def CartularyLabelsCardSaid : Prop := Claim7.holds Tryz.pinned (.plain (OpenSpec.ofChange cartularyLabelsSpec)) cartularyLabelsCard

/-- THE SECOND FORM's CARD OF 'cartularytop.CartularyFolders'. -/
def cartularyFoldersUptoCard : Claim7 := { stood := { row := cartularyFoldersUptoRow, standIns := [], harness := (true, "f998a62ca9c058be0b4eec4fd826863b700687090faa1314b124f4f75cfff306"), looks := true }, kinds := [], alts := [], laidByText := true, laidKinds := [.data, .data, .data, .data, .data, .data, .data, .data, .data, .data, .pinned, .pinned], laidTests := true, laidLooks := .later }
def CartularyFoldersUptoCardSaid : Prop := Claim7.holds Tryz.pinned (.plain (OpenSpec.upto cartularyFoldersSpec)) cartularyFoldersUptoCard

/-- THE SECOND FORM's CARD OF 'cartularytop.CartularyLabels'. -/
def cartularyLabelsUptoCard : Claim7 := { stood := { row := cartularyLabelsUptoRow, standIns := [], harness := (true, "f998a62ca9c058be0b4eec4fd826863b700687090faa1314b124f4f75cfff306"), looks := true }, kinds := [], alts := [], laidByText := true, laidKinds := [.data, .data, .data, .data, .data, .data, .sentinel, .sentinel, .data, .pinned], laidTests := true, laidLooks := .later }
def CartularyLabelsUptoCardSaid : Prop := Claim7.holds Tryz.pinned (.plain (OpenSpec.upto cartularyLabelsSpec)) cartularyLabelsUptoCard
end Rows
end Go.Proofs.YtlmeoahcpmikiaaGreatDoor
