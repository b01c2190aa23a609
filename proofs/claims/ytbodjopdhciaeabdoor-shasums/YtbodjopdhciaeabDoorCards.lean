/-
  DERIVED. GIVEN WITH THE SEED: THE CARDS: each row of YtbodjopdhciaeabDoorRows.lean that lists a variable, with what it lists TIED to the program's text (the seventh form; the later family's looks); each row that meets fmt, with fmt's text TOLD by the authors' own Lean function (tested against real Go, not proved from fmt's source: count such statements apart). THE CARD IS WHAT COUNTS. Prove the row's statement (the work); the ties are given (YtbodjopdhciaeabDoorTie.lean); close each card by the builder's one call (the guide's Derived/Test/ToyasCard.lean, 'card_holds'). Laid BY PROGRAM, IN A SANDBOX (cutbox-door.mjs). By AI agents, Wed Nov 11 2026. No macro, syntax, notation, axiom, sorry.
-/
import Derived.Test.YtbodjopdhciaeabDoorRows
import GoSem.ClaimSeven
namespace Go.Proofs.YtbodjopdhciaeabDoor
namespace Rows

/-- THE TIED CARD OF 'cartularylaw02.ShaSums'. -/
def shaSumsCard : Claim7 := { stood := { row := shaSumsRow, standIns := [], harness := (true, "f2bdae8c5918dcca248a5887be327432c8308d0733d785768c2b032045630d36"), looks := false }, kinds := [], alts := [], laidByText := true, laidKinds := [.data], laidTests := true, laidLooks := .later }
def ShaSumsCardSaid : Prop := Claim7.holds Tryd.pinned (.plain (OpenSpec.ofChange shaSumsSpec)) shaSumsCard

/-- THE TIED CARD OF 'cartularylaw02.ShaParts'. -/
def shaPartsCard : Claim7 := { stood := { row := shaPartsRow, standIns := [], harness := (true, "f2bdae8c5918dcca248a5887be327432c8308d0733d785768c2b032045630d36"), looks := false }, kinds := [], alts := [], laidByText := true, laidKinds := [.data], laidTests := true, laidLooks := .later }
def ShaPartsCardSaid : Prop := Claim7.holds Tryd.pinned (.plain (OpenSpec.ofChange shaPartsSpec)) shaPartsCard

/-- THE TIED CARD OF 'cartularylaw02.ShaAsks'. -/
def shaAsksCard : Claim7 := { stood := { row := shaAsksRow, standIns := [], harness := (true, "f2bdae8c5918dcca248a5887be327432c8308d0733d785768c2b032045630d36"), looks := false }, kinds := [], alts := [], laidByText := true, laidKinds := [.data], laidTests := true, laidLooks := .later }
def ShaAsksCardSaid : Prop := Claim7.holds Tryd.pinned (.plain (OpenSpec.ofChange shaAsksSpec)) shaAsksCard

/-- THE TIED CARD OF 'cartularytop.CartularyDigests'. -/
def cartularyDigestsCard : Claim7 := { stood := { row := cartularyDigestsRow, standIns := [], harness := (true, "f2bdae8c5918dcca248a5887be327432c8308d0733d785768c2b032045630d36"), looks := false }, kinds := [], alts := [], laidByText := true, laidKinds := [.data, .data], laidTests := true, laidLooks := .later }
def CartularyDigestsCardSaid : Prop := Claim7.holds Tryd.pinned (.plain (OpenSpec.ofChange cartularyDigestsSpec)) cartularyDigestsCard

/-- THE SECOND FORM's CARD OF 'cartularylaw02.ShaSums'. -/
def shaSumsUptoCard : Claim7 := { stood := { row := shaSumsUptoRow, standIns := [], harness := (true, "f2bdae8c5918dcca248a5887be327432c8308d0733d785768c2b032045630d36"), looks := false }, kinds := [], alts := [], laidByText := true, laidKinds := [.data], laidTests := true, laidLooks := .later }
def ShaSumsUptoCardSaid : Prop := Claim7.holds Tryd.pinned (.plain (OpenSpec.upto shaSumsSpec)) shaSumsUptoCard

/-- THE SECOND FORM's CARD OF 'cartularylaw02.ShaParts'. -/
def shaPartsUptoCard : Claim7 := { stood := { row := shaPartsUptoRow, standIns := [], harness := (true, "f2bdae8c5918dcca248a5887be327432c8308d0733d785768c2b032045630d36"), looks := false }, kinds := [], alts := [], laidByText := true, laidKinds := [.data], laidTests := true, laidLooks := .later }
def ShaPartsUptoCardSaid : Prop := Claim7.holds Tryd.pinned (.plain (OpenSpec.upto shaPartsSpec)) shaPartsUptoCard

/-- THE SECOND FORM's CARD OF 'cartularylaw02.ShaAsks'. -/
def shaAsksUptoCard : Claim7 := { stood := { row := shaAsksUptoRow, standIns := [], harness := (true, "f2bdae8c5918dcca248a5887be327432c8308d0733d785768c2b032045630d36"), looks := false }, kinds := [], alts := [], laidByText := true, laidKinds := [.data], laidTests := true, laidLooks := .later }
def ShaAsksUptoCardSaid : Prop := Claim7.holds Tryd.pinned (.plain (OpenSpec.upto shaAsksSpec)) shaAsksUptoCard

/-- THE SECOND FORM's CARD OF 'cartularytop.CartularyDigests'. -/
def cartularyDigestsUptoCard : Claim7 := { stood := { row := cartularyDigestsUptoRow, standIns := [], harness := (true, "f2bdae8c5918dcca248a5887be327432c8308d0733d785768c2b032045630d36"), looks := false }, kinds := [], alts := [], laidByText := true, laidKinds := [.data, .data], laidTests := true, laidLooks := .later }
def CartularyDigestsUptoCardSaid : Prop := Claim7.holds Tryd.pinned (.plain (OpenSpec.upto cartularyDigestsSpec)) cartularyDigestsUptoCard
end Rows
end Go.Proofs.YtbodjopdhciaeabDoor
