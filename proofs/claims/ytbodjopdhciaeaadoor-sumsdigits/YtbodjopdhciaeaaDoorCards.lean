/-
  DERIVED. GIVEN WITH THE SEED: THE CARDS: each row of YtbodjopdhciaeaaDoorRows.lean that lists a variable, with what it lists TIED to the program's text (the seventh form; the later family's looks); each row that meets fmt, with fmt's text TOLD by the authors' own Lean function (tested against real Go, not proved from fmt's source: count such statements apart). THE CARD IS WHAT COUNTS. Prove the row's statement (the work); the ties are given (YtbodjopdhciaeaaDoorTie.lean); close each card by the builder's one call (the guide's Derived/Test/ToyasCard.lean, 'card_holds'). Laid BY PROGRAM, IN A SANDBOX (cutbox-door.mjs). By AI agents, Wed Nov 11 2026. No macro, syntax, notation, axiom, sorry.
-/
import Derived.Test.YtbodjopdhciaeaaDoorRows
import GoSem.ClaimSeven
namespace Go.Proofs.YtbodjopdhciaeaaDoor
namespace Rows

/-- THE TIED CARD OF 'cartularylaw01.SumsSums'. -/
def sumsSumsCard : Claim7 := { stood := { row := sumsSumsRow, standIns := [], harness := (true, "a864543dc2df4474785559c724410c3cb91762e24e4b11b6db79aa7edfb208d2"), looks := false }, kinds := [], alts := [], laidByText := true, laidKinds := [.data], laidTests := true, laidLooks := .later }
def SumsSumsCardSaid : Prop := Claim7.holds Tryd.pinned (.plain (OpenSpec.ofChange sumsSumsSpec)) sumsSumsCard

/-- THE TIED CARD OF 'cartularylaw01.SumsParts'. -/
def sumsPartsCard : Claim7 := { stood := { row := sumsPartsRow, standIns := [], harness := (true, "a864543dc2df4474785559c724410c3cb91762e24e4b11b6db79aa7edfb208d2"), looks := false }, kinds := [], alts := [], laidByText := true, laidKinds := [.data], laidTests := true, laidLooks := .later }
def SumsPartsCardSaid : Prop := Claim7.holds Tryd.pinned (.plain (OpenSpec.ofChange sumsPartsSpec)) sumsPartsCard

/-- THE TIED CARD OF 'cartularylaw01.SumsDigits'. -/
def sumsDigitsCard : Claim7 := { stood := { row := sumsDigitsRow, standIns := [], harness := (true, "a864543dc2df4474785559c724410c3cb91762e24e4b11b6db79aa7edfb208d2"), looks := false }, kinds := [], alts := [], laidByText := true, laidKinds := [.data], laidTests := true, laidLooks := .later }
def SumsDigitsCardSaid : Prop := Claim7.holds Tryd.pinned (.plain (OpenSpec.ofChange sumsDigitsSpec)) sumsDigitsCard

/-- THE TIED CARD OF 'cartularylaw01.SumsNumbers'. -/
def sumsNumbersCard : Claim7 := { stood := { row := sumsNumbersRow, standIns := [], harness := (true, "a864543dc2df4474785559c724410c3cb91762e24e4b11b6db79aa7edfb208d2"), looks := false }, kinds := [], alts := [], laidByText := true, laidKinds := [.data], laidTests := true, laidLooks := .later }
def SumsNumbersCardSaid : Prop := Claim7.holds Tryd.pinned (.plain (OpenSpec.ofChange sumsNumbersSpec)) sumsNumbersCard

/-- THE TIED CARD OF 'cartularylaw01.SumsBack'. -/
def sumsBackCard : Claim7 := { stood := { row := sumsBackRow, standIns := [], harness := (true, "a864543dc2df4474785559c724410c3cb91762e24e4b11b6db79aa7edfb208d2"), looks := false }, kinds := [], alts := [], laidByText := true, laidKinds := [.data], laidTests := true, laidLooks := .later }
def SumsBackCardSaid : Prop := Claim7.holds Tryd.pinned (.plain (OpenSpec.ofChange sumsBackSpec)) sumsBackCard

/-- THE TIED CARD OF 'cartularylaw01.SumsApart'. -/
def sumsApartCard : Claim7 := { stood := { row := sumsApartRow, standIns := [], harness := (true, "a864543dc2df4474785559c724410c3cb91762e24e4b11b6db79aa7edfb208d2"), looks := false }, kinds := [], alts := [], laidByText := true, laidKinds := [.data], laidTests := true, laidLooks := .later }
def SumsApartCardSaid : Prop := Claim7.holds Tryd.pinned (.plain (OpenSpec.ofChange sumsApartSpec)) sumsApartCard

/-- THE SECOND FORM's CARD OF 'cartularylaw01.SumsSums'. -/
def sumsSumsUptoCard : Claim7 := { stood := { row := sumsSumsUptoRow, standIns := [], harness := (true, "a864543dc2df4474785559c724410c3cb91762e24e4b11b6db79aa7edfb208d2"), looks := false }, kinds := [], alts := [], laidByText := true, laidKinds := [.data], laidTests := true, laidLooks := .later }
def SumsSumsUptoCardSaid : Prop := Claim7.holds Tryd.pinned (.plain (OpenSpec.upto sumsSumsSpec)) sumsSumsUptoCard

/-- THE SECOND FORM's CARD OF 'cartularylaw01.SumsParts'. -/
def sumsPartsUptoCard : Claim7 := { stood := { row := sumsPartsUptoRow, standIns := [], harness := (true, "a864543dc2df4474785559c724410c3cb91762e24e4b11b6db79aa7edfb208d2"), looks := false }, kinds := [], alts := [], laidByText := true, laidKinds := [.data], laidTests := true, laidLooks := .later }
def SumsPartsUptoCardSaid : Prop := Claim7.holds Tryd.pinned (.plain (OpenSpec.upto sumsPartsSpec)) sumsPartsUptoCard

/-- THE SECOND FORM's CARD OF 'cartularylaw01.SumsDigits'. -/
def sumsDigitsUptoCard : Claim7 := { stood := { row := sumsDigitsUptoRow, standIns := [], harness := (true, "a864543dc2df4474785559c724410c3cb91762e24e4b11b6db79aa7edfb208d2"), looks := false }, kinds := [], alts := [], laidByText := true, laidKinds := [.data], laidTests := true, laidLooks := .later }
def SumsDigitsUptoCardSaid : Prop := Claim7.holds Tryd.pinned (.plain (OpenSpec.upto sumsDigitsSpec)) sumsDigitsUptoCard

/-- THE SECOND FORM's CARD OF 'cartularylaw01.SumsNumbers'. -/
def sumsNumbersUptoCard : Claim7 := { stood := { row := sumsNumbersUptoRow, standIns := [], harness := (true, "a864543dc2df4474785559c724410c3cb91762e24e4b11b6db79aa7edfb208d2"), looks := false }, kinds := [], alts := [], laidByText := true, laidKinds := [.data], laidTests := true, laidLooks := .later }
def SumsNumbersUptoCardSaid : Prop := Claim7.holds Tryd.pinned (.plain (OpenSpec.upto sumsNumbersSpec)) sumsNumbersUptoCard

/-- THE SECOND FORM's CARD OF 'cartularylaw01.SumsBack'. -/
def sumsBackUptoCard : Claim7 := { stood := { row := sumsBackUptoRow, standIns := [], harness := (true, "a864543dc2df4474785559c724410c3cb91762e24e4b11b6db79aa7edfb208d2"), looks := false }, kinds := [], alts := [], laidByText := true, laidKinds := [.data], laidTests := true, laidLooks := .later }
def SumsBackUptoCardSaid : Prop := Claim7.holds Tryd.pinned (.plain (OpenSpec.upto sumsBackSpec)) sumsBackUptoCard

/-- THE SECOND FORM's CARD OF 'cartularylaw01.SumsApart'. -/
def sumsApartUptoCard : Claim7 := { stood := { row := sumsApartUptoRow, standIns := [], harness := (true, "a864543dc2df4474785559c724410c3cb91762e24e4b11b6db79aa7edfb208d2"), looks := false }, kinds := [], alts := [], laidByText := true, laidKinds := [.data], laidTests := true, laidLooks := .later }
def SumsApartUptoCardSaid : Prop := Claim7.holds Tryd.pinned (.plain (OpenSpec.upto sumsApartSpec)) sumsApartUptoCard
end Rows
end Go.Proofs.YtbodjopdhciaeaaDoor
