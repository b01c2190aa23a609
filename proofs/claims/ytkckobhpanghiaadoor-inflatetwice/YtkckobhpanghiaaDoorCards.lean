/-
  DERIVED. GIVEN WITH THE SEED: THE CARDS: each row of YtkckobhpanghiaaDoorRows.lean that lists a variable, with what it lists TIED to the program's text (the seventh form; the later family's looks); each row that meets fmt, with fmt's text TOLD by the authors' own Lean function (tested against real Go, not proved from fmt's source: count such statements apart). THE CARD IS WHAT COUNTS. Prove the row's statement (the work); the ties are given (YtkckobhpanghiaaDoorTie.lean); close each card by the builder's one call (the guide's Derived/Test/ToyasCard.lean, 'card_holds'). Laid BY PROGRAM, IN A SANDBOX (cutbox-door.mjs). By AI agents, Wed Nov 11 2026. No macro, syntax, notation, axiom, sorry.
-/
import Derived.Test.YtkckobhpanghiaaDoorRows
import GoSem.ClaimSeven
namespace Go.Proofs.YtkckobhpanghiaaDoor
namespace Rows

/-- THE TIED CARD OF 'cartularylaw05.InflateReads'. -/
def inflateReadsCard : Claim7 := { stood := { row := inflateReadsRow, standIns := [], harness := (true, "a78747388479ad51cb14a7994d922f06fa1e96761870c7cd62fb6bb22ce087a2"), looks := false }, kinds := [], alts := [], laidByText := true, laidKinds := [.data], laidTests := true, laidLooks := .later }
def InflateReadsCardSaid : Prop := Claim7.holds Tryd.pinned (.plain (OpenSpec.ofChange inflateReadsSpec)) inflateReadsCard

/-- THE TIED CARD OF 'cartularylaw05.InflateWrites'. -/
def inflateWritesCard : Claim7 := { stood := { row := inflateWritesRow, standIns := [], harness := (true, "a78747388479ad51cb14a7994d922f06fa1e96761870c7cd62fb6bb22ce087a2"), looks := false }, kinds := [], alts := [], laidByText := true, laidKinds := [.data], laidTests := true, laidLooks := .later }
def InflateWritesCardSaid : Prop := Claim7.holds Tryd.pinned (.plain (OpenSpec.ofChange inflateWritesSpec)) inflateWritesCard

/-- THE TIED CARD OF 'cartularylaw05.InflateInside'. -/
def inflateInsideCard : Claim7 := { stood := { row := inflateInsideRow, standIns := [], harness := (true, "a78747388479ad51cb14a7994d922f06fa1e96761870c7cd62fb6bb22ce087a2"), looks := false }, kinds := [], alts := [], laidByText := true, laidKinds := [.data], laidTests := true, laidLooks := .later }
def InflateInsideCardSaid : Prop := Claim7.holds Tryd.pinned (.plain (OpenSpec.ofChange inflateInsideSpec)) inflateInsideCard

/-- THE TIED CARD OF 'cartularylaw05.InflateBegins'. -/
def inflateBeginsCard : Claim7 := { stood := { row := inflateBeginsRow, standIns := [], harness := (true, "a78747388479ad51cb14a7994d922f06fa1e96761870c7cd62fb6bb22ce087a2"), looks := false }, kinds := [], alts := [], laidByText := true, laidKinds := [.data], laidTests := true, laidLooks := .later }
def InflateBeginsCardSaid : Prop := Claim7.holds Tryd.pinned (.plain (OpenSpec.ofChange inflateBeginsSpec)) inflateBeginsCard

/-- THE TIED CARD OF 'cartularylaw05.InflateLimits'. -/
def inflateLimitsCard : Claim7 := { stood := { row := inflateLimitsRow, standIns := [], harness := (true, "a78747388479ad51cb14a7994d922f06fa1e96761870c7cd62fb6bb22ce087a2"), looks := false }, kinds := [], alts := [], laidByText := true, laidKinds := [.data], laidTests := true, laidLooks := .later }
def InflateLimitsCardSaid : Prop := Claim7.holds Tryd.pinned (.plain (OpenSpec.ofChange inflateLimitsSpec)) inflateLimitsCard

/-- THE TIED CARD OF 'cartularylaw05.InflateTwice'. -/
def inflateTwiceCard : Claim7 := { stood := { row := inflateTwiceRow, standIns := [], harness := (true, "a78747388479ad51cb14a7994d922f06fa1e96761870c7cd62fb6bb22ce087a2"), looks := false }, kinds := [], alts := [], laidByText := true, laidKinds := [.data], laidTests := true, laidLooks := .later }
def InflateTwiceCardSaid : Prop := Claim7.holds Tryd.pinned (.plain (OpenSpec.ofChange inflateTwiceSpec)) inflateTwiceCard

/-- THE TIED CARD OF 'cartularylaw06.ZlibReads'. -/
def zlibReadsCard : Claim7 := { stood := { row := zlibReadsRow, standIns := [], harness := (true, "a78747388479ad51cb14a7994d922f06fa1e96761870c7cd62fb6bb22ce087a2"), looks := false }, kinds := [], alts := [], laidByText := true, laidKinds := [.data], laidTests := true, laidLooks := .later }
def ZlibReadsCardSaid : Prop := Claim7.holds Tryd.pinned (.plain (OpenSpec.ofChange zlibReadsSpec)) zlibReadsCard

/-- THE TIED CARD OF 'cartularylaw06.ZlibWrites'. -/
def zlibWritesCard : Claim7 := { stood := { row := zlibWritesRow, standIns := [], harness := (true, "a78747388479ad51cb14a7994d922f06fa1e96761870c7cd62fb6bb22ce087a2"), looks := false }, kinds := [], alts := [], laidByText := true, laidKinds := [.data], laidTests := true, laidLooks := .later }
def ZlibWritesCardSaid : Prop := Claim7.holds Tryd.pinned (.plain (OpenSpec.ofChange zlibWritesSpec)) zlibWritesCard

/-- THE TIED CARD OF 'cartularylaw06.ZlibAround'. -/
def zlibAroundCard : Claim7 := { stood := { row := zlibAroundRow, standIns := [], harness := (true, "a78747388479ad51cb14a7994d922f06fa1e96761870c7cd62fb6bb22ce087a2"), looks := false }, kinds := [], alts := [], laidByText := true, laidKinds := [.data], laidTests := true, laidLooks := .later }
def ZlibAroundCardSaid : Prop := Claim7.holds Tryd.pinned (.plain (OpenSpec.ofChange zlibAroundSpec)) zlibAroundCard

/-- THE TIED CARD OF 'cartularylaw06.ZlibHeads'. -/
def zlibHeadsCard : Claim7 := { stood := { row := zlibHeadsRow, standIns := [], harness := (true, "a78747388479ad51cb14a7994d922f06fa1e96761870c7cd62fb6bb22ce087a2"), looks := false }, kinds := [], alts := [], laidByText := true, laidKinds := [.data], laidTests := true, laidLooks := .later }
def ZlibHeadsCardSaid : Prop := Claim7.holds Tryd.pinned (.plain (OpenSpec.ofChange zlibHeadsSpec)) zlibHeadsCard

/-- THE TIED CARD OF 'cartularytop.CartularyFrames'. -/
def cartularyFramesCard : Claim7 := { stood := { row := cartularyFramesRow, standIns := [], harness := (true, "a78747388479ad51cb14a7994d922f06fa1e96761870c7cd62fb6bb22ce087a2"), looks := false }, kinds := [], alts := [], laidByText := true, laidKinds := [.data], laidTests := true, laidLooks := .later }
def CartularyFramesCardSaid : Prop := Claim7.holds Tryd.pinned (.plain (OpenSpec.ofChange cartularyFramesSpec)) cartularyFramesCard

/-- THE SECOND FORM's CARD OF 'cartularylaw05.InflateReads'. -/
def inflateReadsUptoCard : Claim7 := { stood := { row := inflateReadsUptoRow, standIns := [], harness := (true, "a78747388479ad51cb14a7994d922f06fa1e96761870c7cd62fb6bb22ce087a2"), looks := false }, kinds := [], alts := [], laidByText := true, laidKinds := [.data], laidTests := true, laidLooks := .later }
def InflateReadsUptoCardSaid : Prop := Claim7.holds Tryd.pinned (.plain (OpenSpec.upto inflateReadsSpec)) inflateReadsUptoCard

/-- THE SECOND FORM's CARD OF 'cartularylaw05.InflateWrites'. -/
def inflateWritesUptoCard : Claim7 := { stood := { row := inflateWritesUptoRow, standIns := [], harness := (true, "a78747388479ad51cb14a7994d922f06fa1e96761870c7cd62fb6bb22ce087a2"), looks := false }, kinds := [], alts := [], laidByText := true, laidKinds := [.data], laidTests := true, laidLooks := .later }
def InflateWritesUptoCardSaid : Prop := Claim7.holds Tryd.pinned (.plain (OpenSpec.upto inflateWritesSpec)) inflateWritesUptoCard

/-- THE SECOND FORM's CARD OF 'cartularylaw05.InflateInside'. -/
def inflateInsideUptoCard : Claim7 := { stood := { row := inflateInsideUptoRow, standIns := [], harness := (true, "a78747388479ad51cb14a7994d922f06fa1e96761870c7cd62fb6bb22ce087a2"), looks := false }, kinds := [], alts := [], laidByText := true, laidKinds := [.data], laidTests := true, laidLooks := .later }
def InflateInsideUptoCardSaid : Prop := Claim7.holds Tryd.pinned (.plain (OpenSpec.upto inflateInsideSpec)) inflateInsideUptoCard

/-- THE SECOND FORM's CARD OF 'cartularylaw05.InflateBegins'. -/
def inflateBeginsUptoCard : Claim7 := { stood := { row := inflateBeginsUptoRow, standIns := [], harness := (true, "a78747388479ad51cb14a7994d922f06fa1e96761870c7cd62fb6bb22ce087a2"), looks := false }, kinds := [], alts := [], laidByText := true, laidKinds := [.data], laidTests := true, laidLooks := .later }
def InflateBeginsUptoCardSaid : Prop := Claim7.holds Tryd.pinned (.plain (OpenSpec.upto inflateBeginsSpec)) inflateBeginsUptoCard

/-- THE SECOND FORM's CARD OF 'cartularylaw05.InflateLimits'. -/
def inflateLimitsUptoCard : Claim7 := { stood := { row := inflateLimitsUptoRow, standIns := [], harness := (true, "a78747388479ad51cb14a7994d922f06fa1e96761870c7cd62fb6bb22ce087a2"), looks := false }, kinds := [], alts := [], laidByText := true, laidKinds := [.data], laidTests := true, laidLooks := .later }
def InflateLimitsUptoCardSaid : Prop := Claim7.holds Tryd.pinned (.plain (OpenSpec.upto inflateLimitsSpec)) inflateLimitsUptoCard

/-- THE SECOND FORM's CARD OF 'cartularylaw05.InflateTwice'. -/
def inflateTwiceUptoCard : Claim7 := { stood := { row := inflateTwiceUptoRow, standIns := [], harness := (true, "a78747388479ad51cb14a7994d922f06fa1e96761870c7cd62fb6bb22ce087a2"), looks := false }, kinds := [], alts := [], laidByText := true, laidKinds := [.data], laidTests := true, laidLooks := .later }
def InflateTwiceUptoCardSaid : Prop := Claim7.holds Tryd.pinned (.plain (OpenSpec.upto inflateTwiceSpec)) inflateTwiceUptoCard

/-- THE SECOND FORM's CARD OF 'cartularylaw06.ZlibReads'. -/
def zlibReadsUptoCard : Claim7 := { stood := { row := zlibReadsUptoRow, standIns := [], harness := (true, "a78747388479ad51cb14a7994d922f06fa1e96761870c7cd62fb6bb22ce087a2"), looks := false }, kinds := [], alts := [], laidByText := true, laidKinds := [.data], laidTests := true, laidLooks := .later }
def ZlibReadsUptoCardSaid : Prop := Claim7.holds Tryd.pinned (.plain (OpenSpec.upto zlibReadsSpec)) zlibReadsUptoCard

/-- THE SECOND FORM's CARD OF 'cartularylaw06.ZlibWrites'. -/
def zlibWritesUptoCard : Claim7 := { stood := { row := zlibWritesUptoRow, standIns := [], harness := (true, "a78747388479ad51cb14a7994d922f06fa1e96761870c7cd62fb6bb22ce087a2"), looks := false }, kinds := [], alts := [], laidByText := true, laidKinds := [.data], laidTests := true, laidLooks := .later }
def ZlibWritesUptoCardSaid : Prop := Claim7.holds Tryd.pinned (.plain (OpenSpec.upto zlibWritesSpec)) zlibWritesUptoCard

/-- THE SECOND FORM's CARD OF 'cartularylaw06.ZlibAround'. -/
def zlibAroundUptoCard : Claim7 := { stood := { row := zlibAroundUptoRow, standIns := [], harness := (true, "a78747388479ad51cb14a7994d922f06fa1e96761870c7cd62fb6bb22ce087a2"), looks := false }, kinds := [], alts := [], laidByText := true, laidKinds := [.data], laidTests := true, laidLooks := .later }
def ZlibAroundUptoCardSaid : Prop := Claim7.holds Tryd.pinned (.plain (OpenSpec.upto zlibAroundSpec)) zlibAroundUptoCard

/-- THE SECOND FORM's CARD OF 'cartularylaw06.ZlibHeads'. -/
def zlibHeadsUptoCard : Claim7 := { stood := { row := zlibHeadsUptoRow, standIns := [], harness := (true, "a78747388479ad51cb14a7994d922f06fa1e96761870c7cd62fb6bb22ce087a2"), looks := false }, kinds := [], alts := [], laidByText := true, laidKinds := [.data], laidTests := true, laidLooks := .later }
def ZlibHeadsUptoCardSaid : Prop := Claim7.holds Tryd.pinned (.plain (OpenSpec.upto zlibHeadsSpec)) zlibHeadsUptoCard

/-- THE SECOND FORM's CARD OF 'cartularytop.CartularyFrames'. -/
def cartularyFramesUptoCard : Claim7 := { stood := { row := cartularyFramesUptoRow, standIns := [], harness := (true, "a78747388479ad51cb14a7994d922f06fa1e96761870c7cd62fb6bb22ce087a2"), looks := false }, kinds := [], alts := [], laidByText := true, laidKinds := [.data], laidTests := true, laidLooks := .later }
def CartularyFramesUptoCardSaid : Prop := Claim7.holds Tryd.pinned (.plain (OpenSpec.upto cartularyFramesSpec)) cartularyFramesUptoCard
end Rows
end Go.Proofs.YtkckobhpanghiaaDoor
