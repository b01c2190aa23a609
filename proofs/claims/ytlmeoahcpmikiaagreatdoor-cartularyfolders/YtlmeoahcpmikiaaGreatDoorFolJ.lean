/-
  What the row says of the program beside the walk, conjunct by conjunct.
-/
import Derived.Test.YtlmeoahcpmikiaaGreatDoorRows
import Derived.JoinedOf
import Derived.ProofKit
namespace Go.Proofs.YtlmeoahcpmikiaaGreatDoor
open Go.RowKit
theorem and2 {a b : Bool} (h : a = true) (k : b = true) : (a && b) = true := by rw [h, k]; rfl
theorem fj1 : (Rows.cartularyFoldersRow.wf (OpenSpec.ofChange Rows.cartularyFoldersSpec)) = true := by kernel_rfl
theorem fj2 : (laidOutB Tryz.prog) = true := by kernel_rfl
theorem fj3 : (mapsRowed Tryz.prog) = true := by kernel_rfl
theorem fj4 : (Tryz.f3.params.all (Tryz.prog.readableRec ·)) = true := by kernel_rfl
theorem fj5 : (namedTie Tryz.prog Rows.cartularyFoldersRow.named Rows.cartularyFoldersSpec.vars) = true := by kernel_rfl
theorem fj6 : ((Rows.cartularyFoldersRow.stops == [])) = true := by kernel_rfl
theorem fj7 : ((Tryz.prog.stops == [])) = true := by kernel_rfl
theorem fj8 : ((Rows.cartularyFoldersRow.knobs == [])) = true := by kernel_rfl
theorem fj9 : ((Tryz.prog.stopKnobs == [])) = true := by kernel_rfl
theorem fj10 : ((Rows.cartularyFoldersRow.inPlace == Tryz.prog.inPlace 3)) = true := by kernel_rfl
theorem fj11 : ((Rows.cartularyFoldersRow.unfollowed == Tryz.prog.unfollowed 3)) = true := by kernel_rfl
theorem fj12 : ((Rows.cartularyFoldersRow.recurses == Tryz.prog.recurses 3)) = true := by kernel_rfl
theorem fj13 : ((Rows.cartularyFoldersRow.named == Tryz.prog.varsNamed 3)) = true := by kernel_rfl
theorem fj14 : ((Rows.cartularyFoldersRow.maps == (Tryz.f3.params.toList ++ Rows.cartularyFoldersSpec.plain.varTypes Tryz.prog).any (Tryz.prog.mapsRec ·))) = true := by kernel_rfl
theorem fj15 : ((Rows.cartularyFoldersRow.ifaces == (Tryz.f3.params.toList ++ Rows.cartularyFoldersSpec.plain.varTypes Tryz.prog).any (Tryz.prog.ifacesRec ·))) = true := by kernel_rfl
theorem fj16 : ((Rows.cartularyFoldersRow.mapsOut == Tryz.prog.mapsAmong Tryz.f3.resultTypes.toList)) = true := by kernel_rfl
theorem fj17 : ((Rows.cartularyFoldersRow.loops == (Tryz.f3.params.toList ++ Rows.cartularyFoldersSpec.plain.varTypes Tryz.prog).any (Tryz.prog.loopsFrom ·))) = true := by kernel_rfl
theorem fj18 : ((Rows.cartularyFoldersRow.wideKeys == (Tryz.f3.params.toList ++ Rows.cartularyFoldersSpec.plain.varTypes Tryz.prog ++ Tryz.f3.resultTypes.toList).any (Tryz.prog.wideKeysFrom ·))) = true := by kernel_rfl
theorem fj19 : (Rows.cartularyFoldersSpec.vars.all (Tryz.prog.varReadable ·)) = true := by kernel_rfl
theorem fj20 : (Tryz.f3.resultTypes.all (fun t => Tryz.prog.readableRec t && decide (t < Tryz.prog.types.size))) = true := by kernel_rfl
theorem fj21 : ((Rows.cartularyFoldersRow.ifacesOut == Tryz.f3.resultTypes.toList.any (Tryz.prog.ifacesRec ·))) = true := by kernel_rfl
theorem fj22 : ((Rows.cartularyFoldersRow.loopsOut == Tryz.f3.resultTypes.toList.any (Tryz.prog.loopsFrom ·))) = true := by kernel_rfl
theorem fj23 : ((Rows.cartularyFoldersRow.plainKeys == Tryz.prog.plainKeys)) = true := by kernel_rfl
theorem fj24 : (Rows.cartularyFoldersRow.shortTexts.isNone) = true := by kernel_rfl
theorem fj25 : (Tryz.prog.stopsHeard) = true := by kernel_rfl
theorem fj26 : (Tryz.prog.mayEnter) = true := by kernel_rfl
theorem fj27 : ((Rows.cartularyFoldersRow.lifted == Tryz.prog.liftsFinal)) = true := by kernel_rfl
theorem fj28 : ((Tryz.prog.make == some Rows.cartularyFoldersRow.make)) = true := by kernel_rfl
theorem fj29 : ((Rows.cartularyFoldersRow.kinds == (if Rows.cartularyFoldersRow.domain.isEmpty then [] else Tryz.f3.params.toList.map fun t => match Tryz.prog.underlying t with | some (.int k) => some k | _ => none))) = true := by kernel_rfl
theorem fj30 : ((Rows.cartularyFoldersRow.pinned == Rows.cartularyFoldersRow.pinnedBy)) = true := by kernel_rfl
theorem fj31 : ((Rows.cartularyFoldersRow.veiled == (Tryz.f3.params.toList ++ Rows.cartularyFoldersSpec.plain.varTypes Tryz.prog ++ Tryz.f3.resultTypes.toList).any (Tryz.prog.veiledRec ·))) = true := by kernel_rfl
theorem fj32 : (Rows.cartularyFoldersRow.veiledFits Tryz.prog Tryz.f3.params.toList (Tryz.f3.params.toList ++ Rows.cartularyFoldersSpec.plain.varTypes Tryz.prog ++ Tryz.f3.resultTypes.toList)) = true := by kernel_rfl
set_option maxRecDepth 100000 in
theorem fjAll : joinedFacts Tryz.prog 3 Tryz.f3 Rows.cartularyFoldersSpec Rows.cartularyFoldersRow = true := by
  exact and2 (and2 (and2 (and2 (and2 (and2 (and2 (and2 (and2 (and2 (and2 (and2 (and2 (and2 (and2 (and2 (and2 (and2 (and2 (and2 (and2 (and2 (and2 (and2 (and2 (and2 (and2 (and2 (and2 (and2 (and2 (fj1) fj2) fj3) fj4) fj5) fj6) fj7) fj8) fj9) fj10) fj11) fj12) fj13) fj14) fj15) fj16) fj17) fj18) fj19) fj20) fj21) fj22) fj23) fj24) fj25) fj26) fj27) fj28) fj29) fj30) fj31) fj32
end Go.Proofs.YtlmeoahcpmikiaaGreatDoor
