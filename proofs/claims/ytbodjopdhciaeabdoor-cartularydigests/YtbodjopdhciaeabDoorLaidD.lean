/-
  CartularyDigests: what the row's condition on the two listed tables gives the walk; the heap that the door's own run leaves meets it.
-/
import Derived.Test.YtbodjopdhciaeabDoorDigW
import Derived.Test.YtbodjopdhciaeabDoorLaid
import Derived.Stop.LaidErr
namespace Go.Proofs.YtbodjopdhciaeabDoor
open Go.ChangeShapes Go.WideShapes Go.ChangeAt Go.WideMaps Go.WideElems Go.RowKit

def laidD : List (String × DataW Unit) := [("cartulary/sums.crcOfNibble", Rows.laid_cartulary_sums_crcOfNibble), ("cartulary/sha.roots256", Rows.laid_cartulary_sha_roots256)]
theorem gNib : Tryd.prog.globalNamed "cartulary/sums.crcOfNibble" = some 0 := by kernel_rfl
theorem tNib : (Tryd.prog.globals[0]?).map (·.type) = some 75 := by kernel_rfl
theorem cells75 : Tryd.prog.cellsOf 75 = 16 := by kernel_rfl
theorem door_metD (os : Os) (args : Array Value) : laidMetH Tryd.prog laidD ((World.doorLaid Tryd.prog 400 os).forCall (fun _ _ => 0) ⟨#[], args, []⟩).memory :=
  laidMetH_of_parts3 (fuel := 8) (laidMet_of_run' 8 (by kernel_rfl) (by kernel_rfl)) (by kernel_rfl) (by kernel_rfl)
theorem tab_dataN : (Rows.laid_cartulary_sums_crcOfNibble : DataW Unit) = Lib.tabData .u32 (tabL.map Int.ofNat) := rfl
theorem of_laidD {W : World} (h : laidMetH Tryd.prog laidD W) : Tab W ∧ Tab2 W := by
  rw [MakeChecks.laidMetH_plain _ _ _ (by kernel_rfl)] at h
  have h2 : laidMet Tryd.prog laidL W := laidMet.tail h
  unfold laidD at h
  rw [tab_dataN] at h
  have hT := Lib.tabIs_of_head gNib tNib Tryd.underlying75 Tryd.underlying30 cells30 cells75 h
  have hc : ∀ i, i < 16 → W.cell? ⟨0, i, none⟩ = some (.int .u32 (tabN i : Nat)) := by
    intro i hi
    have := hT.cell gNib i (by simpa [tabL] using hi)
    rw [this]
    unfold tabN
    simp
    cases h : tabL[i]? <;> simp
  refine ⟨⟨?_, hc⟩, of_laid ?_⟩
  · have h0 := hc 0 (by decide)
    exact World.block_lt_of_cell? W _ h0
  · rw [MakeChecks.laidMetH_plain _ _ _ (by kernel_rfl)]
    exact h2
end Go.Proofs.YtbodjopdhciaeabDoor
