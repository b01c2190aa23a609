/-
  What the rows' condition on the listed table gives the walks; the heap that the door's own run leaves meets it.
-/
import Derived.Test.YtbodjopdhciaeaaDoorWalkD
import Derived.ProofKit
import Derived.LaidMore
import Derived.OpenShut
import Derived.Stop.Joined
import Derived.Lib.LaidTab
namespace Go.Proofs.YtbodjopdhciaeaaDoor
open Go.ChangeShapes Go.WideShapes Go.ChangeAt Go.WideMaps Go.WideElems Go.RowKit

def laidL : List (String × DataW Unit) := [("cartulary/sums.crcOfNibble", Rows.laid_cartulary_sums_crcOfNibble)]
theorem own : ownKnob Tryd.prog.godebug = none := by kernel_rfl
theorem laidOut : laidOutB Tryd.prog = true := by kernel_rfl
theorem gNib : Tryd.prog.globalNamed "cartulary/sums.crcOfNibble" = some 0 := by kernel_rfl
theorem tNib : (Tryd.prog.globals[0]?).map (·.type) = some 48 := by kernel_rfl
theorem cells24 : Tryd.prog.cellsOf 24 = 1 := by kernel_rfl
theorem cells48 : Tryd.prog.cellsOf 48 = 16 := by kernel_rfl

theorem door_met (os : Os) (args : Array Value) : laidMetH Tryd.prog laidL ((World.doorLaid Tryd.prog 400 os).forCall (fun _ _ => 0) ⟨#[], args, []⟩).memory :=
  laidMetH_of_parts3 (fuel := 8) (laidMet_of_run' 8 (by kernel_rfl) (by kernel_rfl)) (by kernel_rfl) (by kernel_rfl)

theorem tab_data : (Rows.laid_cartulary_sums_crcOfNibble : DataW Unit) = Lib.tabData .u32 (tabL.map Int.ofNat) := rfl

theorem of_laid {W : World} (h : laidMetH Tryd.prog laidL W) : Tab W := by
  rw [MakeChecks.laidMetH_plain _ _ _ (by kernel_rfl)] at h
  unfold laidL at h
  rw [tab_data] at h
  have hT := Lib.tabIs_of_head gNib tNib Tryd.underlying48 Tryd.underlying24 cells24 cells48 h
  have hc : ∀ i, i < 16 → W.cell? ⟨0, i, none⟩ = some (.int .u32 (tabN i : Nat)) := by
    intro i hi
    have := hT.cell gNib i (by simpa [tabL] using hi)
    rw [this]
    unfold tabN
    simp
    cases h : tabL[i]? <;> simp
  refine ⟨?_, hc⟩
  have h0 := hc 0 (by decide)
  exact World.block_lt_of_cell? W _ h0

theorem u64_nat {a : Int} (w : (Lit.int .u64 a).wf = true) : ∃ x : Nat, a = (x : Int) ∧ x < M64 := by
  have hb := bounds_u64 w
  exact ⟨a.toNat, by omega, by unfold M64; omega⟩

end Go.Proofs.YtbodjopdhciaeaaDoor
