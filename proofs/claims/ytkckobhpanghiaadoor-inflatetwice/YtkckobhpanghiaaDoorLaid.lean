/-
  What the rows' condition on the listed table gives the walks; the heap that the door's own run leaves meets it.
-/
import Derived.Test.YtkckobhpanghiaaDoorInfL
import Derived.Test.YtkckobhpanghiaaDoorRows
import Derived.ProofKit
import Derived.LaidMore
import Derived.OpenShut
import Derived.Stop.Joined
import Derived.Lib.LaidTab
namespace Go.Proofs.YtkckobhpanghiaaDoor
open Go.ChangeShapes Go.WideShapes Go.ChangeAt Go.WideMaps Go.WideElems Go.RowKit

def laidL : List (String × DataW Unit) := [("cartulary/inflate.firstOrder", Rows.laid_cartulary_inflate_firstOrder)]
theorem own : ownKnob Tryd.prog.godebug = none := by kernel_rfl
theorem gOrder : Tryd.prog.globalNamed "cartulary/inflate.firstOrder" = some 0 := by kernel_rfl
theorem tOrder : (Tryd.prog.globals[0]?).map (·.type) = some 138 := by kernel_rfl
theorem cells3 : Tryd.prog.cellsOf 3 = 1 := by kernel_rfl
theorem cells138 : Tryd.prog.cellsOf 138 = 19 := by kernel_rfl

theorem door_met (os : Os) (args : Array Value) : laidMetH Tryd.prog laidL ((World.doorLaid Tryd.prog 400 os).forCall (fun _ _ => 0) ⟨#[], args, []⟩).memory :=
  laidMetH_of_parts3 (fuel := 8) (laidMet_of_run' 8 (by kernel_rfl) (by kernel_rfl)) (by kernel_rfl) (by kernel_rfl)

theorem tab_data : (Rows.laid_cartulary_inflate_firstOrder : DataW Unit) = Lib.tabData .i64 (placeOf.map Int.ofNat) := rfl

theorem of_laid {W : World} (h : laidMetH Tryd.prog laidL W) : GOk W := by
  rw [MakeChecks.laidMetH_plain _ _ _ (by kernel_rfl)] at h
  unfold laidL at h
  rw [tab_data] at h
  have hT := Lib.tabIs_of_head gOrder tOrder Tryd.underlying138 Tryd.underlying3 cells3 cells138 h
  have hc : ∀ i, i < 19 → W.cell? ⟨0, i, none⟩ = some (.int .i64 (plK i : Int)) := by
    intro i hi
    have := hT.cell gOrder i (by simpa [placeOf] using hi)
    rw [this]
    unfold plK
    rw [List.getD_eq_getElem?_getD, List.getD_eq_getElem?_getD, List.getElem?_map]
    cases h : placeOf[i]? <;> simp
  refine ⟨?_, hc⟩
  have h0 := hc 0 (by decide)
  exact World.block_lt_of_cell? W _ h0
end Go.Proofs.YtkckobhpanghiaaDoor
