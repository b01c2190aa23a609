/-
  Walks of the document's Unix: what is no date.
  Walks of the document's Unix: a date.
-/
import Derived.Test.YtmhjdahmmdfbcaaGreatDoorJRfB
namespace Go.Proofs.YtmhjdahmmdfbcaaGreatDoor
open Go.RowKit

/-- the row of seven numbers at g, and that nothing elder has turned -/
structure RuS (w : World) (g : Nat) (y m d h mi s : Int) (V : World) : Prop where
  bel : Below w.heap.size w V
  row : V.heap[g]? = some (.cells #[.int .i64 y, .int .i64 m, .int .i64 d, .int .i64 h, .int .i64 mi, .int .i64 s] 3)
theorem RuS.next {w V w' : World} {g : Nat} {y m d h mi s : Int} (H : RuS w g y m d h mi s V) (hb : Below V.heap.size V w') : RuS w g y m d h mi s w' := ⟨H.bel.trans (hb.mono H.bel.size), box_kept H.row hb⟩
theorem RuS.drew {w V : World} {g : Nat} {y m d h mi s : Int} (H : Hid (RuS w g y m d h mi s V)) : Hid (RuS w g y m d h mi s V.drew) := ⟨H.out.bel.trans ⟨rfl, rfl, rfl, Nat.le_refl _, fun _ _ => rfl⟩, H.out.row⟩
theorem RuS.full {w w' : World} {g : Nat} {y m d h mi s : Int} (H : RuS w g y m d h mi s w') : w'.cell? ⟨g, 0, none⟩ = some (.int .i64 y) ∧ w'.cell? ⟨g, 1, none⟩ = some (.int .i64 m) ∧ w'.cell? ⟨g, 2, none⟩ = some (.int .i64 d) ∧ w'.cell? ⟨g, 3, none⟩ = some (.int .i64 h) ∧ w'.cell? ⟨g, 4, none⟩ = some (.int .i64 mi) ∧ w'.cell? ⟨g, 5, none⟩ = some (.int .i64 s) ∧ Hid (RuS w g y m d h mi s w') := by
  refine ⟨?_, ?_, ?_, ?_, ?_, ?_, H⟩ <;> rw [cell_of_row _ _ _ _ 3 (0, 0) H.row] <;> rfl
end Go.Proofs.YtmhjdahmmdfbcaaGreatDoor
namespace Go.Proofs.YtmhjdahmmdfbcaaGreatDoor
open Go.RowKit

end Go.Proofs.YtmhjdahmmdfbcaaGreatDoor
