/-
  The law CalendarDates, walked.
-/
import Derived.Test.YtnibcnafbmcdbaaDoorRunZ
import Derived.Test.YtnibcnafbmcdbaaDoorSecX
namespace Go.Proofs.YtnibcnafbmcdbaaDoor
open Go.RowKit

theorem SeS.two {w V : World} {B : Nat} {y m d h mi s K : Int} (H : SeS w B y m d h mi s K V) : V.cell? ⟨B, 0, none⟩ = some (.int .i64 y) ∧ V.cell? ⟨B, 1, none⟩ = some (.int .i64 m) ∧ Hid (SeS w B y m d h mi s K V) := by
  obtain ⟨c0, c1, _⟩ := cells7 H.box
  exact ⟨c0, c1, H⟩
theorem frz3 {w : World} {b k : Nat} {cs : Array Value} (h : w.heap[b]? = some (.cells cs 3)) : w.frozen? ⟨b, k, none⟩ = false := by
  simp [World.frozen?, h]
theorem drew_row {w : World} {b : Nat} {o : Obj} (h : w.heap[b]? = some o) : w.drew.heap[b]? = some o := h
theorem below_drew {B : Nat} {w w' : World} (h : Below B w w') : Below B w w'.drew := h.trans ⟨rfl, rfl, rfl, Nat.le_refl _, fun _ _ => rfl⟩
theorem set_row {w : World} {g i : Nat} {cur : Array Value} {v : Value} (hg : w.heap[g]? = some (.cells cur 3)) : (w.setCell ⟨g, i, none⟩ v).heap[g]? = some (.cells (cur.setIfInBounds i v) 3) := by
  rw [setCell_eq_setRow w g i cur 3 (0, 0) v hg]
  exact setRow_heap w g cur _ 3 (0, 0) hg
/-- the numbers that the law reads out of the first i digits -/
def vAt (s : ByteArray) : Nat → Nat → Nat
  | 0, _ => 0
  | i + 1, j => if j = i / 2 - 1 then 10 * vAt s i j + ((s.data.toList.getD i 0).toNat - 48) else vAt s i j
theorem v_le {s : ByteArray} (hs : s.size = 14) : ∀ i, i ≤ 14 → (∀ j (hj : j < s.size), j < i → isDig s[j]) → ∀ j, vAt s i j < 10 ^ i := by
  intro i
  induction i with
  | zero => intro _ _ j; exact Nat.one_pos
  | succ i ih =>
    intro hi hd j
    have h1 := ih (by omega) (fun a ha hb => hd a ha (by omega)) j
    have hlt : i < s.size := by omega
    have h2 := hd i hlt (by omega)
    unfold isDig at h2
    rw [Nat.pow_succ]
    unfold vAt
    rw [getD_byte s i hlt]
    split <;> omega
theorem v_end (s : ByteArray) : vAt s 14 0 = two s 0 * 100 + two s 2 ∧ vAt s 14 1 = two s 4 ∧ vAt s 14 2 = two s 6 ∧ vAt s 14 3 = two s 8 ∧ vAt s 14 4 = two s 10 ∧ vAt s 14 5 = two s 12 := by
  refine ⟨?_, ?_, ?_, ?_, ?_, ?_⟩ <;> simp [vAt, two] <;> omega
def vObj (s : ByteArray) (i : Nat) : Obj := .cells #[.int .i64 (vAt s i 0 : Nat), .int .i64 (vAt s i 1 : Nat), .int .i64 (vAt s i 2 : Nat), .int .i64 (vAt s i 3 : Nat), .int .i64 (vAt s i 4 : Nat), .int .i64 (vAt s i 5 : Nat), .int .i64 0] 3
end Go.Proofs.YtnibcnafbmcdbaaDoor
