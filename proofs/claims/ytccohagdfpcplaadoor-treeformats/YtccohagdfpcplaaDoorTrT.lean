/-
  Walks of the document's tree: mode.
-/
import Derived.Test.YtccohagdfpcplaaDoorTrS
namespace Go.Proofs.YtccohagdfpcplaaDoor
open Go.RowKit

def modI : Array Value := #[.int .i64 16384, .int .i64 33188, .int .i64 33261, .int .i64 40960, .int .i64 57344]
def modT : List ByteArray := [⟨#[52, 48, 48, 48, 48]⟩, ⟨#[49, 48, 48, 54, 52, 52]⟩, ⟨#[49, 48, 48, 55, 53, 53]⟩, ⟨#[49, 50, 48, 48, 48, 48]⟩, ⟨#[49, 54, 48, 48, 48, 48]⟩]
def modS : Array Value := (modT.map Value.string).toArray
set_option maxHeartbeats 400000 in
set_option maxRecDepth 100000 in
theorem modes_any (w : World) : Calls Tryd.prog 36 #[] w fun e w' => e = .returned (.tuple #[.slice (some ⟨w.heap.size, 0, none⟩) 5 5, .slice (some ⟨w.heap.size + 1, 0, none⟩) 5 5]) ∧ w' = (w.alloc (.cells modI 3)).alloc (.cells modS 9) := by
  go_enter Tryd.func36, Tryd.ntmps36
  go_wp2
  go_ret2
  exact ⟨rfl, rfl⟩
theorem five {k : Nat} (h : k < 5) : k = 0 ∨ k = 1 ∨ k = 2 ∨ k = 3 ∨ k = 4 := by omega
theorem mod_text (k : Nat) (h : k < 5) : modT.getD k ⟨#[]⟩ = ⟨(octZ (modeI k)).toArray⟩ := by
  have key : ∀ j : Nat, j < 5 → (modT.getD j ⟨#[]⟩).data.toList = octZ (modeI j) := by
    intro j hj
    rcases five hj with rfl | rfl | rfl | rfl | rfl
    all_goals
      unfold octZ
      rw [if_neg (by decide)]
      repeat rw [octN_ge (by decide)]
      rw [octN_lt (by decide)]
      decide
  apply bytes_ext
  rw [key k h]
theorem mod_at (k : Nat) (h : k < 5) : modI[k]? = some (.int .i64 (modeI k)) ∧ modS[k]? = some (.string (modT.getD k ⟨#[]⟩)) := by
  rcases five h with rfl | rfl | rfl | rfl | rfl <;> exact ⟨rfl, rfl⟩
theorem mod_mem (m : Int) : m ∈ modesL ↔ ∃ k, k < 5 ∧ modeI k = m := by
  constructor
  · intro h
    simp only [modesL, List.mem_cons, List.not_mem_nil, or_false] at h
    rcases h with rfl | rfl | rfl | rfl | rfl
    · exact ⟨0, by decide, rfl⟩
    · exact ⟨1, by decide, rfl⟩
    · exact ⟨2, by decide, rfl⟩
    · exact ⟨3, by decide, rfl⟩
    · exact ⟨4, by decide, rfl⟩
  · rintro ⟨k, hk, rfl⟩
    rcases five hk with rfl | rfl | rfl | rfl | rfl <;> decide
/-- a mode as it is written; empty: it is none -/
def modeT (m : Int) : ByteArray := if m ∈ modesL then ⟨(octZ m).toArray⟩ else ⟨#[]⟩
set_option maxHeartbeats 1000000 in
set_option maxRecDepth 100000 in
theorem rmode_any (m : Int) (w : World) : Calls Tryd.prog 26 #[.int .i64 m] w fun e w' => e = .returned (.string (modeT m)) ∧ Below w.heap.size w w' := by
  have HM := hidM (modes_any w)
  have HB0 : Hid (Below w.heap.size w ((w.alloc (.cells modI 3)).alloc (.cells modS 9))) := ((Below.refl _ w).alloc (Nat.le_refl _) _).alloc (by simp) _
  have hA : ((w.alloc (.cells modI 3)).alloc (.cells modS 9)).heap[w.heap.size]? = some (.cells modI 3 (0, 0)) := (heap_alloc_old _ _ (by simp)).trans (heap_alloc_new _ _)
  have hS : ((w.alloc (.cells modI 3)).alloc (.cells modS 9)).heap[w.heap.size + 1]? = some (.cells modS 9 (0, 0)) := by
    have := heap_alloc_new (w.alloc (.cells modI 3)) (.cells modS 9)
    rw [show (w.alloc (.cells modI 3)).heap.size = w.heap.size + 1 by simp] at this
    exact this
  have HCA : Hid (∀ k, k < 5 → ((w.alloc (.cells modI 3)).alloc (.cells modS 9)).cell? ⟨w.heap.size, k, none⟩ = some (.int .i64 (modeI k))) := fun k hk => by
    rw [cell_of_row _ _ _ _ 3 (0, 0) hA]; exact (mod_at k hk).1
  have HCS : Hid (∀ k, k < 5 → ((w.alloc (.cells modI 3)).alloc (.cells modS 9)).cell? ⟨w.heap.size + 1, k, none⟩ = some (.string (modT.getD k ⟨#[]⟩))) := fun k hk => by
    rw [cell_of_row _ _ _ _ 9 (0, 0) hS]; exact (mod_at k hk).2
  clear hA hS
  go_enter Tryd.func26, Tryd.ntmps26
  go_wp2_with fail
  refine HM.out.mono ?_
  rintro _ w1 ⟨rfl, hw1⟩
  rw [hw1]
  clear hw1 HM
  generalize (w.alloc (.cells modI 3)).alloc (.cells modS 9) = W at *
  go_wp2
  go_loopw [5, 6, 13] (fun _ _ iv wr => ∃ k : Nat, k ≤ 5 ∧ iv = .int .i64 (k : Int) ∧ (∀ j, j < k → modeI j ≠ m) ∧ W = wr) (fun _ _ iv _ => 5 - (intOf iv).toNat)
  case atStart => exact ⟨0, by decide, rfl, fun j hj => by omega, rfl⟩
  case round =>
    obtain ⟨k, hk, rfl, hno, hwr⟩ := hrel
    subst hwr
    have HNO := hidM hno
    clear hno
    by_cases hlt : k < 5
    · have gk : (k : Int) < 5 := by omega
      have ca := HCA.out k hlt
      have cs := HCS.out k hlt
      by_cases he : modeI k = m
      · have b1 : (modeI k == m) = true := by rw [he]; simp
        have HR : Hid (modeT m = modT.getD k ⟨#[]⟩) := by
          unfold Hid modeT
          rw [if_pos ((mod_mem m).2 ⟨k, hlt, he⟩), mod_text k hlt, he]
        generalize modT.getD k ⟨#[]⟩ = tx at *
        generalize modeI k = mk at *
        clear he HNO
        go_wp2
        go_ret
        exact ⟨by rw [HR.out]; rfl, HB0.out⟩
      · have b1 : (modeI k == m) = false := by simp; exact he
        have HNX : Hid (∀ j, j < k + 1 → modeI j ≠ m) := by
          intro j hj
          by_cases e : j = k
          · subst e; exact he
          · exact HNO.out j (by omega)
        generalize modT.getD k ⟨#[]⟩ = tx at *
        generalize modeI k = mk at *
        clear he HNO
        go_wp2
        go_roundw
        case rel => exact ⟨k + 1, by omega, by go_num, HNX.out, by first | rfl | trivial⟩
        case measure => simp [intOf]; omega
    · have gk : ¬ (k : Int) < 5 := by omega
      have HR : Hid (modeT m = ⟨#[]⟩) := by
        unfold Hid modeT
        rw [if_neg]
        intro hm
        obtain ⟨j, hj, e⟩ := (mod_mem m).1 hm
        exact HNO.out j (by omega) e
      go_wp2
      go_ret
      exact ⟨by rw [HR.out]; rfl, HB0.out⟩
theorem mode_empty (m : Int) : (modeT m).toList.isEmpty = !decide (m ∈ modesL) := by
  unfold modeT
  by_cases h : m ∈ modesL
  · rw [if_pos h, decide_eq_true h]
    obtain ⟨k, hk, rfl⟩ := (mod_mem m).1 h
    rw [← mod_text k hk]
    rcases five hk with rfl | rfl | rfl | rfl | rfl <;> decide +kernel
  · rw [if_neg h, decide_eq_false h]; decide +kernel
end Go.Proofs.YtccohagdfpcplaaDoor
