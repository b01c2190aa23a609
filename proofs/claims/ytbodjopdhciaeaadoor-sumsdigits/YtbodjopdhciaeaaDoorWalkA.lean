/-
  The walks of the leaf functions of this seat: numbers as bytes (FromBig, FromLittle, Big, Little, and the document's Number, Little, Turn, Big), Few.
-/
import Derived.Test.YtbodjopdhciaeaaDoorRows
import Derived.Test.YtbodjopdhciaeaaDoorMath
import Derived.WalkKit
import Derived.WalkSpells
import Derived.WalkLawsBesides
import Derived.Laws.IdiomStrings
namespace Go.Proofs.YtbodjopdhciaeaaDoor
open Go.RowKit

theorem ret_int {k : IntKind} {a b : Int} (h : a = b) : Ending.returned (.int k a) = .returned (.int k b) := by rw [h]
theorem val_int {k : IntKind} {a b : Int} (h : a = b) : Value.int k a = .int k b := by rw [h]

theorem Tryd.info5 : (Tryd.prog.info? 5).map (fun i => (i.zero, i.size, i.bytes)) = some (some (.int .u8 0), 1, 1) := by kernel_rfl

set_option maxHeartbeats 400000 in
theorem fromBig_any (s : ByteArray) (w : World) (hs : s.size ≤ maxLen) :
    Calls Tryd.prog 31 #[.string s] w fun e w' => e = .returned (.int .u64 (numB s.data.toList)) ∧ w' = w := by
  unfold maxLen at hs
  go_enter Tryd.func31, Tryd.ntmps31
  go_wp2
  go_loop [3, 4] (fun x i => ∃ k : Nat, k ≤ s.size ∧ i = .int .i64 k ∧ x = .int .u64 (numB (s.data.toList.take k))) (fun _ i => s.size - (intOf i).toNat)
  case atStart => exact ⟨0, Nat.zero_le _, rfl, rfl⟩
  case round =>
    obtain ⟨k, hk, rfl, rfl⟩ := hrel
    by_cases hlt : k < s.size
    · have HS : Hid (numB (s.data.toList.take (k + 1)) = (numB (s.data.toList.take k) * 256 + s[k].toNat) % M64) := numB_take s k hlt
      generalize numB (s.data.toList.take k) = y at *
      go_wp2
      go_round
      case rel => exact ⟨k + 1, by omega, by go_num, by rw [HS.out]; exact val_int (or_step y s[k])⟩
      case measure => simp [intOf]; omega
    · have HE : Hid (s.data.toList.take k = s.data.toList) := List.take_of_length_le (by simp; omega)
      generalize s.data.toList.take k = l at *
      go_wp2
      go_ret
      exact ⟨ret_int (by rw [HE.out]), rfl⟩

set_option maxHeartbeats 400000 in
theorem number_any (s : ByteArray) (w : World) (hs : s.size ≤ maxLen) :
    Calls Tryd.prog 32 #[.string s] w fun e w' => e = .returned (.int .u64 (numB s.data.toList)) ∧ w' = w := by
  unfold maxLen at hs
  go_enter Tryd.func32, Tryd.ntmps32
  go_wp2
  go_loop [3, 4] (fun x i => ∃ k : Nat, k ≤ s.size ∧ i = .int .i64 k ∧ x = .int .u64 (numB (s.data.toList.take k))) (fun _ i => s.size - (intOf i).toNat)
  case atStart => exact ⟨0, Nat.zero_le _, rfl, rfl⟩
  case round =>
    obtain ⟨k, hk, rfl, rfl⟩ := hrel
    by_cases hlt : k < s.size
    · have HS : Hid (numB (s.data.toList.take (k + 1)) = (numB (s.data.toList.take k) * 256 + s[k].toNat) % M64) := numB_take s k hlt
      generalize numB (s.data.toList.take k) = y at *
      go_wp2
      go_round
      case rel => exact ⟨k + 1, by omega, by go_num, by rw [HS.out]; exact val_int (add_step y s[k])⟩
      case measure => simp [intOf]; omega
    · have HE : Hid (s.data.toList.take k = s.data.toList) := List.take_of_length_le (by simp; omega)
      generalize s.data.toList.take k = l at *
      go_wp2
      go_ret
      exact ⟨ret_int (by rw [HE.out]), rfl⟩

theorem rev_step (s : ByteArray) (m k : Nat) (hk : k < m) (hm : m ≤ s.size) (h : k < s.size) :
    ((s.data.toList.take m).drop k).reverse = ((s.data.toList.take m).drop (k + 1)).reverse ++ [s[k]] := by
  rw [List.drop_eq_getElem_cons (i := k) (by simp; omega), List.reverse_cons]
  congr 1
  simp; rfl

set_option maxHeartbeats 400000 in
theorem fromLittle_any (s : ByteArray) (w : World) (hs : s.size ≤ maxLen) :
    Calls Tryd.prog 33 #[.string s] w fun e w' => e = .returned (.int .u64 (numB (s.data.toList.take 8).reverse)) ∧ w' = w := by
  unfold maxLen at hs
  have hmm : ∃ m : Nat, ((s.size > 8 ∧ m = 8) ∨ (s.size ≤ 8 ∧ m = s.size)) ∧ s.data.toList.take 8 = s.data.toList.take m := by
    by_cases h : s.size > 8
    · exact ⟨8, .inl ⟨h, rfl⟩, rfl⟩
    · exact ⟨s.size, .inr ⟨by omega, rfl⟩, by rw [List.take_of_length_le (by simp; omega), List.take_of_length_le (by simp)]⟩
  obtain ⟨m, hm, hm8⟩ := hmm
  rw [hm8]
  clear hm8
  have hms : m ≤ s.size := by omega
  have hm9 : m ≤ 8 := by omega
  have HM : Hid ((s.size > 8 ∧ m = 8) ∨ (s.size ≤ 8 ∧ m = s.size)) := hm
  clear hm
  go_enter Tryd.func33, Tryd.ntmps33
  go_wp2
  all_goals
    go_loop [3, 4] (fun x i => ∃ k : Nat, k ≤ m ∧ i = .int .i64 ((k : Int) - 1) ∧ x = .int .u64 (numB ((s.data.toList.take m).drop k).reverse)) (fun _ i => (intOf i + 1).toNat)
    case atStart => exact ⟨m, Nat.le_refl _, val_int (by have := HM.out; omega), val_int (by rw [List.drop_of_length_le (by simp; omega)]; rfl)⟩
    case round =>
      obtain ⟨k, hk, rfl, rfl⟩ := hrel
      rcases k with _ | k
      · go_wp2
        go_ret
        exact ⟨ret_int rfl, rfl⟩
      · have hks : k < s.size := by omega
        have HS : Hid (numB ((s.data.toList.take m).drop k).reverse = (numB ((s.data.toList.take m).drop (k + 1)).reverse * 256 + s[k].toNat) % M64) := by
          have := rev_step s m k (by omega) hms hks
          unfold Hid
          rw [this, numB_snoc]
        generalize numB ((s.data.toList.take m).drop (k + 1)).reverse = y at *
        have e1 : ((k + 1 : Nat) : Int) - 1 = (k : Int) := by omega
        simp only [e1]
        clear e1
        go_wp2
        go_round
        case rel => exact ⟨k, by omega, by go_num, by rw [HS.out]; exact val_int (or_step y s[k])⟩
        case measure => simp [intOf]

set_option maxHeartbeats 400000 in
theorem few_any (s : ByteArray) (n : Nat) (w : World) :
    Calls Tryd.prog 9 #[.string s, .int .i64 n] w fun e w' => (∃ t : ByteArray, e = .returned (.string t) ∧ t.size ≤ n ∧ t.size ≤ s.size) ∧ w' = w := by
  go_enter Tryd.func9, Tryd.ntmps9
  go_wp2
  all_goals go_ret
  · rename_i h
    exact ⟨⟨_, rfl, by simp; omega, by simp; omega⟩, rfl⟩
  · rename_i h
    exact ⟨⟨s, rfl, by omega, Nat.le_refl _⟩, rfl⟩

end Go.Proofs.YtbodjopdhciaeaaDoor
