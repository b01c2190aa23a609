/-
  sums.FromLittle in this seat.
-/
import Derived.Test.YtkckobhpanghiaaDoorBitZ
import Derived.WalkSpells
import Derived.WalkLawsBesides
import Derived.Laws.IdiomStrings
namespace Go.Proofs.YtkckobhpanghiaaDoor
open Go.RowKit

def M64 : Nat := 18446744073709551616

def numB (l : List UInt8) : Nat := l.foldl (fun x c => (x * 256 + c.toNat) % M64) 0

theorem numB_snoc (l : List UInt8) (c : UInt8) : numB (l ++ [c]) = (numB l * 256 + c.toNat) % M64 := by
  simp [numB, List.foldl_append]

theorem or_step (y : Nat) (c : UInt8) : bits .or .u64 (IntKind.u64.wrap ((y : Int) * 256)) (IntKind.u64.wrap (c.toNat : Int)) = (((y * 256 + c.toNat) % M64 : Nat) : Int) := by
  have hc := byte_lt c
  rw [u64_wrap, u64_wrap]
  have e1 : ((y : Int) * 256) % 18446744073709551616 = ((y * 256 % 18446744073709551616 : Nat) : Int) := by omega
  have e2 : (c.toNat : Int) % 18446744073709551616 = (c.toNat : Int) := by omega
  rw [e1, e2, u64_or_nat _ _ (by omega) (by omega), nat_join 8 _ _ (by omega) (by omega)]
  unfold M64
  omega

theorem rev_step (s : ByteArray) (m k : Nat) (hk : k < m) (hm : m ≤ s.size) (h : k < s.size) :
    ((s.data.toList.take m).drop k).reverse = ((s.data.toList.take m).drop (k + 1)).reverse ++ [s[k]] := by
  rw [List.drop_eq_getElem_cons (i := k) (by simp; omega), List.reverse_cons]
  congr 1
  simp; rfl

set_option maxHeartbeats 400000 in
theorem fromLittle_any (s : ByteArray) (w : World) (hs : s.size ≤ maxLen) :
    Calls Tryd.prog 76 #[.string s] w fun e w' => e = .returned (.int .u64 (numB (s.data.toList.take 8).reverse)) ∧ w' = w := by
  unfold maxLen at hs
  have hmm : ∃ m : Nat, ((s.size > 8 ∧ m = 8) ∨ (s.size ≤ 8 ∧ m = s.size)) ∧ s.data.toList.take 8 = s.data.toList.take m := by
    by_cases h : s.size > 8
    · exact ⟨8, .inl ⟨h, rfl⟩, rfl⟩
    · exact ⟨s.size, .inr ⟨by omega, rfl⟩, by rw [List.take_of_length_le (by simp; omega), List.take_of_length_le (by simp)]⟩
  obtain ⟨m, hm, hm8⟩ := hmm
  rw [hm8]
  clear hm8
  have hms : m ≤ s.size := by omega
  have hm9 : m ≤ 8 := by omega
  have HM : Hid ((s.size > 8 ∧ m = 8) ∨ (s.size ≤ 8 ∧ m = s.size)) := hm
  clear hm
  go_enter Tryd.func76, Tryd.ntmps76
  go_wp2
  all_goals
    go_loop [3, 4] (fun x i => ∃ k : Nat, k ≤ m ∧ i = .int .i64 ((k : Int) - 1) ∧ x = .int .u64 (numB ((s.data.toList.take m).drop k).reverse)) (fun _ i => (intOf i + 1).toNat)
    case atStart => exact ⟨m, Nat.le_refl _, val_int (by have := HM.out; omega), val_int (by rw [List.drop_of_length_le (by simp; omega)]; rfl)⟩
    case round =>
      obtain ⟨k, hk, rfl, rfl⟩ := hrel
      rcases k with _ | k
      · go_wp2
        go_ret
        exact ⟨ret_int rfl, rfl⟩
      · have hks : k < s.size := by omega
        have HS : Hid (numB ((s.data.toList.take m).drop k).reverse = (numB ((s.data.toList.take m).drop (k + 1)).reverse * 256 + s[k].toNat) % M64) := by
          have := rev_step s m k (by omega) hms hks
          unfold Hid
          rw [this, numB_snoc]
        generalize numB ((s.data.toList.take m).drop (k + 1)).reverse = y at *
        have e1 : ((k + 1 : Nat) : Int) - 1 = (k : Int) := by omega
        simp only [e1]
        clear e1
        go_wp2
        go_round
        case rel => exact ⟨k, by omega, by go_num, by rw [HS.out]; exact val_int (or_step y s[k])⟩
        case measure => simp [intOf]

/-- of two bytes -/
theorem numB_two (a b : UInt8) : numB [a, b].reverse = a.toNat + 256 * b.toNat := by
  have h1 := a.toNat_lt
  have h2 := b.toNat_lt
  simp only [List.reverse_cons, List.reverse_nil, List.nil_append, List.cons_append, numB, List.foldl_cons, List.foldl_nil, M64]
  omega
end Go.Proofs.YtkckobhpanghiaaDoor
