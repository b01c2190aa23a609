/-
  Paths of modules: bytes, bounded, each, firstPart.
-/
import Derived.Test.YtgkjmmfpbcgmgaaDoorLexA
import Derived.Test.YtgkjmmfpbcgmgaaDoorPthM
namespace Go.Proofs.YtgkjmmfpbcgmgaaDoor
open Go.RowKit

theorem fstB_of (c : UInt8) : fstB c = ((decide (97 ≤ c.toNat) && decide (c.toNat ≤ 122)) || (decide (48 ≤ c.toNat) && decide (c.toNat ≤ 57)) || c.toNat == 45 || c.toNat == 46) := rfl
set_option maxHeartbeats 1000000 in
set_option maxRecDepth 100000 in
theorem firstByte_any (c : UInt8) (w : World) : Calls Tryd.prog 44 #[.int .u8 (c.toNat : Int)] w fun e w' => e = .returned (.bool (fstB c)) ∧ w' = w := by
  rw [fstB_of]
  have hn := c.toNat_lt
  generalize c.toNat = n at *
  rcases (show (0 ≤ n ∧ n ≤ 44) ∨ (45 ≤ n ∧ n ≤ 45) ∨ (46 ≤ n ∧ n ≤ 46) ∨ (47 ≤ n ∧ n ≤ 47) ∨ (48 ≤ n ∧ n ≤ 57) ∨ (58 ≤ n ∧ n ≤ 96) ∨ (97 ≤ n ∧ n ≤ 122) ∨ (123 ≤ n ∧ n ≤ 255) by omega) with h | h | h | h | h | h | h | h
  · obtain ⟨h1, h2⟩ := h
    have b0 : decide ((97 : Int) ≤ (n : Int)) = false := by simp; omega
    have b1 : decide ((n : Int) ≤ 122) = true := by simp; omega
    have b2 : decide ((48 : Int) ≤ (n : Int)) = false := by simp; omega
    have b3 : decide ((n : Int) ≤ 57) = true := by simp; omega
    have q0 : ((n : Int) == 45) = false := by simp; omega
    have q1 : ((n : Int) == 46) = false := by simp; omega
    have HR : Hid (((decide (97 ≤ n) && decide (n ≤ 122)) || (decide (48 ≤ n) && decide (n ≤ 57)) || n == 45 || n == 46) = false) := by
      unfold Hid; rw [Bool.eq_iff_iff]; simp; omega
    clear h1 h2 hn
    go_enter Tryd.func44, Tryd.ntmps44
    go_wp2
    go_ret
    exact ⟨by rw [HR.out]; rfl, rfl⟩
  · obtain ⟨h1, h2⟩ := h
    have b0 : decide ((97 : Int) ≤ (n : Int)) = false := by simp; omega
    have b1 : decide ((n : Int) ≤ 122) = true := by simp; omega
    have b2 : decide ((48 : Int) ≤ (n : Int)) = false := by simp; omega
    have b3 : decide ((n : Int) ≤ 57) = true := by simp; omega
    have q0 : ((n : Int) == 45) = true := by simp; omega
    have q1 : ((n : Int) == 46) = false := by simp; omega
    have HR : Hid (((decide (97 ≤ n) && decide (n ≤ 122)) || (decide (48 ≤ n) && decide (n ≤ 57)) || n == 45 || n == 46) = true) := by
      unfold Hid; rw [Bool.eq_iff_iff]; simp; omega
    clear h1 h2 hn
    go_enter Tryd.func44, Tryd.ntmps44
    go_wp2
    go_ret
    exact ⟨by rw [HR.out]; rfl, rfl⟩
  · obtain ⟨h1, h2⟩ := h
    have b0 : decide ((97 : Int) ≤ (n : Int)) = false := by simp; omega
    have b1 : decide ((n : Int) ≤ 122) = true := by simp; omega
    have b2 : decide ((48 : Int) ≤ (n : Int)) = false := by simp; omega
    have b3 : decide ((n : Int) ≤ 57) = true := by simp; omega
    have q0 : ((n : Int) == 45) = false := by simp; omega
    have q1 : ((n : Int) == 46) = true := by simp; omega
    have HR : Hid (((decide (97 ≤ n) && decide (n ≤ 122)) || (decide (48 ≤ n) && decide (n ≤ 57)) || n == 45 || n == 46) = true) := by
      unfold Hid; rw [Bool.eq_iff_iff]; simp; omega
    clear h1 h2 hn
    go_enter Tryd.func44, Tryd.ntmps44
    go_wp2
    go_ret
    exact ⟨by rw [HR.out]; rfl, rfl⟩
  · obtain ⟨h1, h2⟩ := h
    have b0 : decide ((97 : Int) ≤ (n : Int)) = false := by simp; omega
    have b1 : decide ((n : Int) ≤ 122) = true := by simp; omega
    have b2 : decide ((48 : Int) ≤ (n : Int)) = false := by simp; omega
    have b3 : decide ((n : Int) ≤ 57) = true := by simp; omega
    have q0 : ((n : Int) == 45) = false := by simp; omega
    have q1 : ((n : Int) == 46) = false := by simp; omega
    have HR : Hid (((decide (97 ≤ n) && decide (n ≤ 122)) || (decide (48 ≤ n) && decide (n ≤ 57)) || n == 45 || n == 46) = false) := by
      unfold Hid; rw [Bool.eq_iff_iff]; simp; omega
    clear h1 h2 hn
    go_enter Tryd.func44, Tryd.ntmps44
    go_wp2
    go_ret
    exact ⟨by rw [HR.out]; rfl, rfl⟩
  · obtain ⟨h1, h2⟩ := h
    have b0 : decide ((97 : Int) ≤ (n : Int)) = false := by simp; omega
    have b1 : decide ((n : Int) ≤ 122) = true := by simp; omega
    have b2 : decide ((48 : Int) ≤ (n : Int)) = true := by simp; omega
    have b3 : decide ((n : Int) ≤ 57) = true := by simp; omega
    have q0 : ((n : Int) == 45) = false := by simp; omega
    have q1 : ((n : Int) == 46) = false := by simp; omega
    have HR : Hid (((decide (97 ≤ n) && decide (n ≤ 122)) || (decide (48 ≤ n) && decide (n ≤ 57)) || n == 45 || n == 46) = true) := by
      unfold Hid; rw [Bool.eq_iff_iff]; simp; omega
    clear h1 h2 hn
    go_enter Tryd.func44, Tryd.ntmps44
    go_wp2
    go_ret
    exact ⟨by rw [HR.out]; rfl, rfl⟩
  · obtain ⟨h1, h2⟩ := h
    have b0 : decide ((97 : Int) ≤ (n : Int)) = false := by simp; omega
    have b1 : decide ((n : Int) ≤ 122) = true := by simp; omega
    have b2 : decide ((48 : Int) ≤ (n : Int)) = true := by simp; omega
    have b3 : decide ((n : Int) ≤ 57) = false := by simp; omega
    have q0 : ((n : Int) == 45) = false := by simp; omega
    have q1 : ((n : Int) == 46) = false := by simp; omega
    have HR : Hid (((decide (97 ≤ n) && decide (n ≤ 122)) || (decide (48 ≤ n) && decide (n ≤ 57)) || n == 45 || n == 46) = false) := by
      unfold Hid; rw [Bool.eq_iff_iff]; simp; omega
    clear h1 h2 hn
    go_enter Tryd.func44, Tryd.ntmps44
    go_wp2
    go_ret
    exact ⟨by rw [HR.out]; rfl, rfl⟩
  · obtain ⟨h1, h2⟩ := h
    have b0 : decide ((97 : Int) ≤ (n : Int)) = true := by simp; omega
    have b1 : decide ((n : Int) ≤ 122) = true := by simp; omega
    have b2 : decide ((48 : Int) ≤ (n : Int)) = true := by simp; omega
    have b3 : decide ((n : Int) ≤ 57) = false := by simp; omega
    have q0 : ((n : Int) == 45) = false := by simp; omega
    have q1 : ((n : Int) == 46) = false := by simp; omega
    have HR : Hid (((decide (97 ≤ n) && decide (n ≤ 122)) || (decide (48 ≤ n) && decide (n ≤ 57)) || n == 45 || n == 46) = true) := by
      unfold Hid; rw [Bool.eq_iff_iff]; simp; omega
    clear h1 h2 hn
    go_enter Tryd.func44, Tryd.ntmps44
    go_wp2
    go_ret
    exact ⟨by rw [HR.out]; rfl, rfl⟩
  · obtain ⟨h1, h2⟩ := h
    have b0 : decide ((97 : Int) ≤ (n : Int)) = true := by simp; omega
    have b1 : decide ((n : Int) ≤ 122) = false := by simp; omega
    have b2 : decide ((48 : Int) ≤ (n : Int)) = true := by simp; omega
    have b3 : decide ((n : Int) ≤ 57) = false := by simp; omega
    have q0 : ((n : Int) == 45) = false := by simp; omega
    have q1 : ((n : Int) == 46) = false := by simp; omega
    have HR : Hid (((decide (97 ≤ n) && decide (n ≤ 122)) || (decide (48 ≤ n) && decide (n ≤ 57)) || n == 45 || n == 46) = false) := by
      unfold Hid; rw [Bool.eq_iff_iff]; simp; omega
    clear h1 h2 hn
    go_enter Tryd.func44, Tryd.ntmps44
    go_wp2
    go_ret
    exact ⟨by rw [HR.out]; rfl, rfl⟩
theorem plnB_of (c : UInt8) : plnB c = (fstB c || (decide (65 ≤ c.toNat) && decide (c.toNat ≤ 90)) || c.toNat == 95 || c.toNat == 126) := rfl
set_option maxHeartbeats 1000000 in
set_option maxRecDepth 100000 in
theorem plainByte_any (c : UInt8) (w : World) : Calls Tryd.prog 31 #[.int .u8 (c.toNat : Int)] w fun e w' => e = .returned (.bool (plnB c)) ∧ w' = w := by
  rw [plnB_of]
  have hn := c.toNat_lt
  have HF := hidM (firstByte_any c w)
  generalize fstB c = B at *
  generalize c.toNat = n at *
  cases B with
  | true =>
    go_enter Tryd.func31, Tryd.ntmps31
    go_wp2_with (go_at_call 44; with_reducible refine HF.out.mono ?_; rintro _ _ ⟨rfl, rfl⟩)
    go_ret
    exact ⟨rfl, rfl⟩
  | false =>
    rcases (show (0 ≤ n ∧ n ≤ 64) ∨ (65 ≤ n ∧ n ≤ 90) ∨ (91 ≤ n ∧ n ≤ 94) ∨ (95 ≤ n ∧ n ≤ 95) ∨ (96 ≤ n ∧ n ≤ 125) ∨ (126 ≤ n ∧ n ≤ 126) ∨ (127 ≤ n ∧ n ≤ 255) by omega) with h | h | h | h | h | h | h
    · obtain ⟨h1, h2⟩ := h
      have b0 : decide ((65 : Int) ≤ (n : Int)) = false := by simp; omega
      have b1 : decide ((n : Int) ≤ 90) = true := by simp; omega
      have q0 : ((n : Int) == 95) = false := by simp; omega
      have q1 : ((n : Int) == 126) = false := by simp; omega
      have HR : Hid ((false || (decide (65 ≤ n) && decide (n ≤ 90)) || n == 95 || n == 126) = false) := by
        unfold Hid; rw [Bool.eq_iff_iff]; simp; omega
      clear h1 h2 hn
      go_enter Tryd.func31, Tryd.ntmps31
      go_wp2_with (go_at_call 44; with_reducible refine HF.out.mono ?_; rintro _ _ ⟨rfl, rfl⟩)
      go_ret
      exact ⟨by rw [HR.out]; rfl, rfl⟩
    · obtain ⟨h1, h2⟩ := h
      have b0 : decide ((65 : Int) ≤ (n : Int)) = true := by simp; omega
      have b1 : decide ((n : Int) ≤ 90) = true := by simp; omega
      have q0 : ((n : Int) == 95) = false := by simp; omega
      have q1 : ((n : Int) == 126) = false := by simp; omega
      have HR : Hid ((false || (decide (65 ≤ n) && decide (n ≤ 90)) || n == 95 || n == 126) = true) := by
        unfold Hid; rw [Bool.eq_iff_iff]; simp; omega
      clear h1 h2 hn
      go_enter Tryd.func31, Tryd.ntmps31
      go_wp2_with (go_at_call 44; with_reducible refine HF.out.mono ?_; rintro _ _ ⟨rfl, rfl⟩)
      go_ret
      exact ⟨by rw [HR.out]; rfl, rfl⟩
    · obtain ⟨h1, h2⟩ := h
      have b0 : decide ((65 : Int) ≤ (n : Int)) = true := by simp; omega
      have b1 : decide ((n : Int) ≤ 90) = false := by simp; omega
      have q0 : ((n : Int) == 95) = false := by simp; omega
      have q1 : ((n : Int) == 126) = false := by simp; omega
      have HR : Hid ((false || (decide (65 ≤ n) && decide (n ≤ 90)) || n == 95 || n == 126) = false) := by
        unfold Hid; rw [Bool.eq_iff_iff]; simp; omega
      clear h1 h2 hn
      go_enter Tryd.func31, Tryd.ntmps31
      go_wp2_with (go_at_call 44; with_reducible refine HF.out.mono ?_; rintro _ _ ⟨rfl, rfl⟩)
      go_ret
      exact ⟨by rw [HR.out]; rfl, rfl⟩
    · obtain ⟨h1, h2⟩ := h
      have b0 : decide ((65 : Int) ≤ (n : Int)) = true := by simp; omega
      have b1 : decide ((n : Int) ≤ 90) = false := by simp; omega
      have q0 : ((n : Int) == 95) = true := by simp; omega
      have q1 : ((n : Int) == 126) = false := by simp; omega
      have HR : Hid ((false || (decide (65 ≤ n) && decide (n ≤ 90)) || n == 95 || n == 126) = true) := by
        unfold Hid; rw [Bool.eq_iff_iff]; simp; omega
      clear h1 h2 hn
      go_enter Tryd.func31, Tryd.ntmps31
      go_wp2_with (go_at_call 44; with_reducible refine HF.out.mono ?_; rintro _ _ ⟨rfl, rfl⟩)
      go_ret
      exact ⟨by rw [HR.out]; rfl, rfl⟩
    · obtain ⟨h1, h2⟩ := h
      have b0 : decide ((65 : Int) ≤ (n : Int)) = true := by simp; omega
      have b1 : decide ((n : Int) ≤ 90) = false := by simp; omega
      have q0 : ((n : Int) == 95) = false := by simp; omega
      have q1 : ((n : Int) == 126) = false := by simp; omega
      have HR : Hid ((false || (decide (65 ≤ n) && decide (n ≤ 90)) || n == 95 || n == 126) = false) := by
        unfold Hid; rw [Bool.eq_iff_iff]; simp; omega
      clear h1 h2 hn
      go_enter Tryd.func31, Tryd.ntmps31
      go_wp2_with (go_at_call 44; with_reducible refine HF.out.mono ?_; rintro _ _ ⟨rfl, rfl⟩)
      go_ret
      exact ⟨by rw [HR.out]; rfl, rfl⟩
    · obtain ⟨h1, h2⟩ := h
      have b0 : decide ((65 : Int) ≤ (n : Int)) = true := by simp; omega
      have b1 : decide ((n : Int) ≤ 90) = false := by simp; omega
      have q0 : ((n : Int) == 95) = false := by simp; omega
      have q1 : ((n : Int) == 126) = true := by simp; omega
      have HR : Hid ((false || (decide (65 ≤ n) && decide (n ≤ 90)) || n == 95 || n == 126) = true) := by
        unfold Hid; rw [Bool.eq_iff_iff]; simp; omega
      clear h1 h2 hn
      go_enter Tryd.func31, Tryd.ntmps31
      go_wp2_with (go_at_call 44; with_reducible refine HF.out.mono ?_; rintro _ _ ⟨rfl, rfl⟩)
      go_ret
      exact ⟨by rw [HR.out]; rfl, rfl⟩
    · obtain ⟨h1, h2⟩ := h
      have b0 : decide ((65 : Int) ≤ (n : Int)) = true := by simp; omega
      have b1 : decide ((n : Int) ≤ 90) = false := by simp; omega
      have q0 : ((n : Int) == 95) = false := by simp; omega
      have q1 : ((n : Int) == 126) = false := by simp; omega
      have HR : Hid ((false || (decide (65 ≤ n) && decide (n ≤ 90)) || n == 95 || n == 126) = false) := by
        unfold Hid; rw [Bool.eq_iff_iff]; simp; omega
      clear h1 h2 hn
      go_enter Tryd.func31, Tryd.ntmps31
      go_wp2_with (go_at_call 44; with_reducible refine HF.out.mono ?_; rintro _ _ ⟨rfl, rfl⟩)
      go_ret
      exact ⟨by rw [HR.out]; rfl, rfl⟩
theorem pre_dot (l : List UInt8) : Lib.hasPrefix l [46] = (l.head? == some 46) := by
  cases l with
  | nil => rfl
  | cons c r =>
    show ((46 : UInt8) == c && true) = (some c == some 46)
    rw [show ((46 : UInt8) == c) = (c == 46) from BEq.comm, Bool.and_true]
    rfl
theorem suf_dot (l : List UInt8) : Lib.hasSuffix l [46] = (l.getLast? == some 46) := by
  unfold Lib.hasSuffix
  rw [Bool.eq_iff_iff, List.isSuffixOf_iff_suffix, beq_iff_eq, List.getLast?_eq_some_iff]
  constructor
  · rintro ⟨t, ht⟩; exact ⟨t, ht.symm⟩
  · rintro ⟨t, ht⟩; exact ⟨t, ht.symm⟩
set_option maxHeartbeats 1000000 in
theorem bounded_any (s : ByteArray) (w : World) (hs : s.size ≤ 200) : Calls Tryd.prog 29 #[.string s] w fun e w' => e = .returned (.bool (bndL s.data.toList)) ∧ w' = w := by
  have HP : Hid (Calls Tryd.prog 46 #[.string s, .string ⟨#[46]⟩] w fun e w' => e = .returned (.bool (s.data.toList.head? == some 46)) ∧ w' = w) := by
    have := Tryd.strings_HasPrefix s ⟨#[46]⟩ w
    rw [show (⟨#[46]⟩ : ByteArray).data.toList = [46] from rfl, pre_dot] at this
    exact this
  have HS : Hid (Calls Tryd.prog 47 #[.string s, .string ⟨#[46]⟩] w fun e w' => e = .returned (.bool (s.data.toList.getLast? == some 46)) ∧ w' = w) := by
    have := Tryd.strings_HasSuffix s ⟨#[46]⟩ w (by omega)
    rw [show (⟨#[46]⟩ : ByteArray).data.toList = [46] from rfl, suf_dot] at this
    exact this
  have HR : Hid (bndL s.data.toList = (!s.toList.isEmpty && !(s.data.toList.head? == some 46) && !(s.data.toList.getLast? == some 46))) := by rw [Lib.toList_data]; rfl
  generalize (s.data.toList.head? == some 46) = A at *
  generalize (s.data.toList.getLast? == some 46) = B at *
  cases he : s.toList.isEmpty
  · cases A
    · cases B
      all_goals
        go_enter Tryd.func29, Tryd.ntmps29
        go_wp2_with (first
          | (go_at_call 46; with_reducible refine HP.out.mono ?_; rintro _ _ ⟨rfl, rfl⟩)
          | (go_at_call 47; with_reducible refine HS.out.mono ?_; rintro _ _ ⟨rfl, rfl⟩))
        go_ret
        exact ⟨by rw [HR.out, he]; rfl, rfl⟩
    · go_enter Tryd.func29, Tryd.ntmps29
      go_wp2_with (go_at_call 46; with_reducible refine HP.out.mono ?_; rintro _ _ ⟨rfl, rfl⟩)
      go_ret
      exact ⟨by rw [HR.out, he]; rfl, rfl⟩
  · go_enter Tryd.func29, Tryd.ntmps29
    go_wp2
    go_ret
    exact ⟨by rw [HR.out, he]; rfl, rfl⟩
theorem ba_at (s : ByteArray) (k : Nat) (h : k < s.size) : s.data.toList[k]? = some s[k] := by
  rw [List.getElem?_eq_getElem (by rw [Array.length_toList]; exact h)]
  rfl
set_option maxHeartbeats 1000000 in
theorem each_44 (s : ByteArray) (w : World) (hs : s.size ≤ 200) :
    Calls Tryd.prog 30 #[.string s, .func (.func 44) #[] #[]] w fun e w' => e = .returned (.bool (s.data.toList.all fstB)) ∧ w' = w := by
  go_enter Tryd.func30, Tryd.ntmps30
  go_wp2
  go_loopw [5, 8, 9, 10, 11, 12, 13, 14, 15, 16, 17] (fun _ v8 _ _ _ _ _ _ _ _ _ wr => ∃ k : Nat, k ≤ s.size ∧ v8 = .int .i64 (k : Int) ∧ (s.data.toList.take k).all fstB = true ∧ wr = w) (fun _ v8 _ _ _ _ _ _ _ _ _ _ => s.size - (intOf v8).toNat)
  case atStart => exact ⟨0, Nat.zero_le _, rfl, rfl, rfl⟩
  case round =>
    obtain ⟨k, hk, rfl, hd, rfl⟩ := hrel
    have HD := hidM hd
    clear hd
    by_cases hlt : k < s.size
    · have kk : (k : Int) < (s.size : Int) := by omega
      have HC := hidM (firstByte_any s[k] wr)
      have HT : Hid ((s.data.toList.take (k + 1)).all fstB = fstB s[k]) := by
        unfold Hid
        rw [List.take_add_one, List.all_append, HD.out, ba_at s k hlt]
        simp
      have HN : Hid (fstB s[k] = false → s.data.toList.all fstB = false) := by
        intro h
        rw [List.all_eq_false]
        exact ⟨s[k], List.mem_of_getElem? (ba_at s k hlt), by simp [h]⟩
      generalize fstB s[k] = B at *
      cases B with
      | true =>
        go_wp2_with fail
        refine HC.out.mono ?_
        rintro _ _ ⟨rfl, rfl⟩
        go_wp2_with fail
        go_roundw
        case rel => exact ⟨k + 1, by omega, by go_num, HT.out, trivial⟩
        case measure => (show s.size - ((k : Int) + 1).toNat < s.size - ((k : Int)).toNat); omega
      | false =>
        have HN2 := hidM (HN.out rfl)
        clear HN
        go_wp2_with fail
        refine HC.out.mono ?_
        rintro _ _ ⟨rfl, rfl⟩
        go_wp2_with fail
        go_ret
        exact ⟨by rw [HN2.out]; rfl, rfl⟩
    · obtain rfl : k = s.size := by omega
      have HF : Hid (s.data.toList.all fstB = true) := by
        have := HD.out
        rwa [List.take_of_length_le (by simp)] at this
      go_wp2
      go_ret
      exact ⟨by rw [HF.out]; rfl, rfl⟩
set_option maxHeartbeats 1000000 in
theorem each_31 (s : ByteArray) (w : World) (hs : s.size ≤ 200) :
    Calls Tryd.prog 30 #[.string s, .func (.func 31) #[] #[]] w fun e w' => e = .returned (.bool (s.data.toList.all plnB)) ∧ w' = w := by
  go_enter Tryd.func30, Tryd.ntmps30
  go_wp2
  go_loopw [5, 8, 9, 10, 11, 12, 13, 14, 15, 16, 17] (fun _ v8 _ _ _ _ _ _ _ _ _ wr => ∃ k : Nat, k ≤ s.size ∧ v8 = .int .i64 (k : Int) ∧ (s.data.toList.take k).all plnB = true ∧ wr = w) (fun _ v8 _ _ _ _ _ _ _ _ _ _ => s.size - (intOf v8).toNat)
  case atStart => exact ⟨0, Nat.zero_le _, rfl, rfl, rfl⟩
  case round =>
    obtain ⟨k, hk, rfl, hd, rfl⟩ := hrel
    have HD := hidM hd
    clear hd
    by_cases hlt : k < s.size
    · have kk : (k : Int) < (s.size : Int) := by omega
      have HC := hidM (plainByte_any s[k] wr)
      have HT : Hid ((s.data.toList.take (k + 1)).all plnB = plnB s[k]) := by
        unfold Hid
        rw [List.take_add_one, List.all_append, HD.out, ba_at s k hlt]
        simp
      have HN : Hid (plnB s[k] = false → s.data.toList.all plnB = false) := by
        intro h
        rw [List.all_eq_false]
        exact ⟨s[k], List.mem_of_getElem? (ba_at s k hlt), by simp [h]⟩
      generalize plnB s[k] = B at *
      cases B with
      | true =>
        go_wp2_with fail
        refine HC.out.mono ?_
        rintro _ _ ⟨rfl, rfl⟩
        go_wp2_with fail
        go_roundw
        case rel => exact ⟨k + 1, by omega, by go_num, HT.out, trivial⟩
        case measure => (show s.size - ((k : Int) + 1).toNat < s.size - ((k : Int)).toNat); omega
      | false =>
        have HN2 := hidM (HN.out rfl)
        clear HN
        go_wp2_with fail
        refine HC.out.mono ?_
        rintro _ _ ⟨rfl, rfl⟩
        go_wp2_with fail
        go_ret
        exact ⟨by rw [HN2.out]; rfl, rfl⟩
    · obtain rfl : k = s.size := by omega
      have HF : Hid (s.data.toList.all plnB = true) := by
        have := HD.out
        rwa [List.take_of_length_le (by simp)] at this
      go_wp2
      go_ret
      exact ⟨by rw [HF.out]; rfl, rfl⟩
end Go.Proofs.YtgkjmmfpbcgmgaaDoor
