/-
  Walks of the document's semver: Digits, Number, level, ByNumber.
-/
import Derived.Test.YtdbkmcjdkiljaaaGreatDoorRefA
import Derived.Laws.Cover1
namespace Go.Proofs.YtdbkmcjdkiljaaaGreatDoor
open Go.RowKit
set_option maxHeartbeats 1000000 in
set_option maxRecDepth 100000 in
theorem rdigits_any (s : ByteArray) (w : World) (hs : s.size ≤ 9223372036854775807) : Calls Tryz.prog 35 #[.string s] w fun e w' => e = .returned (.bool (digL s.data.toList)) ∧ w' = w := by
  have HE := hidM (empty_beq s)
  go_enter Tryz.func35, Tryz.ntmps35
  go_wp2
  go_loopw [3] (fun iv wr => ∃ k : Nat, k ≤ s.size ∧ iv = .int .i64 (k : Int) ∧ (∀ j (hj : j < s.size), j < k → digC s[j] = true) ∧ w = wr) (fun i _ => s.size - (intOf i).toNat)
  case atStart => exact ⟨0, Nat.zero_le _, rfl, fun j _ hj => by omega, rfl⟩
  case round =>
    obtain ⟨k, hk, rfl, hno, hwr⟩ := hrel
    subst hwr
    have HNO := hidM hno
    clear hno
    by_cases hlt : k < s.size
    · have gk : (k : Int) < (s.size : Int) := by omega
      by_cases h1 : s[k].toNat < 48
      · have b1 : decide ((s[k].toNat : Int) < 48) = true := by simp; omega
        have HR : Hid (digL s.data.toList = false) := by unfold Hid digL; rw [all_no hlt (by unfold digC; simp; omega)]; rfl
        go_wp2
        go_ret
        exact ⟨by rw [HR.out]; rfl, rfl⟩
      · have b1 : decide ((s[k].toNat : Int) < 48) = false := by simp; omega
        by_cases h2 : 57 < s[k].toNat
        · have b2 : decide ((57 : Int) < (s[k].toNat : Int)) = true := by simp; omega
          have HR : Hid (digL s.data.toList = false) := by unfold Hid digL; rw [all_no hlt (by unfold digC; simp; omega)]; rfl
          go_wp2
          go_ret
          exact ⟨by rw [HR.out]; rfl, rfl⟩
        · have b2 : decide ((57 : Int) < (s[k].toNat : Int)) = false := by simp; omega
          have HNX : Hid (∀ j (hj : j < s.size), j < k + 1 → digC s[j] = true) := fun j hj hjk => by
            rcases Nat.lt_or_ge j k with h | h
            · exact HNO.out j hj h
            · obtain rfl : j = k := by omega
              unfold digC; simp; omega
          go_wp2
          go_roundw
          case rel => exact ⟨k + 1, by omega, by go_num, HNX.out, by first | rfl | trivial⟩
          case measure => simp [intOf]; omega
    · have gk : ¬ (k : Int) < (s.size : Int) := by omega
      have HR : Hid (digL s.data.toList = decide (0 < s.size)) := by
        unfold Hid digL
        rw [all_yes (fun j hj => HNO.out j hj (by omega))]
        rw [Bool.true_and, ← size_len]
        cases s.data.toList <;> simp
      by_cases h0 : 0 < s.size
      · have b0 : decide ((0 : Int) < (s.size : Int)) = true := by simp; omega
        rw [decide_eq_true h0] at HR
        go_wp2
        go_ret
        exact ⟨by rw [HR.out]; rfl, rfl⟩
      · have b0 : decide ((0 : Int) < (s.size : Int)) = false := decide_eq_false (by omega)
        rw [decide_eq_false h0] at HR
        go_wp2
        go_ret
        exact ⟨by rw [HR.out]; rfl, rfl⟩
set_option maxHeartbeats 1000000 in
set_option maxRecDepth 100000 in
theorem rnumber_any (s : ByteArray) (w : World) (hs : s.size ≤ 9223372036854775807) : Calls Tryz.prog 15 #[.string s] w fun e w' => e = .returned (.bool (numL s.data.toList)) ∧ w' = w := by
  have HD := hidM (rdigits_any s w hs)
  have HR : Hid (numL s.data.toList = (digL s.data.toList && (s.data.toList.length == 1 || s.data.toList.getD 0 0 != 48))) := rfl
  cases hd : digL s.data.toList with
  | false =>
    rw [hd] at HD HR
    clear hd
    go_enter Tryz.func15, Tryz.ntmps15
    go_wp2_with fail
    refine HD.out.mono ?_
    rintro _ _ ⟨rfl, rfl⟩
    go_wp2
    go_ret
    exact ⟨by rw [HR.out]; rfl, rfl⟩
  | true =>
    have hpos : 0 < s.size := by
      rw [← size_len]
      unfold digL at hd
      cases hl : s.data.toList with
      | nil => rw [hl] at hd; cases hd
      | cons _ _ => simp
    have h0 : s.data.toList.getD 0 0 = s[0] := by rw [List.getD_eq_getElem?_getD, ba_list s 0 hpos]; rfl
    rw [hd, h0, size_len] at HR
    rw [hd] at HD
    clear hd h0
    have p0 : (0 : Int) < (s.size : Int) := by omega
    by_cases h1 : s.size = 1
    · have b1 : ((s.size : Int) == 1) = true := by simp; omega
      have b2 : (s.size == 1) = true := by simp; omega
      have HF : Hid (numL s.data.toList = true) := by unfold Hid; rw [HR.out, b2]; rfl
      go_enter Tryz.func15, Tryz.ntmps15
      go_wp2_with fail
      refine HD.out.mono ?_
      rintro _ _ ⟨rfl, rfl⟩
      go_wp2
      go_ret
      exact ⟨by rw [HF.out]; rfl, rfl⟩
    · have b1 : ((s.size : Int) == 1) = false := by simp; omega
      have b2 : (s.size == 1) = false := by simp; omega
      rw [b2] at HR
      by_cases h48 : s[0] = 48
      · have b3 : ((s[0].toNat : Int) == 48) = true := by rw [h48]; rfl
        have b4 : ((s[0].toNat : Int) != 48) = false := by rw [h48]; rfl
        have HF : Hid (numL s.data.toList = false) := by unfold Hid; rw [HR.out, h48]; rfl
        clear h48
        go_enter Tryz.func15, Tryz.ntmps15
        go_wp2_with fail
        refine HD.out.mono ?_
        rintro _ _ ⟨rfl, rfl⟩
        go_wp2
        go_ret
        exact ⟨by rw [HF.out]; rfl, rfl⟩
      · have h48n : ¬ s[0].toNat = 48 := fun e => h48 (UInt8.toNat_inj.1 (by rw [e]; rfl))
        have b3 : ((s[0].toNat : Int) == 48) = false := by simp; omega
        have b4 : ((s[0].toNat : Int) != 48) = true := by simp; omega
        have HF : Hid (numL s.data.toList = true) := by unfold Hid; rw [HR.out]; simp [h48]
        clear h48
        go_enter Tryz.func15, Tryz.ntmps15
        go_wp2_with fail
        refine HD.out.mono ?_
        rintro _ _ ⟨rfl, rfl⟩
        go_wp2
        go_ret
        exact ⟨by rw [HF.out]; rfl, rfl⟩
theorem less_cmp (a : List UInt8) : ∀ b, Op.bytesLess a b = decide (Lib.compareBytes a b = -1) := by
  induction a with
  | nil => intro b; cases b <;> rfl
  | cons x a ih =>
    intro b
    cases b with
    | nil => rfl
    | cons y b =>
      rw [cmp_cons]
      show (decide (x < y) || (x == y && Op.bytesLess a b)) = _
      rw [ih b]
      by_cases h1 : x.toNat < y.toNat
      · rw [if_pos h1, decide_eq_true ((u8_lt x y).2 h1)]; rfl
      · rw [if_neg h1, decide_eq_false (fun h => h1 ((u8_lt x y).1 h))]
        by_cases h2 : y.toNat < x.toNat
        · rw [if_pos h2]
          have : (x == y) = false := by rw [beq_eq_false_iff_ne]; intro e; rw [e] at h2; omega
          rw [this]; rfl
        · rw [if_neg h2]
          have : x = y := by rw [← UInt8.toNat_inj]; omega
          rw [this]; simp
theorem zero_app (j : Nat) (l : List UInt8) : (⟨#[48]⟩ : ByteArray) ++ strOf (List.replicate j 48 ++ l) = strOf (List.replicate (j + 1) 48 ++ l) := bytes_ext (by
  rw [ByteArray.data_append, Array.toList_append, List.replicate_succ]
  rfl)
end Go.Proofs.YtdbkmcjdkiljaaaGreatDoor
