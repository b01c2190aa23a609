/-
  Walks of the document's semver: Digits, Number, level, ByNumber.
-/
import Derived.Test.YtdbkmcjdkiljaaaDoorRefA
import Derived.Laws.Cover1
namespace Go.Proofs.YtdbkmcjdkiljaaaDoor
open Go.RowKit

set_option maxHeartbeats 1000000 in
set_option maxRecDepth 100000 in
theorem rdigits_any (s : ByteArray) (w : World) (hs : s.size ≤ 9223372036854775807) : Calls Tryd.prog 35 #[.string s] w fun e w' => e = .returned (.bool (digL s.data.toList)) ∧ w' = w := by
  have HE := hidM (empty_beq s)
  go_enter Tryd.func35, Tryd.ntmps35
  go_wp2
  go_loopw [3] (fun iv wr => ∃ k : Nat, k ≤ s.size ∧ iv = .int .i64 (k : Int) ∧ (∀ j (hj : j < s.size), j < k → digC s[j] = true) ∧ w = wr) (fun i _ => s.size - (intOf i).toNat)
  case atStart => exact ⟨0, Nat.zero_le _, rfl, fun j _ hj => by omega, rfl⟩
  case round =>
    obtain ⟨k, hk, rfl, hno, hwr⟩ := hrel
    subst hwr
    have HNO := hidM hno
    clear hno
    by_cases hlt : k < s.size
    · have gk : (k : Int) < (s.size : Int) := by omega
      by_cases h1 : s[k].toNat < 48
      · have b1 : decide ((s[k].toNat : Int) < 48) = true := by simp; omega
        have HR : Hid (digL s.data.toList = false) := by unfold Hid digL; rw [all_no hlt (by unfold digC; simp; omega)]; rfl
        go_wp2
        go_ret
        exact ⟨by rw [HR.out]; rfl, rfl⟩
      · have b1 : decide ((s[k].toNat : Int) < 48) = false := by simp; omega
        by_cases h2 : 57 < s[k].toNat
        · have b2 : decide ((57 : Int) < (s[k].toNat : Int)) = true := by simp; omega
          have HR : Hid (digL s.data.toList = false) := by unfold Hid digL; rw [all_no hlt (by unfold digC; simp; omega)]; rfl
          go_wp2
          go_ret
          exact ⟨by rw [HR.out]; rfl, rfl⟩
        · have b2 : decide ((57 : Int) < (s[k].toNat : Int)) = false := by simp; omega
          have HNX : Hid (∀ j (hj : j < s.size), j < k + 1 → digC s[j] = true) := fun j hj hjk => by
            rcases Nat.lt_or_ge j k with h | h
            · exact HNO.out j hj h
            · obtain rfl : j = k := by omega
              unfold digC; simp; omega
          go_wp2
          go_roundw
          case rel => exact ⟨k + 1, by omega, by go_num, HNX.out, by first | rfl | trivial⟩
          case measure => simp [intOf]; omega
    · have gk : ¬ (k : Int) < (s.size : Int) := by omega
      have HR : Hid (digL s.data.toList = decide (0 < s.size)) := by
        unfold Hid digL
        rw [all_yes (fun j hj => HNO.out j hj (by omega))]
        rw [Bool.true_and, ← size_len]
        cases s.data.toList <;> simp
      by_cases h0 : 0 < s.size
      · have b0 : decide ((0 : Int) < (s.size : Int)) = true := by simp; omega
        rw [decide_eq_true h0] at HR
        go_wp2
        go_ret
        exact ⟨by rw [HR.out]; rfl, rfl⟩
      · have b0 : decide ((0 : Int) < (s.size : Int)) = false := decide_eq_false (by omega)
        rw [decide_eq_false h0] at HR
        go_wp2
        go_ret
        exact ⟨by rw [HR.out]; rfl, rfl⟩
set_option maxHeartbeats 1000000 in
set_option maxRecDepth 100000 in
theorem rnumber_any (s : ByteArray) (w : World) (hs : s.size ≤ 9223372036854775807) : Calls Tryd.prog 33 #[.string s] w fun e w' => e = .returned (.bool (numL s.data.toList)) ∧ w' = w := by
  have HD := hidM (rdigits_any s w hs)
  have HR : Hid (numL s.data.toList = (digL s.data.toList && (s.data.toList.length == 1 || s.data.toList.getD 0 0 != 48))) := rfl
  cases hd : digL s.data.toList with
  | false =>
    rw [hd] at HD HR
    clear hd
    go_enter Tryd.func33, Tryd.ntmps33
    go_wp2_with fail
    refine HD.out.mono ?_
    rintro _ _ ⟨rfl, rfl⟩
    go_wp2
    go_ret
    exact ⟨by rw [HR.out]; rfl, rfl⟩
  | true =>
    have hpos : 0 < s.size := by
      rw [← size_len]
      unfold digL at hd
      cases hl : s.data.toList with
      | nil => rw [hl] at hd; cases hd
      | cons _ _ => simp
    have h0 : s.data.toList.getD 0 0 = s[0] := by rw [List.getD_eq_getElem?_getD, ba_list s 0 hpos]; rfl
    rw [hd, h0, size_len] at HR
    rw [hd] at HD
    clear hd h0
    have p0 : (0 : Int) < (s.size : Int) := by omega
    by_cases h1 : s.size = 1
    · have b1 : ((s.size : Int) == 1) = true := by simp; omega
      have b2 : (s.size == 1) = true := by simp; omega
      have HF : Hid (numL s.data.toList = true) := by unfold Hid; rw [HR.out, b2]; rfl
      go_enter Tryd.func33, Tryd.ntmps33
      go_wp2_with fail
      refine HD.out.mono ?_
      rintro _ _ ⟨rfl, rfl⟩
      go_wp2
      go_ret
      exact ⟨by rw [HF.out]; rfl, rfl⟩
    · have b1 : ((s.size : Int) == 1) = false := by simp; omega
      have b2 : (s.size == 1) = false := by simp; omega
      rw [b2] at HR
      by_cases h48 : s[0] = 48
      · have b3 : ((s[0].toNat : Int) == 48) = true := by rw [h48]; rfl
        have b4 : ((s[0].toNat : Int) != 48) = false := by rw [h48]; rfl
        have HF : Hid (numL s.data.toList = false) := by unfold Hid; rw [HR.out, h48]; rfl
        clear h48
        go_enter Tryd.func33, Tryd.ntmps33
        go_wp2_with fail
        refine HD.out.mono ?_
        rintro _ _ ⟨rfl, rfl⟩
        go_wp2
        go_ret
        exact ⟨by rw [HF.out]; rfl, rfl⟩
      · have h48n : ¬ s[0].toNat = 48 := fun e => h48 (UInt8.toNat_inj.1 (by rw [e]; rfl))
        have b3 : ((s[0].toNat : Int) == 48) = false := by simp; omega
        have b4 : ((s[0].toNat : Int) != 48) = true := by simp; omega
        have HF : Hid (numL s.data.toList = true) := by unfold Hid; rw [HR.out]; simp [h48]
        clear h48
        go_enter Tryd.func33, Tryd.ntmps33
        go_wp2_with fail
        refine HD.out.mono ?_
        rintro _ _ ⟨rfl, rfl⟩
        go_wp2
        go_ret
        exact ⟨by rw [HF.out]; rfl, rfl⟩
theorem less_cmp (a : List UInt8) : ∀ b, Op.bytesLess a b = decide (Lib.compareBytes a b = -1) := by
  induction a with
  | nil => intro b; cases b <;> rfl
  | cons x a ih =>
    intro b
    cases b with
    | nil => rfl
    | cons y b =>
      rw [cmp_cons]
      show (decide (x < y) || (x == y && Op.bytesLess a b)) = _
      rw [ih b]
      by_cases h1 : x.toNat < y.toNat
      · rw [if_pos h1, decide_eq_true ((u8_lt x y).2 h1)]; rfl
      · rw [if_neg h1, decide_eq_false (fun h => h1 ((u8_lt x y).1 h))]
        by_cases h2 : y.toNat < x.toNat
        · rw [if_pos h2]
          have : (x == y) = false := by rw [beq_eq_false_iff_ne]; intro e; rw [e] at h2; omega
          rw [this]; rfl
        · rw [if_neg h2]
          have : x = y := by rw [← UInt8.toNat_inj]; omega
          rw [this]; simp
set_option maxHeartbeats 1000000 in
theorem level_any (a b : ByteArray) (w : World) : Calls Tryd.prog 36 #[.string a, .string b] w fun e w' => e = .returned (.int .i64 (Lib.compareBytes a.data.toList b.data.toList)) ∧ w' = w := by
  have h1 := less_cmp a.data.toList b.data.toList
  have h2 : (a.toList == b.toList) = decide (Lib.compareBytes a.data.toList b.data.toList = 0) := by
    rw [Lib.toList_data, Lib.toList_data, Bool.eq_iff_iff]
    simp [cmp_zero]
  rw [← Lib.toList_data a, ← Lib.toList_data b] at h1
  have hr := cb_rng a.data.toList b.data.toList
  rw [Lib.toList_data] at h1
  rw [Lib.toList_data] at h1
  rw [← Lib.toList_data a, ← Lib.toList_data b] at h1
  rw [← Lib.toList_data a, ← Lib.toList_data b] at h2 hr ⊢
  generalize Lib.compareBytes a.toList b.toList = c at *
  rcases hr with rfl | rfl | rfl
  · have b1 : Op.bytesLess a.toList b.toList = true := h1.trans (by decide)
    clear h1 h2
    go_enter Tryd.func36, Tryd.ntmps36
    go_wp2
    go_ret
    exact ⟨rfl, rfl⟩
  · have b1 : Op.bytesLess a.toList b.toList = false := h1.trans (by decide)
    have b2 : (a.toList == b.toList) = true := h2.trans (by decide)
    have b3 : (!(a.toList == b.toList)) = false := by rw [b2]; rfl
    clear h1 h2 b2
    go_enter Tryd.func36, Tryd.ntmps36
    go_wp2
    go_ret
    exact ⟨rfl, rfl⟩
  · have b1 : Op.bytesLess a.toList b.toList = false := h1.trans (by decide)
    have b2 : (a.toList == b.toList) = false := h2.trans (by decide)
    clear h1 h2
    go_enter Tryd.func36, Tryd.ntmps36
    go_wp2
    go_ret
    exact ⟨rfl, rfl⟩
theorem zero_app (j : Nat) (l : List UInt8) : (⟨#[48]⟩ : ByteArray) ++ strOf (List.replicate j 48 ++ l) = strOf (List.replicate (j + 1) 48 ++ l) := bytes_ext (by
  rw [ByteArray.data_append, Array.toList_append, List.replicate_succ]
  rfl)
set_option maxHeartbeats 2000000 in
set_option maxRecDepth 100000 in
theorem rbyNumber_any (a b : ByteArray) (w : World) (ha : a.size ≤ 200) (hb : b.size ≤ 200) (na : numL a.data.toList = true) (nb : numL b.data.toList = true) :
    Calls Tryd.prog 34 #[.string a, .string b] w fun e w' => e = .returned (.int .i64 (numC a b)) ∧ w' = w := by
  have HL := hidM (fun A B => level_any A B w)
  have HP := hidM (pad_num na nb)
  clear na nb
  go_enter Tryd.func34, Tryd.ntmps34
  go_wp2
  go_loopw [0] (fun v wr => ∃ (j : Nat) (A : ByteArray), v = .string A ∧ A = strOf (List.replicate j 48 ++ a.data.toList) ∧ (j = 0 ∨ a.size + j ≤ b.size) ∧ w = wr) (fun v _ => b.size - (match v with | .string A => A.size | _ => 0))
  case atStart => exact ⟨0, a, rfl, bytes_ext rfl, Or.inl rfl, rfl⟩
  case round =>
    obtain ⟨j, A, rfl, hA, hj, hwr⟩ := hrel
    subst hwr
    have hz : A.size = a.size + j := by rw [hA, strOf_size, List.length_append, List.length_replicate, size_len]; omega
    have HA := hidM hA
    clear hA
    by_cases hlt : A.size < b.size
    · have gk : (A.size : Int) < (b.size : Int) := by omega
      have HX : Hid ((⟨#[48]⟩ : ByteArray) ++ A = strOf (List.replicate (j + 1) 48 ++ a.data.toList)) := by unfold Hid; rw [HA.out, zero_app]
      have HZ := hidM hz
      have hs2 : A.size ≤ 200 := by omega
      clear hz
      go_wp2
      go_roundw
      case rel => exact ⟨j + 1, _, rfl, HX.out, Or.inr (by have := HZ.out; omega), by first | rfl | trivial⟩
      case measure => (show b.size - ((⟨#[48]⟩ : ByteArray) ++ A).size < b.size - A.size); rw [ByteArray.size_append]; (show b.size - (1 + A.size) < b.size - A.size); omega
    · have gk : ¬ (A.size : Int) < (b.size : Int) := by omega
      have HA2 : Hid (A.data.toList = padTo b.size a.data.toList) := by
        unfold Hid padTo
        rw [HA.out, size_len, show b.size - a.size = j by omega]
        rfl
      have hs2 : A.size ≤ 200 := by omega
      have hge : b.size ≤ A.size := by omega
      clear hz hj HA
      go_wp2
      go_loopw [1] (fun v wr => ∃ (j : Nat) (B : ByteArray), v = .string B ∧ B = strOf (List.replicate j 48 ++ b.data.toList) ∧ (b.size + j ≤ A.size) ∧ w = wr) (fun v _ => A.size - (match v with | .string A => A.size | _ => 0))
      case atStart => exact ⟨0, b, rfl, bytes_ext rfl, hge, rfl⟩
      case round =>
        obtain ⟨j, B, rfl, hB, hj, hwr⟩ := hrel
        subst hwr
        have hz : B.size = b.size + j := by rw [hB, strOf_size, List.length_append, List.length_replicate, size_len]; omega
        have HB := hidM hB
        clear hB
        by_cases hlt : B.size < A.size
        · have gk : (B.size : Int) < (A.size : Int) := by omega
          have HX : Hid ((⟨#[48]⟩ : ByteArray) ++ B = strOf (List.replicate (j + 1) 48 ++ b.data.toList)) := by unfold Hid; rw [HB.out, zero_app]
          have HZ := hidM hz
          have hs3 : B.size ≤ 200 := by omega
          clear hz
          go_wp2
          go_roundw
          case rel => exact ⟨j + 1, _, rfl, HX.out, by have := HZ.out; omega, by first | rfl | trivial⟩
          case measure => (show A.size - ((⟨#[48]⟩ : ByteArray) ++ B).size < A.size - B.size); rw [ByteArray.size_append]; (show A.size - (1 + B.size) < A.size - B.size); omega
        · have gk : ¬ (B.size : Int) < (A.size : Int) := by omega
          have HR : Hid (Lib.compareBytes A.data.toList B.data.toList = numC a b) := by
            unfold Hid
            rw [← HP.out, ← HA2.out, size_len]
            congr 1
            unfold padTo
            rw [HB.out, size_len, show A.size - b.size = j by omega]
            rfl
          have HC := hidM (HL.out A B)
          clear hz hj HB HA2
          generalize Lib.compareBytes A.data.toList B.data.toList = c at *
          go_wp2_with fail
          refine HC.out.mono ?_
          rintro _ _ ⟨rfl, rfl⟩
          go_wp2
          go_ret
          exact ⟨by rw [HR.out]; rfl, rfl⟩
end Go.Proofs.YtdbkmcjdkiljaaaDoor
