/-
  The document's Number and decimals.
  The document's decimals: Digits.
-/
import Derived.Test.YtddoemeellbhaaaGreatDoorJSnapC
import Derived.Lib.ItoaMem
import Derived.Lib.ItoaLen
import Derived.Deep.QuietTactic
import Derived.BigQuiet
namespace Go.Proofs.YtddoemeellbhaaaGreatDoor
open Go.RowKit
set_option maxHeartbeats 1600000 in
theorem rnumber_any (s : ByteArray) (w : World) :
    Calls Tryz.prog 87 #[.string s] w fun e w' => e = .returned (.int .i64 (numR s.data.toList)) ∧ w' = w := by
  have hl := sl_len s
  by_cases hE : s.size = 0
  · have e0 : (s.size : Int) = 0 := by omega
    have hn : ¬ NumOk s.data.toList := fun h => h.ne (List.eq_nil_of_length_eq_zero (by omega))
    rw [numR_no hn]
    clear hn hl
    go_enter Tryz.func87, Tryz.ntmps87
    go_wp2
    go_ret
    exact ⟨rfl, rfl⟩
  have g1 : ¬ (s.size : Int) < 1 := by omega
  by_cases h9 : 9 < s.size
  · have hn : ¬ NumOk s.data.toList := fun h => by have := h.len; omega
    rw [numR_no hn]
    have g9 : (9 : Int) < (s.size : Int) := by omega
    clear hn hl
    go_enter Tryz.func87, Tryz.ntmps87
    go_wp2
    go_ret
    exact ⟨rfl, rfl⟩
  have hp : 0 < s.size := by omega
  have g9 : ¬ (9 : Int) < (s.size : Int) := by omega
  by_cases h0 : s[0] = 48
  · have c0 : (s[0].toNat : Int) = 48 := by rw [h0]; rfl
    by_cases hone : s.size = 1
    · have g2 : ¬ (1 : Int) < (s.size : Int) := by omega
      have HZ : Hid (s[0] = 48 → s.size = 1) := fun _ => hone
      clear hl h0 hone
      go_enter Tryz.func87, Tryz.ntmps87
      go_wp2
      go_loopw [3, 4] (fun v i wr => ∃ (k : Nat), k ≤ s.size ∧ i = .int .i64 k ∧ v = .int .i64 (valL (s.data.toList.take k) : Nat) ∧ DigsTo s k ∧ wr = w) (fun _ i _ => s.size - (intOf i).toNat)
      case atStart => exact ⟨0, Nat.zero_le _, rfl, rfl, digsTo_zero s, rfl⟩
      case round =>
        obtain ⟨k, hk, rfl, rfl, hd, rfl⟩ := hrel
        have HD := hidMO hd
        clear hd
        by_cases hlt : k < s.size
        · have kk : (k : Int) < (s.size : Int) := by omega
          have hv := digsTo_val s k HD.out (by omega)
          obtain ⟨c, hcc⟩ : ∃ c, c = s[k].toNat := ⟨_, rfl⟩
          have r0 : (s[k].toNat : Int) = (c : Int) := by omega
          by_cases hdig : isDig s[k]
          · have HN := hidMO (digsTo_next s k hlt HD.out hdig)
            have HV := hidMO (val_next s k hlt)
            have hb : 48 ≤ s[k].toNat ∧ s[k].toNat ≤ 57 := hdig
            rw [← hcc] at HV hb
            obtain ⟨hb1, hb2⟩ := hb
            generalize valL (s.data.toList.take k) = v at *
            clear hcc hdig HD
            have q1 : decide ((c : Int) < 48) = false := by simp; omega
            have q2 : decide ((57 : Int) < (c : Int)) = false := by simp; omega
            go_wp2
            go_roundw
            case rel => exact ⟨k + 1, by omega, by go_num, by rw [HV.out]; go_num, HN.out, trivial⟩
            case measure => (show s.size - ((k : Int) + 1).toNat < s.size - ((k : Int)).toNat); omega
          · have hn := num_not_digit s k hlt hdig
            have HA := hidMO (numR_no hn)
            have HB := hidMO (numT_no hn)
            have hb : ¬ (48 ≤ s[k].toNat ∧ s[k].toNat ≤ 57) := hdig
            rw [← hcc] at hb
            generalize valL (s.data.toList.take k) = v at *
            clear hcc hdig HD hn
            by_cases hc : c < 48
            · have q1 : decide ((c : Int) < 48) = true := by simp; omega
              go_wp2
              go_ret
              exact ⟨by rw [HA.out]; rfl, rfl⟩
            · have q1 : decide ((c : Int) < 48) = false := by simp; omega
              have q2 : decide ((57 : Int) < (c : Int)) = true := by simp; omega
              go_wp2
              go_ret
              exact ⟨by rw [HA.out]; rfl, rfl⟩
        · obtain rfl : k = s.size := by omega
          have hd : ∀ c ∈ s.data.toList, isDig c := by
            have := HD.out
            unfold DigsTo at this
            rwa [List.take_of_length_le (by rw [sl_len]; omega)] at this
          have hn := num_loop_yes s (by omega) (by omega) HZ.out hd
          have HA := hidMO (numR_yes hn)
          have HB := hidMO (numT_yes hn)
          have hv := digsTo_val s s.size HD.out (by omega)
          rw [List.take_of_length_le (by rw [sl_len]; omega)] at hv ⊢
          clear hn hd HD
          generalize valL s.data.toList = v at *
          go_wp2
          go_ret
          exact ⟨by rw [HA.out]; rfl, rfl⟩
    · obtain ⟨r, hr⟩ := s_head s (by omega)
      have hn : ¬ NumOk s.data.toList := fun h => by
        have h3 := h.head r (by rw [hr, h0])
        rw [hr, h3] at hl
        simp at hl; omega
      rw [numR_no hn]
      have g2 : (1 : Int) < (s.size : Int) := by omega
      clear hn hl hr
      go_enter Tryz.func87, Tryz.ntmps87
      go_wp2
      go_ret
      exact ⟨rfl, rfl⟩
  · have c0 : ((s[0].toNat : Int) == 48) = false := by
      refine beq_false_of_ne fun h => h0 ?_
      rw [← UInt8.toNat_inj]
      show s[0].toNat = 48
      omega
    have c1 : (s[0].toNat : Int) ≠ 48 := by simpa using c0
    have HZ : Hid (s[0] = 48 → s.size = 1) := fun h => absurd h h0
    clear hl h0
    go_enter Tryz.func87, Tryz.ntmps87
    go_wp2
    go_loopw [3, 4] (fun v i wr => ∃ (k : Nat), k ≤ s.size ∧ i = .int .i64 k ∧ v = .int .i64 (valL (s.data.toList.take k) : Nat) ∧ DigsTo s k ∧ wr = w) (fun _ i _ => s.size - (intOf i).toNat)
    case atStart => exact ⟨0, Nat.zero_le _, rfl, rfl, digsTo_zero s, rfl⟩
    case round =>
      obtain ⟨k, hk, rfl, rfl, hd, rfl⟩ := hrel
      have HD := hidMO hd
      clear hd
      by_cases hlt : k < s.size
      · have kk : (k : Int) < (s.size : Int) := by omega
        have hv := digsTo_val s k HD.out (by omega)
        obtain ⟨c, hcc⟩ : ∃ c, c = s[k].toNat := ⟨_, rfl⟩
        have r0 : (s[k].toNat : Int) = (c : Int) := by omega
        by_cases hdig : isDig s[k]
        · have HN := hidMO (digsTo_next s k hlt HD.out hdig)
          have HV := hidMO (val_next s k hlt)
          have hb : 48 ≤ s[k].toNat ∧ s[k].toNat ≤ 57 := hdig
          rw [← hcc] at HV hb
          obtain ⟨hb1, hb2⟩ := hb
          generalize valL (s.data.toList.take k) = v at *
          clear hcc hdig HD
          have q1 : decide ((c : Int) < 48) = false := by simp; omega
          have q2 : decide ((57 : Int) < (c : Int)) = false := by simp; omega
          go_wp2
          go_roundw
          case rel => exact ⟨k + 1, by omega, by go_num, by rw [HV.out]; go_num, HN.out, trivial⟩
          case measure => (show s.size - ((k : Int) + 1).toNat < s.size - ((k : Int)).toNat); omega
        · have hn := num_not_digit s k hlt hdig
          have HA := hidMO (numR_no hn)
          have HB := hidMO (numT_no hn)
          have hb : ¬ (48 ≤ s[k].toNat ∧ s[k].toNat ≤ 57) := hdig
          rw [← hcc] at hb
          generalize valL (s.data.toList.take k) = v at *
          clear hcc hdig HD hn
          by_cases hc : c < 48
          · have q1 : decide ((c : Int) < 48) = true := by simp; omega
            go_wp2
            go_ret
            exact ⟨by rw [HA.out]; rfl, rfl⟩
          · have q1 : decide ((c : Int) < 48) = false := by simp; omega
            have q2 : decide ((57 : Int) < (c : Int)) = true := by simp; omega
            go_wp2
            go_ret
            exact ⟨by rw [HA.out]; rfl, rfl⟩
      · obtain rfl : k = s.size := by omega
        have hd : ∀ c ∈ s.data.toList, isDig c := by
          have := HD.out
          unfold DigsTo at this
          rwa [List.take_of_length_le (by rw [sl_len]; omega)] at this
        have hn := num_loop_yes s (by omega) (by omega) HZ.out hd
        have HA := hidMO (numR_yes hn)
        have HB := hidMO (numT_yes hn)
        have hv := digsTo_val s s.size HD.out (by omega)
        rw [List.take_of_length_le (by rw [sl_len]; omega)] at hv ⊢
        clear hn hd HD
        generalize valL s.data.toList = v at *
        go_wp2
        go_ret
        exact ⟨by rw [HA.out]; rfl, rfl⟩
end Go.Proofs.YtddoemeellbhaaaGreatDoor
namespace Go.Proofs.YtddoemeellbhaaaGreatDoor
open Go.RowKit
def digS10 : ByteArray := { data := #[48, 49, 50, 51, 52, 53, 54, 55, 56, 57] }
theorem dig10 : ∀ n, n < 10 → digS10.extract n (n + 1) = ⟨#[UInt8.ofNat (48 + n)]⟩ := by decide
theorem app_one (P : List UInt8) (a : UInt8) : (⟨P.toArray⟩ : ByteArray) ++ ⟨#[a]⟩ = ⟨(P ++ [a]).toArray⟩ := by
  apply ByteArray.ext
  simp [ByteArray.data_append]
set_option maxHeartbeats 1600000 in
theorem digits_pos (k : Nat) : ∀ (n : Nat) (w : World), n < k → n ≤ 9223372036854775807 →
    Calls Tryz.prog 60 #[.int .i64 (n : Int)] w fun e w' => e = .returned (.string ⟨(Lib.decDigits n).toArray⟩) ∧ ∃ m, w' = w.drewN m := by
  induction k with
  | zero => intro n w h; omega
  | succ k ih =>
    intro n w hk hn
    have g1 : ¬ (n : Int) < 0 := by omega
    by_cases h10 : n < 10
    · have g2 : (n : Int) < 10 := by omega
      have hcut := dig10 n h10
      have hdd := hidMO (dd_small h10)
      unfold digS10 at hcut
      generalize UInt8.ofNat (48 + n) = d at *
      go_enter Tryz.func60, Tryz.ntmps60
      go_wp2_with fail
      go_ret
      exact ⟨by rw [hdd.out]; rfl, 0, rfl⟩
    · have g2 : ¬ (n : Int) < 10 := by omega
      obtain ⟨q, hq⟩ : ∃ q, q = n / 10 := ⟨_, rfl⟩
      obtain ⟨r, hr⟩ : ∃ r, r = n % 10 := ⟨_, rfl⟩
      have hr10 : r < 10 := by omega
      have r1 : (n : Int) / 10 = (q : Int) := by omega
      have r2 : (n : Int) % 10 = (r : Int) := by omega
      have hcut := dig10 r hr10
      unfold digS10 at hcut
      have hdd := hidMO (dd_big (u := n) (by omega))
      rw [← hq, ← hr] at hdd
      have IH : Hid (∀ w, Calls Tryz.prog 60 #[.int .i64 (q : Int)] w fun e w' => e = .returned (.string ⟨(Lib.decDigits q).toArray⟩) ∧ ∃ m, w' = w.drewN m) := fun w => ih q w (by omega) (by omega)
      clear ih hq hr
      have hlen : (⟨(Lib.decDigits q).toArray⟩ : ByteArray).size ≤ 100 := by
        show (Lib.decDigits q).toArray.size ≤ 100
        rw [List.size_toArray, Lib.decDigits_length]
        have := Lib.nDigits_le20 q (by omega)
        omega
      generalize UInt8.ofNat (48 + r) = d at *
      have HAP := hidMO (app_one (Lib.decDigits q) d)
      generalize (⟨(Lib.decDigits q).toArray⟩ : ByteArray) = Q at *
      go_enter Tryz.func60, Tryz.ntmps60
      go_wp2_with fail
      go_quiet ((go_at_call 60; with_reducible exact Calls.quiet_of (IH.out _)))
      go_wp2
      go_ret
      exact ⟨by rw [hdd.out, ← HAP.out]; rfl, nq, rfl⟩
set_option maxHeartbeats 1600000 in
theorem digits_neg (k : Nat) : ∀ (n : Nat) (w : World), n < k → 1 ≤ n → n ≤ 9223372036854775808 →
    Calls Tryz.prog 60 #[.int .i64 (-(n : Int))] w fun e w' => e = .returned (.string ⟨(45 :: Lib.decDigits n).toArray⟩) ∧ ∃ m, w' = w.drewN m := by
  induction k with
  | zero => intro n w h; omega
  | succ k ih =>
    intro n w hk h1 hn
    have g1 : -(n : Int) < 0 := by omega
    by_cases h10 : n < 10
    · have g2 : (-10 : Int) < -(n : Int) := by omega
      have IH : Hid (∀ w, Calls Tryz.prog 60 #[.int .i64 (n : Int)] w fun e w' => e = .returned (.string ⟨(Lib.decDigits n).toArray⟩) ∧ ∃ m, w' = w.drewN m) := fun w => digits_pos (n + 1) n w (by omega) (by omega)
      have HAP : Hid ((⟨#[45]⟩ : ByteArray) ++ ⟨(Lib.decDigits n).toArray⟩ = ⟨(45 :: Lib.decDigits n).toArray⟩) := by
        unfold Hid; apply ByteArray.ext; simp [ByteArray.data_append]
      have hlen : (⟨(Lib.decDigits n).toArray⟩ : ByteArray).size ≤ 100 := by
        show (Lib.decDigits n).toArray.size ≤ 100
        rw [List.size_toArray, Lib.decDigits_length]
        have := Lib.nDigits_le20 n (by omega)
        omega
      generalize (⟨(Lib.decDigits n).toArray⟩ : ByteArray) = Q at *
      clear ih
      go_enter Tryz.func60, Tryz.ntmps60
      go_wp2_with fail
      refine (IH.out w).mono ?_
      rintro _ w1 ⟨rfl, m, rfl⟩
      go_wp2_with fail
      go_ret
      exact ⟨by rw [← HAP.out]; rfl, m, rfl⟩
    · have g2 : ¬ (-10 : Int) < -(n : Int) := by omega
      obtain ⟨q, hq⟩ : ∃ q, q = n / 10 := ⟨_, rfl⟩
      obtain ⟨r, hr⟩ : ∃ r, r = n % 10 := ⟨_, rfl⟩
      have hr10 : r < 10 := by omega
      have r1 : (n : Int) / 10 = (q : Int) := by omega
      have r2 : (n : Int) % 10 = (r : Int) := by omega
      have r3 : (n : Int).tmod 10 = (r : Int) := by rw [Int.tmod_eq_emod_of_nonneg (by omega)]; exact r2
      have hdd := hidMO (dd_big (u := n) (by omega))
      rw [← hq, ← hr, ← dd_small hr10] at hdd
      have IH : Hid (∀ w, Calls Tryz.prog 60 #[.int .i64 (-(q : Int))] w fun e w' => e = .returned (.string ⟨(45 :: Lib.decDigits q).toArray⟩) ∧ ∃ m, w' = w.drewN m) := fun w => ih q w (by omega) (by omega) (by omega)
      have IP : Hid (∀ w, Calls Tryz.prog 60 #[.int .i64 (r : Int)] w fun e w' => e = .returned (.string ⟨(Lib.decDigits r).toArray⟩) ∧ ∃ m, w' = w.drewN m) := fun w => digits_pos (r + 1) r w (by omega) (by omega)
      have HAP : Hid ((⟨(45 :: Lib.decDigits q).toArray⟩ : ByteArray) ++ ⟨(Lib.decDigits r).toArray⟩ = ⟨(45 :: (Lib.decDigits q ++ Lib.decDigits r)).toArray⟩) := by
        unfold Hid; apply ByteArray.ext; simp [ByteArray.data_append]
      have hl1 : (⟨(45 :: Lib.decDigits q).toArray⟩ : ByteArray).size ≤ 100 := by
        show (45 :: Lib.decDigits q).toArray.size ≤ 100
        rw [List.size_toArray, List.length_cons, Lib.decDigits_length]
        have := Lib.nDigits_le20 q (by omega)
        omega
      have hl2 : (⟨(Lib.decDigits r).toArray⟩ : ByteArray).size ≤ 100 := by
        show (Lib.decDigits r).toArray.size ≤ 100
        rw [List.size_toArray, Lib.decDigits_length]
        have := Lib.nDigits_le20 r (by omega)
        omega
      clear ih hq hr
      generalize (⟨(45 :: Lib.decDigits q).toArray⟩ : ByteArray) = Q at *
      generalize (⟨(Lib.decDigits r).toArray⟩ : ByteArray) = R at *
      go_enter Tryz.func60, Tryz.ntmps60
      go_wp2_with fail
      refine (IH.out w).mono ?_
      rintro _ w1 ⟨rfl, m, rfl⟩
      go_wp2_with fail
      refine (IP.out _).mono ?_
      rintro _ w1 ⟨rfl, m2, rfl⟩
      go_wp2_with fail
      go_ret
      exact ⟨by rw [hdd.out, ← HAP.out]; rfl, m + m2, rfl⟩
theorem digits_any (n : Int) (w : World) (h0 : -9223372036854775808 ≤ n) (h1 : n ≤ 9223372036854775807) :
    Calls Tryz.prog 60 #[.int .i64 n] w fun e w' => e = .returned (.string ⟨(Lib.itoa n).toArray⟩) ∧ ∃ m, w' = w.drewN m := by
  by_cases h : n < 0
  · obtain ⟨u, rfl⟩ : ∃ u : Nat, n = -(u : Int) := ⟨n.natAbs, by omega⟩
    rw [Lib.itoa_neg u (by omega)]
    exact digits_neg (u + 1) u w (by omega) (by omega) (by omega)
  · obtain ⟨u, rfl⟩ : ∃ u : Nat, n = (u : Int) := ⟨n.toNat, by omega⟩
    rw [Lib.itoa_nonneg]
    exact digits_pos (u + 1) u w (by omega) (by omega)
end Go.Proofs.YtddoemeellbhaaaGreatDoor
