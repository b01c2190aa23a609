/-
  The document's Number and decimals.
-/
import Derived.Test.YtolohndbbnbfbaaDoorNumA
namespace Go.Proofs.YtolohndbbnbfbaaDoor
open Go.RowKit

set_option maxHeartbeats 1600000 in
theorem rnumber_any (s : ByteArray) (w : World) :
    Calls Tryd.prog 40 #[.string s] w fun e w' => e = .returned (.int .i64 (numR s.data.toList)) ∧ w' = w := by
  have hl := sl_len s
  by_cases hE : s.size = 0
  · have e0 : (s.size : Int) = 0 := by omega
    have hn : ¬ NumOk s.data.toList := fun h => h.ne (List.eq_nil_of_length_eq_zero (by omega))
    rw [numR_no hn]
    clear hn hl
    go_enter Tryd.func40, Tryd.ntmps40
    go_wp2
    go_ret
    exact ⟨rfl, rfl⟩
  have g1 : ¬ (s.size : Int) < 1 := by omega
  by_cases h9 : 9 < s.size
  · have hn : ¬ NumOk s.data.toList := fun h => by have := h.len; omega
    rw [numR_no hn]
    have g9 : (9 : Int) < (s.size : Int) := by omega
    clear hn hl
    go_enter Tryd.func40, Tryd.ntmps40
    go_wp2
    go_ret
    exact ⟨rfl, rfl⟩
  have hp : 0 < s.size := by omega
  have g9 : ¬ (9 : Int) < (s.size : Int) := by omega
  by_cases h0 : s[0] = 48
  · have c0 : (s[0].toNat : Int) = 48 := by rw [h0]; rfl
    by_cases hone : s.size = 1
    · have g2 : ¬ (1 : Int) < (s.size : Int) := by omega
      have HZ : Hid (s[0] = 48 → s.size = 1) := fun _ => hone
      clear hl h0 hone
      go_enter Tryd.func40, Tryd.ntmps40
      go_wp2
      go_loopw [3, 4] (fun v i wr => ∃ (k : Nat), k ≤ s.size ∧ i = .int .i64 k ∧ v = .int .i64 (valL (s.data.toList.take k) : Nat) ∧ DigsTo s k ∧ wr = w) (fun _ i _ => s.size - (intOf i).toNat)
      case atStart => exact ⟨0, Nat.zero_le _, rfl, rfl, digsTo_zero s, rfl⟩
      case round =>
        obtain ⟨k, hk, rfl, rfl, hd, rfl⟩ := hrel
        have HD := hidM hd
        clear hd
        by_cases hlt : k < s.size
        · have kk : (k : Int) < (s.size : Int) := by omega
          have hv := digsTo_val s k HD.out (by omega)
          obtain ⟨c, hcc⟩ : ∃ c, c = s[k].toNat := ⟨_, rfl⟩
          have r0 : (s[k].toNat : Int) = (c : Int) := by omega
          by_cases hdig : isDig s[k]
          · have HN := hidM (digsTo_next s k hlt HD.out hdig)
            have HV := hidM (val_next s k hlt)
            have hb : 48 ≤ s[k].toNat ∧ s[k].toNat ≤ 57 := hdig
            rw [← hcc] at HV hb
            obtain ⟨hb1, hb2⟩ := hb
            generalize valL (s.data.toList.take k) = v at *
            clear hcc hdig HD
            have q1 : decide ((c : Int) < 48) = false := by simp; omega
            have q2 : decide ((57 : Int) < (c : Int)) = false := by simp; omega
            go_wp2
            go_roundw
            case rel => exact ⟨k + 1, by omega, by go_num, by rw [HV.out]; go_num, HN.out, trivial⟩
            case measure => (show s.size - ((k : Int) + 1).toNat < s.size - ((k : Int)).toNat); omega
          · have hn := num_not_digit s k hlt hdig
            have HA := hidM (numR_no hn)
            have HB := hidM (numT_no hn)
            have hb : ¬ (48 ≤ s[k].toNat ∧ s[k].toNat ≤ 57) := hdig
            rw [← hcc] at hb
            generalize valL (s.data.toList.take k) = v at *
            clear hcc hdig HD hn
            by_cases hc : c < 48
            · have q1 : decide ((c : Int) < 48) = true := by simp; omega
              go_wp2
              go_ret
              exact ⟨by rw [HA.out]; rfl, rfl⟩
            · have q1 : decide ((c : Int) < 48) = false := by simp; omega
              have q2 : decide ((57 : Int) < (c : Int)) = true := by simp; omega
              go_wp2
              go_ret
              exact ⟨by rw [HA.out]; rfl, rfl⟩
        · obtain rfl : k = s.size := by omega
          have hd : ∀ c ∈ s.data.toList, isDig c := by
            have := HD.out
            unfold DigsTo at this
            rwa [List.take_of_length_le (by rw [sl_len]; omega)] at this
          have hn := num_loop_yes s (by omega) (by omega) HZ.out hd
          have HA := hidM (numR_yes hn)
          have HB := hidM (numT_yes hn)
          have hv := digsTo_val s s.size HD.out (by omega)
          rw [List.take_of_length_le (by rw [sl_len]; omega)] at hv ⊢
          clear hn hd HD
          generalize valL s.data.toList = v at *
          go_wp2
          go_ret
          exact ⟨by rw [HA.out]; rfl, rfl⟩
    · obtain ⟨r, hr⟩ := s_head s (by omega)
      have hn : ¬ NumOk s.data.toList := fun h => by
        have h3 := h.head r (by rw [hr, h0])
        rw [hr, h3] at hl
        simp at hl; omega
      rw [numR_no hn]
      have g2 : (1 : Int) < (s.size : Int) := by omega
      clear hn hl hr
      go_enter Tryd.func40, Tryd.ntmps40
      go_wp2
      go_ret
      exact ⟨rfl, rfl⟩
  · have c0 : ((s[0].toNat : Int) == 48) = false := by
      refine beq_false_of_ne fun h => h0 ?_
      rw [← UInt8.toNat_inj]
      show s[0].toNat = 48
      omega
    have c1 : (s[0].toNat : Int) ≠ 48 := by simpa using c0
    have HZ : Hid (s[0] = 48 → s.size = 1) := fun h => absurd h h0
    clear hl h0
    go_enter Tryd.func40, Tryd.ntmps40
    go_wp2
    go_loopw [3, 4] (fun v i wr => ∃ (k : Nat), k ≤ s.size ∧ i = .int .i64 k ∧ v = .int .i64 (valL (s.data.toList.take k) : Nat) ∧ DigsTo s k ∧ wr = w) (fun _ i _ => s.size - (intOf i).toNat)
    case atStart => exact ⟨0, Nat.zero_le _, rfl, rfl, digsTo_zero s, rfl⟩
    case round =>
      obtain ⟨k, hk, rfl, rfl, hd, rfl⟩ := hrel
      have HD := hidM hd
      clear hd
      by_cases hlt : k < s.size
      · have kk : (k : Int) < (s.size : Int) := by omega
        have hv := digsTo_val s k HD.out (by omega)
        obtain ⟨c, hcc⟩ : ∃ c, c = s[k].toNat := ⟨_, rfl⟩
        have r0 : (s[k].toNat : Int) = (c : Int) := by omega
        by_cases hdig : isDig s[k]
        · have HN := hidM (digsTo_next s k hlt HD.out hdig)
          have HV := hidM (val_next s k hlt)
          have hb : 48 ≤ s[k].toNat ∧ s[k].toNat ≤ 57 := hdig
          rw [← hcc] at HV hb
          obtain ⟨hb1, hb2⟩ := hb
          generalize valL (s.data.toList.take k) = v at *
          clear hcc hdig HD
          have q1 : decide ((c : Int) < 48) = false := by simp; omega
          have q2 : decide ((57 : Int) < (c : Int)) = false := by simp; omega
          go_wp2
          go_roundw
          case rel => exact ⟨k + 1, by omega, by go_num, by rw [HV.out]; go_num, HN.out, trivial⟩
          case measure => (show s.size - ((k : Int) + 1).toNat < s.size - ((k : Int)).toNat); omega
        · have hn := num_not_digit s k hlt hdig
          have HA := hidM (numR_no hn)
          have HB := hidM (numT_no hn)
          have hb : ¬ (48 ≤ s[k].toNat ∧ s[k].toNat ≤ 57) := hdig
          rw [← hcc] at hb
          generalize valL (s.data.toList.take k) = v at *
          clear hcc hdig HD hn
          by_cases hc : c < 48
          · have q1 : decide ((c : Int) < 48) = true := by simp; omega
            go_wp2
            go_ret
            exact ⟨by rw [HA.out]; rfl, rfl⟩
          · have q1 : decide ((c : Int) < 48) = false := by simp; omega
            have q2 : decide ((57 : Int) < (c : Int)) = true := by simp; omega
            go_wp2
            go_ret
            exact ⟨by rw [HA.out]; rfl, rfl⟩
      · obtain rfl : k = s.size := by omega
        have hd : ∀ c ∈ s.data.toList, isDig c := by
          have := HD.out
          unfold DigsTo at this
          rwa [List.take_of_length_le (by rw [sl_len]; omega)] at this
        have hn := num_loop_yes s (by omega) (by omega) HZ.out hd
        have HA := hidM (numR_yes hn)
        have HB := hidM (numT_yes hn)
        have hv := digsTo_val s s.size HD.out (by omega)
        rw [List.take_of_length_le (by rw [sl_len]; omega)] at hv ⊢
        clear hn hd HD
        generalize valL s.data.toList = v at *
        go_wp2
        go_ret
        exact ⟨by rw [HA.out]; rfl, rfl⟩

end Go.Proofs.YtolohndbbnbfbaaDoor
