/-
  Number and its document's twin.
-/
import Derived.Test.YtolohndbbnbfbaaDoorChecked
import Derived.Test.YtolohndbbnbfbaaDoorNumM
import Derived.WalkKit
import Derived.WalkSpells
import Derived.WalkLawsBesides
import Derived.Laws.IdiomStrings
namespace Go.Proofs.YtolohndbbnbfbaaDoor
open Go.RowKit

open Classical in
noncomputable def numT (l : List UInt8) : Bool := decide (NumOk l)
open Classical in
noncomputable def numV (l : List UInt8) : Nat := if NumOk l then valL l else 0
open Classical in
noncomputable def numR (l : List UInt8) : Int := if NumOk l then (valL l : Int) else -1
theorem numT_yes {l : List UInt8} (h : NumOk l) : numT l = true := by unfold numT; simp [h]
theorem numT_no {l : List UInt8} (h : ¬ NumOk l) : numT l = false := by unfold numT; simp [h]
theorem numV_yes {l : List UInt8} (h : NumOk l) : numV l = valL l := by unfold numV; rw [if_pos h]
theorem numV_no {l : List UInt8} (h : ¬ NumOk l) : numV l = 0 := by unfold numV; rw [if_neg h]
theorem numR_yes {l : List UInt8} (h : NumOk l) : numR l = valL l := by unfold numR; rw [if_pos h]
theorem numR_no {l : List UInt8} (h : ¬ NumOk l) : numR l = -1 := by unfold numR; rw [if_neg h]
theorem sl_len (s : ByteArray) : s.data.toList.length = s.size := by simp
theorem take_one (s : ByteArray) (k : Nat) (h : k < s.size) : s.data.toList.take (k + 1) = s.data.toList.take k ++ [s[k]] := by
  rw [List.take_succ_eq_append_getElem (by simpa using h)]; rfl
theorem s_head (s : ByteArray) (h : 0 < s.size) : ∃ r, s.data.toList = s[0] :: r := by
  cases hl : s.data.toList with
  | nil => have := sl_len s; rw [hl] at this; simp at this; omega
  | cons a r =>
    refine ⟨r, ?_⟩
    have : s[0] = s.data.toList[0]'(by rw [sl_len]; omega) := rfl
    rw [this]; simp [hl]

theorem num_loop_yes (s : ByteArray) (h1 : 1 ≤ s.size) (h9 : s.size ≤ 9) (h0 : s[0] = 48 → s.size = 1) (hd : ∀ c ∈ s.data.toList, isDig c) : NumOk s.data.toList := by
  obtain ⟨r, hr⟩ := s_head s (by omega)
  refine ⟨by rw [hr]; simp, by rw [sl_len]; omega, fun q hq => ?_, hd⟩
  rw [hr] at hq
  simp only [List.cons.injEq] at hq
  have h2 := h0 hq.1
  have h3 := sl_len s
  rw [hr] at h3
  simp only [List.length_cons] at h3
  rw [← hq.2]
  exact List.eq_nil_of_length_eq_zero (by omega)
theorem num_not_digit (s : ByteArray) (k : Nat) (h : k < s.size) (hd : ¬ isDig s[k]) : ¬ NumOk s.data.toList := fun hn =>
  hd (hn.digs _ (by rw [show s[k] = s.data.toList[k]'(by rw [sl_len]; omega) from rfl]; exact List.getElem_mem _))

theorem hidM {p : Prop} (h : p) : Hid p := h
def DigsTo (s : ByteArray) (k : Nat) : Prop := ∀ c ∈ s.data.toList.take k, isDig c
theorem digsTo_zero (s : ByteArray) : DigsTo s 0 := by intro c hc; simp at hc
theorem digsTo_val (s : ByteArray) (k : Nat) (h : DigsTo s k) (h9 : k ≤ 9) : valL (s.data.toList.take k) < 1000000000 := by
  have h1 := num_lt _ h
  have h2 : (s.data.toList.take k).length ≤ 9 := by rw [List.length_take]; omega
  have h3 : 10 ^ (s.data.toList.take k).length ≤ 10 ^ 9 := Nat.pow_le_pow_right (by decide) h2
  have : (10 : Nat) ^ 9 = 1000000000 := by decide
  omega
theorem digsTo_next (s : ByteArray) (k : Nat) (h : k < s.size) (hd : DigsTo s k) (hk : isDig s[k]) : DigsTo s (k + 1) := by
  intro c hc
  rw [take_one s k h] at hc
  rcases List.mem_append.1 hc with hc | hc
  · exact hd c hc
  · rw [List.mem_singleton] at hc; rw [hc]; exact hk
theorem val_next (s : ByteArray) (k : Nat) (h : k < s.size) : valL (s.data.toList.take (k + 1)) = 10 * valL (s.data.toList.take k) + (s[k].toNat - 48) := by
  rw [take_one s k h, valL_snoc]
set_option maxHeartbeats 1600000 in
theorem number_any (s : ByteArray) (w : World) :
    Calls Tryd.prog 39 #[.string s] w fun e w' => e = .returned (.tuple #[.int .i64 (numV s.data.toList : Nat), .bool (numT s.data.toList)]) ∧ w' = w := by
  have hl := sl_len s
  by_cases hE : s.size = 0
  · have e0 : s.toList = [] := by rw [ByteArray.toList_eq]; exact List.eq_nil_of_length_eq_zero (by omega)
    have hn : ¬ NumOk s.data.toList := fun h => h.ne (by rw [← ByteArray.toList_eq]; exact e0)
    rw [numV_no hn, numT_no hn]
    clear hn hl
    go_enter Tryd.func39, Tryd.ntmps39
    go_wp2
    go_ret2
    exact ⟨rfl, rfl⟩
  have e1 : ¬ s.toList = [] := by
    rw [ByteArray.toList_eq]; intro h; rw [h] at hl; simp at hl; omega
  have e2 : s.toList.isEmpty = false := by cases h : s.toList <;> simp_all
  by_cases h9 : 9 < s.size
  · have hn : ¬ NumOk s.data.toList := fun h => by have := h.len; omega
    rw [numV_no hn, numT_no hn]
    have g9 : (9 : Int) < (s.size : Int) := by omega
    clear hn hl
    go_enter Tryd.func39, Tryd.ntmps39
    go_wp2
    go_ret2
    exact ⟨rfl, rfl⟩
  have hp : 0 < s.size := by omega
  have g9 : ¬ (9 : Int) < (s.size : Int) := by omega
  by_cases h0 : s[0] = 48
  · have c0 : (s[0].toNat : Int) = 48 := by rw [h0]; rfl
    by_cases hone : s.size = 1
    · have hyes : (s.toList == [48]) = true := by
        rw [ByteArray.toList_eq]
        obtain ⟨r, hr⟩ := s_head s (by omega)
        have h3 := hl
        rw [hr] at h3
        simp only [List.length_cons] at h3
        have hr0 : r = [] := List.eq_nil_of_length_eq_zero (by omega)
        rw [hr, hr0, h0]; rfl
      have HZ : Hid (s[0] = 48 → s.size = 1) := fun _ => hone
      clear hl h0 hone
      go_enter Tryd.func39, Tryd.ntmps39
      go_wp2
      go_loopw [4, 5, 24] (fun v _ i wr => ∃ (k : Nat), k ≤ s.size ∧ i = .int .i64 k ∧ v = .int .i64 (valL (s.data.toList.take k) : Nat) ∧ DigsTo s k ∧ wr = w) (fun _ _ i _ => s.size - (intOf i).toNat)
      case atStart => exact ⟨0, Nat.zero_le _, rfl, rfl, digsTo_zero s, rfl⟩
      case round =>
        obtain ⟨k, hk, rfl, rfl, hd, rfl⟩ := hrel
        have HD := hidM hd
        clear hd
        by_cases hlt : k < s.size
        · have kk : (k : Int) < (s.size : Int) := by omega
          have hv := digsTo_val s k HD.out (by omega)
          obtain ⟨c, hcc⟩ : ∃ c, c = s[k].toNat := ⟨_, rfl⟩
          have r0 : (s[k].toNat : Int) = (c : Int) := by omega
          by_cases hdig : isDig s[k]
          · have HN := hidM (digsTo_next s k hlt HD.out hdig)
            have HV := hidM (val_next s k hlt)
            have hb : 48 ≤ s[k].toNat ∧ s[k].toNat ≤ 57 := hdig
            rw [← hcc] at HV hb
            obtain ⟨hb1, hb2⟩ := hb
            generalize valL (s.data.toList.take k) = v at *
            clear hcc hdig HD
            have q1 : decide ((c : Int) < 48) = false := by simp; omega
            have q2 : decide ((57 : Int) < (c : Int)) = false := by simp; omega
            go_wp2
            go_roundw
            case rel => exact ⟨k + 1, by omega, by go_num, by rw [HV.out]; go_num, HN.out, trivial⟩
            case measure => (show s.size - ((k : Int) + 1).toNat < s.size - ((k : Int)).toNat); omega
          · have hn := num_not_digit s k hlt hdig
            have HA := hidM (numV_no hn)
            have HB := hidM (numT_no hn)
            have hb : ¬ (48 ≤ s[k].toNat ∧ s[k].toNat ≤ 57) := hdig
            rw [← hcc] at hb
            generalize valL (s.data.toList.take k) = v at *
            clear hcc hdig HD hn
            by_cases hc : c < 48
            · have q1 : decide ((c : Int) < 48) = true := by simp; omega
              go_wp2
              go_ret2
              exact ⟨by rw [HA.out, HB.out]; rfl, rfl⟩
            · have q1 : decide ((c : Int) < 48) = false := by simp; omega
              have q2 : decide ((57 : Int) < (c : Int)) = true := by simp; omega
              go_wp2
              go_ret2
              exact ⟨by rw [HA.out, HB.out]; rfl, rfl⟩
        · obtain rfl : k = s.size := by omega
          have hd : ∀ c ∈ s.data.toList, isDig c := by
            have := HD.out
            unfold DigsTo at this
            rwa [List.take_of_length_le (by rw [sl_len]; omega)] at this
          have hn := num_loop_yes s (by omega) (by omega) HZ.out hd
          have HA := hidM (numV_yes hn)
          have HB := hidM (numT_yes hn)
          have hv := digsTo_val s s.size HD.out (by omega)
          rw [List.take_of_length_le (by rw [sl_len]; omega)] at hv ⊢
          clear hn hd HD
          generalize valL s.data.toList = v at *
          go_wp2
          go_ret2
          exact ⟨by rw [HA.out, HB.out]; rfl, rfl⟩
    · obtain ⟨r, hr⟩ := s_head s (by omega)
      have hn : ¬ NumOk s.data.toList := fun h => by
        have h3 := h.head r (by rw [hr, h0])
        rw [hr, h3] at hl
        simp at hl; omega
      rw [numV_no hn, numT_no hn]
      have hno : (s.toList == [48]) = false := by
        rw [ByteArray.toList_eq]
        refine Bool.eq_false_iff.2 fun h => ?_
        have h4 := congrArg List.length (eq_of_beq h)
        rw [hl] at h4; simp at h4; omega
      clear hn hl hr
      go_enter Tryd.func39, Tryd.ntmps39
      go_wp2
      go_ret2
      exact ⟨rfl, rfl⟩
  · have c0 : ((s[0].toNat : Int) == 48) = false := by
      refine beq_false_of_ne fun h => h0 ?_
      rw [← UInt8.toNat_inj]
      show s[0].toNat = 48
      omega
    have c1 : (s[0].toNat : Int) ≠ 48 := by simpa using c0
    have HZ : Hid (s[0] = 48 → s.size = 1) := fun h => absurd h h0
    clear hl h0
    go_enter Tryd.func39, Tryd.ntmps39
    go_wp2
    go_loopw [4, 5, 24] (fun v _ i wr => ∃ (k : Nat), k ≤ s.size ∧ i = .int .i64 k ∧ v = .int .i64 (valL (s.data.toList.take k) : Nat) ∧ DigsTo s k ∧ wr = w) (fun _ _ i _ => s.size - (intOf i).toNat)
    case atStart => exact ⟨0, Nat.zero_le _, rfl, rfl, digsTo_zero s, rfl⟩
    case round =>
      obtain ⟨k, hk, rfl, rfl, hd, rfl⟩ := hrel
      have HD := hidM hd
      clear hd
      by_cases hlt : k < s.size
      · have kk : (k : Int) < (s.size : Int) := by omega
        have hv := digsTo_val s k HD.out (by omega)
        obtain ⟨c, hcc⟩ : ∃ c, c = s[k].toNat := ⟨_, rfl⟩
        have r0 : (s[k].toNat : Int) = (c : Int) := by omega
        by_cases hdig : isDig s[k]
        · have HN := hidM (digsTo_next s k hlt HD.out hdig)
          have HV := hidM (val_next s k hlt)
          have hb : 48 ≤ s[k].toNat ∧ s[k].toNat ≤ 57 := hdig
          rw [← hcc] at HV hb
          obtain ⟨hb1, hb2⟩ := hb
          generalize valL (s.data.toList.take k) = v at *
          clear hcc hdig HD
          have q1 : decide ((c : Int) < 48) = false := by simp; omega
          have q2 : decide ((57 : Int) < (c : Int)) = false := by simp; omega
          go_wp2
          go_roundw
          case rel => exact ⟨k + 1, by omega, by go_num, by rw [HV.out]; go_num, HN.out, trivial⟩
          case measure => (show s.size - ((k : Int) + 1).toNat < s.size - ((k : Int)).toNat); omega
        · have hn := num_not_digit s k hlt hdig
          have HA := hidM (numV_no hn)
          have HB := hidM (numT_no hn)
          have hb : ¬ (48 ≤ s[k].toNat ∧ s[k].toNat ≤ 57) := hdig
          rw [← hcc] at hb
          generalize valL (s.data.toList.take k) = v at *
          clear hcc hdig HD hn
          by_cases hc : c < 48
          · have q1 : decide ((c : Int) < 48) = true := by simp; omega
            go_wp2
            go_ret2
            exact ⟨by rw [HA.out, HB.out]; rfl, rfl⟩
          · have q1 : decide ((c : Int) < 48) = false := by simp; omega
            have q2 : decide ((57 : Int) < (c : Int)) = true := by simp; omega
            go_wp2
            go_ret2
            exact ⟨by rw [HA.out, HB.out]; rfl, rfl⟩
      · obtain rfl : k = s.size := by omega
        have hd : ∀ c ∈ s.data.toList, isDig c := by
          have := HD.out
          unfold DigsTo at this
          rwa [List.take_of_length_le (by rw [sl_len]; omega)] at this
        have hn := num_loop_yes s (by omega) (by omega) HZ.out hd
        have HA := hidM (numV_yes hn)
        have HB := hidM (numT_yes hn)
        have hv := digsTo_val s s.size HD.out (by omega)
        rw [List.take_of_length_le (by rw [sl_len]; omega)] at hv ⊢
        clear hn hd HD
        generalize valL s.data.toList = v at *
        go_wp2
        go_ret2
        exact ⟨by rw [HA.out, HB.out]; rfl, rfl⟩

end Go.Proofs.YtolohndbbnbfbaaDoor
