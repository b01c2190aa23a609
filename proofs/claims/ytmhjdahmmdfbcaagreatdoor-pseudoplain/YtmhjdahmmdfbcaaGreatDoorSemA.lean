/-
  Walks of semver: digit, letter, digits, word, number, preWord; CutPrefix at v.
-/
import Derived.Test.YtmhjdahmmdfbcaaGreatDoorShelf
import Derived.Test.YtmhjdahmmdfbcaaGreatDoorChecked
import Derived.Test.YtmhjdahmmdfbcaaGreatDoorRows
import Derived.WalkKit
import Derived.WalkSpells
import Derived.WalkLawsBesides
import Derived.Laws.IdiomStrings
import Derived.Laws.BitsAllLaws
import Derived.Deep.QuietTactic
import Derived.BigQuiet
import Derived.Deep.RegionHeld3
import Derived.Deep.MidRow
import Derived.OpenShut
import Derived.OwnWalk
import Derived.BigRegion
import Derived.Deep.DeepCutAuto
import Derived.Lib.Strings
namespace Go.Proofs.YtmhjdahmmdfbcaaGreatDoor
open Go.RowKit
theorem hidM {p : Prop} (h : p) : Hid p := h
theorem below_drewN {B : Nat} {w w' : World} (h : Below B w w') (n : Nat) : Below B w (w'.drewN n) := h.trans ⟨rfl, rfl, rfl, by simp, fun k _ => by simp⟩
theorem box_kept {w w' : World} {b : Nat} {o : Obj} (h : w.heap[b]? = some o) (hb : Below w.heap.size w w') : w'.heap[b]? = some o := by
  rw [hb.block b (Array.getElem?_eq_some_iff.1 h).1, h]
theorem ba_list (s : ByteArray) (k : Nat) (h : k < s.size) : s.data.toList[k]? = some s[k] := by
  rw [List.getElem?_eq_getElem (by rw [Array.length_toList]; exact h)]
  rfl
theorem bytes_ext {a b : ByteArray} (h : a.data.toList = b.data.toList) : a = b := ByteArray.ext (Array.toList_inj.1 h)
def digC (c : UInt8) : Bool := decide (48 ≤ c.toNat ∧ c.toNat ≤ 57)
def letC (c : UInt8) : Bool := decide (97 ≤ c.toNat ∧ c.toNat ≤ 122) || decide (65 ≤ c.toNat ∧ c.toNat ≤ 90)
def wordC (c : UInt8) : Bool := digC c || letC c || c == 45
def digL (l : List UInt8) : Bool := l.all digC && !l.isEmpty
def wordL (l : List UInt8) : Bool := l.all wordC && !l.isEmpty
def numL (l : List UInt8) : Bool := digL l && (l.length == 1 || l.getD 0 0 != 48)
def preL (l : List UInt8) : Bool := wordL l && (!digL l || numL l)
set_option maxRecDepth 100000 in
theorem digit_any (c : UInt8) (w : World) : Calls Tryz.prog 77 #[.int .u8 (c.toNat : Int)] w fun e w' => e = .returned (.bool (digC c)) ∧ w' = w := by
  by_cases h : 48 ≤ c.toNat
  · have b : decide ((48 : Int) ≤ (c.toNat : Int)) = true := by simp; omega
    have hr : digC c = decide ((c.toNat : Int) ≤ 57) := by
      unfold digC; rw [decide_eq_decide]; omega
    rw [hr]
    go_enter Tryz.func77, Tryz.ntmps77
    go_wp2
    go_ret
    exact ⟨rfl, rfl⟩
  · have b : decide ((48 : Int) ≤ (c.toNat : Int)) = false := by simp; omega
    have hr : digC c = false := decide_eq_false fun g => h g.1
    rw [hr]
    go_enter Tryz.func77, Tryz.ntmps77
    go_wp2
    go_ret
    exact ⟨rfl, rfl⟩
set_option maxRecDepth 100000 in
theorem letter_any (c : UInt8) (w : World) : Calls Tryz.prog 78 #[.int .u8 (c.toNat : Int)] w fun e w' => e = .returned (.bool (letC c)) ∧ w' = w := by
  obtain ⟨n, hn⟩ : ∃ n, n = c.toNat := ⟨_, rfl⟩
  have hr : letC c = (decide (97 ≤ n ∧ n ≤ 122) || decide (65 ≤ n ∧ n ≤ 90)) := by rw [hn]; rfl
  rw [hr, ← hn]
  clear hr hn
  by_cases h1 : 97 ≤ n
  · have b1 : decide ((97 : Int) ≤ (n : Int)) = true := by simp; omega
    by_cases h2 : n ≤ 122
    · have b2 : decide ((n : Int) ≤ 122) = true := by simp; omega
      rw [decide_eq_true (show 97 ≤ n ∧ n ≤ 122 from ⟨h1, h2⟩)]
      go_enter Tryz.func78, Tryz.ntmps78
      go_wp2
      go_ret
      exact ⟨rfl, rfl⟩
    · have b2 : decide ((n : Int) ≤ 122) = false := by simp; omega
      have b3 : decide ((65 : Int) ≤ (n : Int)) = true := by simp; omega
      have b4 : decide ((n : Int) ≤ 90) = false := by simp; omega
      rw [decide_eq_false (show ¬ (97 ≤ n ∧ n ≤ 122) by omega), decide_eq_false (show ¬ (65 ≤ n ∧ n ≤ 90) by omega)]
      go_enter Tryz.func78, Tryz.ntmps78
      go_wp2
      go_ret
      exact ⟨rfl, rfl⟩
  · have b1 : decide ((97 : Int) ≤ (n : Int)) = false := by simp; omega
    rw [decide_eq_false (show ¬ (97 ≤ n ∧ n ≤ 122) by omega)]
    by_cases h3 : 65 ≤ n
    · have b3 : decide ((65 : Int) ≤ (n : Int)) = true := by simp; omega
      have hr : (false || decide (65 ≤ n ∧ n ≤ 90)) = decide ((n : Int) ≤ 90) := by rw [Bool.false_or, decide_eq_decide]; omega
      rw [hr]
      go_enter Tryz.func78, Tryz.ntmps78
      go_wp2
      go_ret
      exact ⟨rfl, rfl⟩
    · have b3 : decide ((65 : Int) ≤ (n : Int)) = false := by simp; omega
      rw [decide_eq_false (show ¬ (65 ≤ n ∧ n ≤ 90) by omega)]
      go_enter Tryz.func78, Tryz.ntmps78
      go_wp2
      go_ret
      exact ⟨rfl, rfl⟩
theorem empty_beq (s : ByteArray) : s.toList.isEmpty = s.data.toList.isEmpty := by rw [Lib.toList_data]
theorem all_no {p : UInt8 → Bool} {s : ByteArray} {k : Nat} (hk : k < s.size) (h : p s[k] = false) : s.data.toList.all p = false := by
  rw [List.all_eq_false]
  exact ⟨s[k], List.mem_of_getElem? (ba_list s k hk), by rw [h]; exact Bool.false_ne_true⟩
theorem all_yes {p : UInt8 → Bool} {s : ByteArray} (h : ∀ j (hj : j < s.size), p s[j] = true) : s.data.toList.all p = true := by
  rw [List.all_eq_true]
  intro c hc
  obtain ⟨j, hj, rfl⟩ := List.getElem_of_mem hc
  exact h j (by rw [Array.length_toList] at hj; exact hj)
set_option maxHeartbeats 1000000 in
set_option maxRecDepth 100000 in
theorem digits_any (s : ByteArray) (w : World) (hs : s.size ≤ 9223372036854775807) : Calls Tryz.prog 76 #[.string s] w fun e w' => e = .returned (.bool (digL s.data.toList)) ∧ w' = w := by
  have HE := hidM (empty_beq s)
  go_enter Tryz.func76, Tryz.ntmps76
  go_wp2
  go_loopw [3, 6] (fun _ iv wr => ∃ k : Nat, k ≤ s.size ∧ iv = .int .i64 (k : Int) ∧ (∀ j (hj : j < s.size), j < k → digC s[j] = true) ∧ w = wr) (fun _ i _ => s.size - (intOf i).toNat)
  case atStart => exact ⟨0, Nat.zero_le _, rfl, fun j _ hj => by omega, rfl⟩
  case round =>
    obtain ⟨k, hk, rfl, hno, hwr⟩ := hrel
    subst hwr
    have HNO := hidM hno
    clear hno
    by_cases hlt : k < s.size
    · have gk : (k : Int) < (s.size : Int) := by omega
      have HDI := hidM (digit_any s[k] w)
      cases hd : digC s[k] with
      | false =>
        have HR : Hid (digL s.data.toList = false) := by unfold Hid digL; rw [all_no hlt hd]; rfl
        rw [hd] at HDI
        clear hd
        go_wp2_with fail
        refine HDI.out.mono ?_
        rintro _ w1 ⟨rfl, h1⟩
        rw [h1]
        go_wp2
        go_ret
        exact ⟨by rw [HR.out]; rfl, rfl⟩
      | true =>
        have HNX : Hid (∀ j (hj : j < s.size), j < k + 1 → digC s[j] = true) := fun j hj hjk => by
          rcases Nat.lt_or_ge j k with h | h
          · exact HNO.out j hj h
          · obtain rfl : j = k := by omega
            exact hd
        rw [hd] at HDI
        clear hd
        go_wp2_with fail
        refine HDI.out.mono ?_
        rintro _ w1 ⟨rfl, h1⟩
        rw [h1]
        clear h1
        go_wp2
        go_roundw
        case rel => exact ⟨k + 1, by omega, by go_num, HNX.out, by first | rfl | trivial⟩
        case measure => simp [intOf]; omega
    · have gk : ¬ (k : Int) < (s.size : Int) := by omega
      have HR : Hid (digL s.data.toList = !s.toList.isEmpty) := by
        unfold Hid digL
        rw [all_yes (fun j hj => HNO.out j hj (by omega)), HE.out]; rfl
      go_wp2
      go_ret
      exact ⟨by rw [HR.out]; rfl, rfl⟩
set_option maxHeartbeats 2000000 in
set_option maxRecDepth 100000 in
theorem word_any (s : ByteArray) (w : World) (hs : s.size ≤ 9223372036854775807) : Calls Tryz.prog 49 #[.string s] w fun e w' => e = .returned (.bool (wordL s.data.toList)) ∧ w' = w := by
  have HE := hidM (empty_beq s)
  go_enter Tryz.func49, Tryz.ntmps49
  go_wp2
  go_loopw [3, 4, 7] (fun _ _ iv wr => ∃ k : Nat, k ≤ s.size ∧ iv = .int .i64 (k : Int) ∧ (∀ j (hj : j < s.size), j < k → wordC s[j] = true) ∧ w = wr) (fun _ _ i _ => s.size - (intOf i).toNat)
  case atStart => exact ⟨0, Nat.zero_le _, rfl, fun j _ hj => by omega, rfl⟩
  case round =>
    obtain ⟨k, hk, rfl, hno, hwr⟩ := hrel
    subst hwr
    have HNO := hidM hno
    clear hno
    by_cases hlt : k < s.size
    · have gk : (k : Int) < (s.size : Int) := by omega
      have HDI := hidM (digit_any s[k] w)
      have HLE := hidM (letter_any s[k] w)
      have HNX : Hid (wordC s[k] = true → ∀ j (hj : j < s.size), j < k + 1 → wordC s[j] = true) := fun hw j hj hjk => by
        rcases Nat.lt_or_ge j k with h | h
        · exact HNO.out j hj h
        · obtain rfl : j = k := by omega
          exact hw
      have HWC : Hid (wordC s[k] = (digC s[k] || letC s[k] || s[k] == 45)) := rfl
      cases hd : digC s[k] with
      | true =>
        rw [hd] at HDI HWC
        have HN2 := hidM (HNX.out (by rw [HWC.out]; rfl))
        clear hd
        go_wp2_with fail
        refine HDI.out.mono ?_
        rintro _ w1 ⟨rfl, h1⟩
        rw [h1]
        clear h1
        go_wp2
        go_roundw
        case rel => exact ⟨k + 1, by omega, by go_num, HN2.out, by first | rfl | trivial⟩
        case measure => simp [intOf]; omega
      | false =>
        rw [hd] at HDI HWC
        clear hd
        cases hl : letC s[k] with
        | true =>
          rw [hl] at HLE HWC
          have HN2 := hidM (HNX.out (by rw [HWC.out]; rfl))
          clear hl
          go_wp2_with fail
          refine HDI.out.mono ?_
          rintro _ w1 ⟨rfl, h1⟩
          rw [h1]
          clear h1
          go_wp2_with fail
          refine HLE.out.mono ?_
          rintro _ w2 ⟨rfl, h1⟩
          rw [h1]
          clear h1
          go_wp2
          go_roundw
          case rel => exact ⟨k + 1, by omega, by go_num, HN2.out, by first | rfl | trivial⟩
          case measure => simp [intOf]; omega
        | false =>
          rw [hl] at HLE HWC
          clear hl
          by_cases h45 : s[k] = 45
          · have b45 : ((s[k].toNat : Int) == 45) = true := by rw [h45]; rfl
            have HN2 := hidM (HNX.out (by rw [HWC.out, h45]; rfl))
            clear h45
            go_wp2_with fail
            refine HDI.out.mono ?_
            rintro _ w1 ⟨rfl, h1⟩
            rw [h1]
            clear h1
            go_wp2_with fail
            refine HLE.out.mono ?_
            rintro _ w2 ⟨rfl, h1⟩
            rw [h1]
            clear h1
            go_wp2
            go_roundw
            case rel => exact ⟨k + 1, by omega, by go_num, HN2.out, by first | rfl | trivial⟩
            case measure => simp [intOf]; omega
          · have h45n : ¬ s[k].toNat = 45 := fun e => h45 (UInt8.toNat_inj.1 (by rw [e]; rfl))
            have b45 : ((s[k].toNat : Int) == 45) = false := by simp; omega
            have HR : Hid (wordL s.data.toList = false) := by
              unfold Hid wordL
              rw [all_no hlt (by rw [HWC.out]; simp [h45])]; rfl
            clear h45
            go_wp2_with fail
            refine HDI.out.mono ?_
            rintro _ w1 ⟨rfl, h1⟩
            rw [h1]
            clear h1
            go_wp2_with fail
            refine HLE.out.mono ?_
            rintro _ w2 ⟨rfl, h1⟩
            rw [h1]
            clear h1
            go_wp2
            go_ret
            exact ⟨by rw [HR.out]; rfl, rfl⟩
    · have gk : ¬ (k : Int) < (s.size : Int) := by omega
      have HR : Hid (wordL s.data.toList = !s.toList.isEmpty) := by
        unfold Hid wordL
        rw [all_yes (fun j hj => HNO.out j hj (by omega)), HE.out]; rfl
      go_wp2
      go_ret
      exact ⟨by rw [HR.out]; rfl, rfl⟩
theorem size_len (s : ByteArray) : s.data.toList.length = s.size := Array.length_toList
set_option maxHeartbeats 1000000 in
set_option maxRecDepth 100000 in
theorem number_any (s : ByteArray) (w : World) (hs : s.size ≤ 9223372036854775807) : Calls Tryz.prog 50 #[.string s] w fun e w' => e = .returned (.bool (numL s.data.toList)) ∧ w' = w := by
  have HD := hidM (digits_any s w hs)
  have HR : Hid (numL s.data.toList = (digL s.data.toList && (s.data.toList.length == 1 || s.data.toList.getD 0 0 != 48))) := rfl
  cases hd : digL s.data.toList with
  | false =>
    rw [hd] at HD HR
    clear hd
    go_enter Tryz.func50, Tryz.ntmps50
    go_wp2_with fail
    refine HD.out.mono ?_
    rintro _ _ ⟨rfl, rfl⟩
    go_wp2
    go_ret
    exact ⟨by rw [HR.out]; rfl, rfl⟩
  | true =>
    have hpos : 0 < s.size := by
      rw [← size_len]
      unfold digL at hd
      cases hl : s.data.toList with
      | nil => rw [hl] at hd; cases hd
      | cons _ _ => simp
    have h0 : s.data.toList.getD 0 0 = s[0] := by rw [List.getD_eq_getElem?_getD, ba_list s 0 hpos]; rfl
    rw [hd, h0, size_len] at HR
    rw [hd] at HD
    clear hd h0
    have p0 : (0 : Int) < (s.size : Int) := by omega
    by_cases h1 : s.size = 1
    · have b1 : ((s.size : Int) == 1) = true := by simp; omega
      have b2 : (s.size == 1) = true := by simp; omega
      have HF : Hid (numL s.data.toList = true) := by unfold Hid; rw [HR.out, b2]; rfl
      go_enter Tryz.func50, Tryz.ntmps50
      go_wp2_with fail
      refine HD.out.mono ?_
      rintro _ _ ⟨rfl, rfl⟩
      go_wp2
      go_ret
      exact ⟨by rw [HF.out]; rfl, rfl⟩
    · have b1 : ((s.size : Int) == 1) = false := by simp; omega
      have b2 : (s.size == 1) = false := by simp; omega
      rw [b2] at HR
      by_cases h48 : s[0] = 48
      · have b3 : ((s[0].toNat : Int) == 48) = true := by rw [h48]; rfl
        have b4 : ((s[0].toNat : Int) != 48) = false := by rw [h48]; rfl
        have HF : Hid (numL s.data.toList = false) := by unfold Hid; rw [HR.out, h48]; rfl
        clear h48
        go_enter Tryz.func50, Tryz.ntmps50
        go_wp2_with fail
        refine HD.out.mono ?_
        rintro _ _ ⟨rfl, rfl⟩
        go_wp2
        go_ret
        exact ⟨by rw [HF.out]; rfl, rfl⟩
      · have h48n : ¬ s[0].toNat = 48 := fun e => h48 (UInt8.toNat_inj.1 (by rw [e]; rfl))
        have b3 : ((s[0].toNat : Int) == 48) = false := by simp; omega
        have b4 : ((s[0].toNat : Int) != 48) = true := by simp; omega
        have HF : Hid (numL s.data.toList = true) := by unfold Hid; rw [HR.out]; simp [h48]
        clear h48
        go_enter Tryz.func50, Tryz.ntmps50
        go_wp2_with fail
        refine HD.out.mono ?_
        rintro _ _ ⟨rfl, rfl⟩
        go_wp2
        go_ret
        exact ⟨by rw [HF.out]; rfl, rfl⟩
set_option maxHeartbeats 1000000 in
set_option maxRecDepth 100000 in
theorem preWord_any (s : ByteArray) (w : World) (hs : s.size ≤ 9223372036854775807) : Calls Tryz.prog 48 #[.string s] w fun e w' => e = .returned (.bool (preL s.data.toList)) ∧ w' = w := by
  have HW := hidM (word_any s w hs)
  have HD := hidM (digits_any s w hs)
  have HN := hidM (number_any s w hs)
  unfold preL
  generalize wordL s.data.toList = a at *
  generalize digL s.data.toList = b at *
  generalize numL s.data.toList = c at *
  cases a with
  | false =>
    go_enter Tryz.func48, Tryz.ntmps48
    go_wp2_with fail
    refine HW.out.mono ?_
    rintro _ _ ⟨rfl, rfl⟩
    go_wp2
    go_ret
    exact ⟨rfl, rfl⟩
  | true =>
    cases b with
    | false =>
      go_enter Tryz.func48, Tryz.ntmps48
      go_wp2_with fail
      refine HW.out.mono ?_
      rintro _ w1 ⟨rfl, h1⟩
      rw [h1]
      go_wp2_with fail
      refine HD.out.mono ?_
      rintro _ w2 ⟨rfl, h2⟩
      rw [h2]
      go_wp2
      go_ret
      exact ⟨rfl, rfl⟩
    | true =>
      go_enter Tryz.func48, Tryz.ntmps48
      go_wp2_with fail
      refine HW.out.mono ?_
      rintro _ w1 ⟨rfl, h1⟩
      rw [h1]
      go_wp2_with fail
      refine HD.out.mono ?_
      rintro _ w2 ⟨rfl, h2⟩
      rw [h2]
      go_wp2_with fail
      refine HN.out.mono ?_
      rintro _ w3 ⟨rfl, h3⟩
      rw [h3]
      go_wp2
      go_ret
      exact ⟨rfl, rfl⟩
end Go.Proofs.YtmhjdahmmdfbcaaGreatDoor
