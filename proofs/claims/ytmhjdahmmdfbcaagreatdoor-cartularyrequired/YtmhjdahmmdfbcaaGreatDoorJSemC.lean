/-
  Walks of semver: digit, letter, digits, word, number, preWord; CutPrefix at v.
  Walks: Cut at one byte, Split at full stops, CutPrefix of v, all.
  What Parse says; the boxes of its walk.
-/
import Derived.Test.YtmhjdahmmdfbcaaGreatDoorShelf
import Derived.Test.YtmhjdahmmdfbcaaGreatDoorChecked
import Derived.Test.YtmhjdahmmdfbcaaGreatDoorRows
import Derived.WalkKit
import Derived.WalkSpells
import Derived.WalkLawsBesides
import Derived.Laws.IdiomStrings
import Derived.Laws.BitsAllLaws
import Derived.Deep.QuietTactic
import Derived.BigQuiet
import Derived.Deep.RegionHeld3
import Derived.Deep.MidRow
import Derived.OpenShut
import Derived.OwnWalk
import Derived.BigRegion
import Derived.Deep.DeepCutAuto
import Derived.Lib.Strings
import Derived.Lib.SplitLaws
import Derived.ScopeJumps
import Derived.Laws.ResultCell
import Derived.Laws.AppendOwn
namespace Go.Proofs.YtmhjdahmmdfbcaaGreatDoor
open Go.RowKit
theorem hidM {p : Prop} (h : p) : Hid p := h
theorem below_drewN {B : Nat} {w w' : World} (h : Below B w w') (n : Nat) : Below B w (w'.drewN n) := h.trans ⟨rfl, rfl, rfl, by simp, fun k _ => by simp⟩
theorem box_kept {w w' : World} {b : Nat} {o : Obj} (h : w.heap[b]? = some o) (hb : Below w.heap.size w w') : w'.heap[b]? = some o := by
  rw [hb.block b (Array.getElem?_eq_some_iff.1 h).1, h]
theorem ba_list (s : ByteArray) (k : Nat) (h : k < s.size) : s.data.toList[k]? = some s[k] := by
  rw [List.getElem?_eq_getElem (by rw [Array.length_toList]; exact h)]
  rfl
theorem bytes_ext {a b : ByteArray} (h : a.data.toList = b.data.toList) : a = b := ByteArray.ext (Array.toList_inj.1 h)
def digC (c : UInt8) : Bool := decide (48 ≤ c.toNat ∧ c.toNat ≤ 57)
def letC (c : UInt8) : Bool := decide (97 ≤ c.toNat ∧ c.toNat ≤ 122) || decide (65 ≤ c.toNat ∧ c.toNat ≤ 90)
def wordC (c : UInt8) : Bool := digC c || letC c || c == 45
def digL (l : List UInt8) : Bool := l.all digC && !l.isEmpty
def wordL (l : List UInt8) : Bool := l.all wordC && !l.isEmpty
def numL (l : List UInt8) : Bool := digL l && (l.length == 1 || l.getD 0 0 != 48)
def preL (l : List UInt8) : Bool := wordL l && (!digL l || numL l)
set_option maxRecDepth 100000 in
theorem digit_any (c : UInt8) (w : World) : Calls Tryz.prog 77 #[.int .u8 (c.toNat : Int)] w fun e w' => e = .returned (.bool (digC c)) ∧ w' = w := by
  by_cases h : 48 ≤ c.toNat
  · have b : decide ((48 : Int) ≤ (c.toNat : Int)) = true := by simp; omega
    have hr : digC c = decide ((c.toNat : Int) ≤ 57) := by
      unfold digC; rw [decide_eq_decide]; omega
    rw [hr]
    go_enter Tryz.func77, Tryz.ntmps77
    go_wp2
    go_ret
    exact ⟨rfl, rfl⟩
  · have b : decide ((48 : Int) ≤ (c.toNat : Int)) = false := by simp; omega
    have hr : digC c = false := decide_eq_false fun g => h g.1
    rw [hr]
    go_enter Tryz.func77, Tryz.ntmps77
    go_wp2
    go_ret
    exact ⟨rfl, rfl⟩
set_option maxRecDepth 100000 in
theorem letter_any (c : UInt8) (w : World) : Calls Tryz.prog 78 #[.int .u8 (c.toNat : Int)] w fun e w' => e = .returned (.bool (letC c)) ∧ w' = w := by
  obtain ⟨n, hn⟩ : ∃ n, n = c.toNat := ⟨_, rfl⟩
  have hr : letC c = (decide (97 ≤ n ∧ n ≤ 122) || decide (65 ≤ n ∧ n ≤ 90)) := by rw [hn]; rfl
  rw [hr, ← hn]
  clear hr hn
  by_cases h1 : 97 ≤ n
  · have b1 : decide ((97 : Int) ≤ (n : Int)) = true := by simp; omega
    by_cases h2 : n ≤ 122
    · have b2 : decide ((n : Int) ≤ 122) = true := by simp; omega
      rw [decide_eq_true (show 97 ≤ n ∧ n ≤ 122 from ⟨h1, h2⟩)]
      go_enter Tryz.func78, Tryz.ntmps78
      go_wp2
      go_ret
      exact ⟨rfl, rfl⟩
    · have b2 : decide ((n : Int) ≤ 122) = false := by simp; omega
      have b3 : decide ((65 : Int) ≤ (n : Int)) = true := by simp; omega
      have b4 : decide ((n : Int) ≤ 90) = false := by simp; omega
      rw [decide_eq_false (show ¬ (97 ≤ n ∧ n ≤ 122) by omega), decide_eq_false (show ¬ (65 ≤ n ∧ n ≤ 90) by omega)]
      go_enter Tryz.func78, Tryz.ntmps78
      go_wp2
      go_ret
      exact ⟨rfl, rfl⟩
  · have b1 : decide ((97 : Int) ≤ (n : Int)) = false := by simp; omega
    rw [decide_eq_false (show ¬ (97 ≤ n ∧ n ≤ 122) by omega)]
    by_cases h3 : 65 ≤ n
    · have b3 : decide ((65 : Int) ≤ (n : Int)) = true := by simp; omega
      have hr : (false || decide (65 ≤ n ∧ n ≤ 90)) = decide ((n : Int) ≤ 90) := by rw [Bool.false_or, decide_eq_decide]; omega
      rw [hr]
      go_enter Tryz.func78, Tryz.ntmps78
      go_wp2
      go_ret
      exact ⟨rfl, rfl⟩
    · have b3 : decide ((65 : Int) ≤ (n : Int)) = false := by simp; omega
      rw [decide_eq_false (show ¬ (65 ≤ n ∧ n ≤ 90) by omega)]
      go_enter Tryz.func78, Tryz.ntmps78
      go_wp2
      go_ret
      exact ⟨rfl, rfl⟩
theorem empty_beq (s : ByteArray) : s.toList.isEmpty = s.data.toList.isEmpty := by rw [Lib.toList_data]
theorem all_no {p : UInt8 → Bool} {s : ByteArray} {k : Nat} (hk : k < s.size) (h : p s[k] = false) : s.data.toList.all p = false := by
  rw [List.all_eq_false]
  exact ⟨s[k], List.mem_of_getElem? (ba_list s k hk), by rw [h]; exact Bool.false_ne_true⟩
theorem all_yes {p : UInt8 → Bool} {s : ByteArray} (h : ∀ j (hj : j < s.size), p s[j] = true) : s.data.toList.all p = true := by
  rw [List.all_eq_true]
  intro c hc
  obtain ⟨j, hj, rfl⟩ := List.getElem_of_mem hc
  exact h j (by rw [Array.length_toList] at hj; exact hj)
set_option maxHeartbeats 1000000 in
set_option maxRecDepth 100000 in
theorem digits_any (s : ByteArray) (w : World) (hs : s.size ≤ 9223372036854775807) : Calls Tryz.prog 76 #[.string s] w fun e w' => e = .returned (.bool (digL s.data.toList)) ∧ w' = w := by
  have HE := hidM (empty_beq s)
  go_enter Tryz.func76, Tryz.ntmps76
  go_wp2
  go_loopw [3, 6] (fun _ iv wr => ∃ k : Nat, k ≤ s.size ∧ iv = .int .i64 (k : Int) ∧ (∀ j (hj : j < s.size), j < k → digC s[j] = true) ∧ w = wr) (fun _ i _ => s.size - (intOf i).toNat)
  case atStart => exact ⟨0, Nat.zero_le _, rfl, fun j _ hj => by omega, rfl⟩
  case round =>
    obtain ⟨k, hk, rfl, hno, hwr⟩ := hrel
    subst hwr
    have HNO := hidM hno
    clear hno
    by_cases hlt : k < s.size
    · have gk : (k : Int) < (s.size : Int) := by omega
      have HDI := hidM (digit_any s[k] w)
      cases hd : digC s[k] with
      | false =>
        have HR : Hid (digL s.data.toList = false) := by unfold Hid digL; rw [all_no hlt hd]; rfl
        rw [hd] at HDI
        clear hd
        go_wp2_with fail
        refine HDI.out.mono ?_
        rintro _ w1 ⟨rfl, h1⟩
        rw [h1]
        go_wp2
        go_ret
        exact ⟨by rw [HR.out]; rfl, rfl⟩
      | true =>
        have HNX : Hid (∀ j (hj : j < s.size), j < k + 1 → digC s[j] = true) := fun j hj hjk => by
          rcases Nat.lt_or_ge j k with h | h
          · exact HNO.out j hj h
          · obtain rfl : j = k := by omega
            exact hd
        rw [hd] at HDI
        clear hd
        go_wp2_with fail
        refine HDI.out.mono ?_
        rintro _ w1 ⟨rfl, h1⟩
        rw [h1]
        clear h1
        go_wp2
        go_roundw
        case rel => exact ⟨k + 1, by omega, by go_num, HNX.out, by first | rfl | trivial⟩
        case measure => simp [intOf]; omega
    · have gk : ¬ (k : Int) < (s.size : Int) := by omega
      have HR : Hid (digL s.data.toList = !s.toList.isEmpty) := by
        unfold Hid digL
        rw [all_yes (fun j hj => HNO.out j hj (by omega)), HE.out]; rfl
      go_wp2
      go_ret
      exact ⟨by rw [HR.out]; rfl, rfl⟩
set_option maxHeartbeats 2000000 in
set_option maxRecDepth 100000 in
theorem word_any (s : ByteArray) (w : World) (hs : s.size ≤ 9223372036854775807) : Calls Tryz.prog 49 #[.string s] w fun e w' => e = .returned (.bool (wordL s.data.toList)) ∧ w' = w := by
  have HE := hidM (empty_beq s)
  go_enter Tryz.func49, Tryz.ntmps49
  go_wp2
  go_loopw [3, 4, 7] (fun _ _ iv wr => ∃ k : Nat, k ≤ s.size ∧ iv = .int .i64 (k : Int) ∧ (∀ j (hj : j < s.size), j < k → wordC s[j] = true) ∧ w = wr) (fun _ _ i _ => s.size - (intOf i).toNat)
  case atStart => exact ⟨0, Nat.zero_le _, rfl, fun j _ hj => by omega, rfl⟩
  case round =>
    obtain ⟨k, hk, rfl, hno, hwr⟩ := hrel
    subst hwr
    have HNO := hidM hno
    clear hno
    by_cases hlt : k < s.size
    · have gk : (k : Int) < (s.size : Int) := by omega
      have HDI := hidM (digit_any s[k] w)
      have HLE := hidM (letter_any s[k] w)
      have HNX : Hid (wordC s[k] = true → ∀ j (hj : j < s.size), j < k + 1 → wordC s[j] = true) := fun hw j hj hjk => by
        rcases Nat.lt_or_ge j k with h | h
        · exact HNO.out j hj h
        · obtain rfl : j = k := by omega
          exact hw
      have HWC : Hid (wordC s[k] = (digC s[k] || letC s[k] || s[k] == 45)) := rfl
      cases hd : digC s[k] with
      | true =>
        rw [hd] at HDI HWC
        have HN2 := hidM (HNX.out (by rw [HWC.out]; rfl))
        clear hd
        go_wp2_with fail
        refine HDI.out.mono ?_
        rintro _ w1 ⟨rfl, h1⟩
        rw [h1]
        clear h1
        go_wp2
        go_roundw
        case rel => exact ⟨k + 1, by omega, by go_num, HN2.out, by first | rfl | trivial⟩
        case measure => simp [intOf]; omega
      | false =>
        rw [hd] at HDI HWC
        clear hd
        cases hl : letC s[k] with
        | true =>
          rw [hl] at HLE HWC
          have HN2 := hidM (HNX.out (by rw [HWC.out]; rfl))
          clear hl
          go_wp2_with fail
          refine HDI.out.mono ?_
          rintro _ w1 ⟨rfl, h1⟩
          rw [h1]
          clear h1
          go_wp2_with fail
          refine HLE.out.mono ?_
          rintro _ w2 ⟨rfl, h1⟩
          rw [h1]
          clear h1
          go_wp2
          go_roundw
          case rel => exact ⟨k + 1, by omega, by go_num, HN2.out, by first | rfl | trivial⟩
          case measure => simp [intOf]; omega
        | false =>
          rw [hl] at HLE HWC
          clear hl
          by_cases h45 : s[k] = 45
          · have b45 : ((s[k].toNat : Int) == 45) = true := by rw [h45]; rfl
            have HN2 := hidM (HNX.out (by rw [HWC.out, h45]; rfl))
            clear h45
            go_wp2_with fail
            refine HDI.out.mono ?_
            rintro _ w1 ⟨rfl, h1⟩
            rw [h1]
            clear h1
            go_wp2_with fail
            refine HLE.out.mono ?_
            rintro _ w2 ⟨rfl, h1⟩
            rw [h1]
            clear h1
            go_wp2
            go_roundw
            case rel => exact ⟨k + 1, by omega, by go_num, HN2.out, by first | rfl | trivial⟩
            case measure => simp [intOf]; omega
          · have h45n : ¬ s[k].toNat = 45 := fun e => h45 (UInt8.toNat_inj.1 (by rw [e]; rfl))
            have b45 : ((s[k].toNat : Int) == 45) = false := by simp; omega
            have HR : Hid (wordL s.data.toList = false) := by
              unfold Hid wordL
              rw [all_no hlt (by rw [HWC.out]; simp [h45])]; rfl
            clear h45
            go_wp2_with fail
            refine HDI.out.mono ?_
            rintro _ w1 ⟨rfl, h1⟩
            rw [h1]
            clear h1
            go_wp2_with fail
            refine HLE.out.mono ?_
            rintro _ w2 ⟨rfl, h1⟩
            rw [h1]
            clear h1
            go_wp2
            go_ret
            exact ⟨by rw [HR.out]; rfl, rfl⟩
    · have gk : ¬ (k : Int) < (s.size : Int) := by omega
      have HR : Hid (wordL s.data.toList = !s.toList.isEmpty) := by
        unfold Hid wordL
        rw [all_yes (fun j hj => HNO.out j hj (by omega)), HE.out]; rfl
      go_wp2
      go_ret
      exact ⟨by rw [HR.out]; rfl, rfl⟩
theorem size_len (s : ByteArray) : s.data.toList.length = s.size := Array.length_toList
set_option maxHeartbeats 1000000 in
set_option maxRecDepth 100000 in
theorem number_any (s : ByteArray) (w : World) (hs : s.size ≤ 9223372036854775807) : Calls Tryz.prog 50 #[.string s] w fun e w' => e = .returned (.bool (numL s.data.toList)) ∧ w' = w := by
  have HD := hidM (digits_any s w hs)
  have HR : Hid (numL s.data.toList = (digL s.data.toList && (s.data.toList.length == 1 || s.data.toList.getD 0 0 != 48))) := rfl
  cases hd : digL s.data.toList with
  | false =>
    rw [hd] at HD HR
    clear hd
    go_enter Tryz.func50, Tryz.ntmps50
    go_wp2_with fail
    refine HD.out.mono ?_
    rintro _ _ ⟨rfl, rfl⟩
    go_wp2
    go_ret
    exact ⟨by rw [HR.out]; rfl, rfl⟩
  | true =>
    have hpos : 0 < s.size := by
      rw [← size_len]
      unfold digL at hd
      cases hl : s.data.toList with
      | nil => rw [hl] at hd; cases hd
      | cons _ _ => simp
    have h0 : s.data.toList.getD 0 0 = s[0] := by rw [List.getD_eq_getElem?_getD, ba_list s 0 hpos]; rfl
    rw [hd, h0, size_len] at HR
    rw [hd] at HD
    clear hd h0
    have p0 : (0 : Int) < (s.size : Int) := by omega
    by_cases h1 : s.size = 1
    · have b1 : ((s.size : Int) == 1) = true := by simp; omega
      have b2 : (s.size == 1) = true := by simp; omega
      have HF : Hid (numL s.data.toList = true) := by unfold Hid; rw [HR.out, b2]; rfl
      go_enter Tryz.func50, Tryz.ntmps50
      go_wp2_with fail
      refine HD.out.mono ?_
      rintro _ _ ⟨rfl, rfl⟩
      go_wp2
      go_ret
      exact ⟨by rw [HF.out]; rfl, rfl⟩
    · have b1 : ((s.size : Int) == 1) = false := by simp; omega
      have b2 : (s.size == 1) = false := by simp; omega
      rw [b2] at HR
      by_cases h48 : s[0] = 48
      · have b3 : ((s[0].toNat : Int) == 48) = true := by rw [h48]; rfl
        have b4 : ((s[0].toNat : Int) != 48) = false := by rw [h48]; rfl
        have HF : Hid (numL s.data.toList = false) := by unfold Hid; rw [HR.out, h48]; rfl
        clear h48
        go_enter Tryz.func50, Tryz.ntmps50
        go_wp2_with fail
        refine HD.out.mono ?_
        rintro _ _ ⟨rfl, rfl⟩
        go_wp2
        go_ret
        exact ⟨by rw [HF.out]; rfl, rfl⟩
      · have h48n : ¬ s[0].toNat = 48 := fun e => h48 (UInt8.toNat_inj.1 (by rw [e]; rfl))
        have b3 : ((s[0].toNat : Int) == 48) = false := by simp; omega
        have b4 : ((s[0].toNat : Int) != 48) = true := by simp; omega
        have HF : Hid (numL s.data.toList = true) := by unfold Hid; rw [HR.out]; simp [h48]
        clear h48
        go_enter Tryz.func50, Tryz.ntmps50
        go_wp2_with fail
        refine HD.out.mono ?_
        rintro _ _ ⟨rfl, rfl⟩
        go_wp2
        go_ret
        exact ⟨by rw [HF.out]; rfl, rfl⟩
set_option maxHeartbeats 1000000 in
set_option maxRecDepth 100000 in
theorem preWord_any (s : ByteArray) (w : World) (hs : s.size ≤ 9223372036854775807) : Calls Tryz.prog 48 #[.string s] w fun e w' => e = .returned (.bool (preL s.data.toList)) ∧ w' = w := by
  have HW := hidM (word_any s w hs)
  have HD := hidM (digits_any s w hs)
  have HN := hidM (number_any s w hs)
  unfold preL
  generalize wordL s.data.toList = a at *
  generalize digL s.data.toList = b at *
  generalize numL s.data.toList = c at *
  cases a with
  | false =>
    go_enter Tryz.func48, Tryz.ntmps48
    go_wp2_with fail
    refine HW.out.mono ?_
    rintro _ _ ⟨rfl, rfl⟩
    go_wp2
    go_ret
    exact ⟨rfl, rfl⟩
  | true =>
    cases b with
    | false =>
      go_enter Tryz.func48, Tryz.ntmps48
      go_wp2_with fail
      refine HW.out.mono ?_
      rintro _ w1 ⟨rfl, h1⟩
      rw [h1]
      go_wp2_with fail
      refine HD.out.mono ?_
      rintro _ w2 ⟨rfl, h2⟩
      rw [h2]
      go_wp2
      go_ret
      exact ⟨rfl, rfl⟩
    | true =>
      go_enter Tryz.func48, Tryz.ntmps48
      go_wp2_with fail
      refine HW.out.mono ?_
      rintro _ w1 ⟨rfl, h1⟩
      rw [h1]
      go_wp2_with fail
      refine HD.out.mono ?_
      rintro _ w2 ⟨rfl, h2⟩
      rw [h2]
      go_wp2_with fail
      refine HN.out.mono ?_
      rintro _ w3 ⟨rfl, h3⟩
      rw [h3]
      go_wp2
      go_ret
      exact ⟨rfl, rfl⟩
end Go.Proofs.YtmhjdahmmdfbcaaGreatDoor
namespace Go.Proofs.YtmhjdahmmdfbcaaGreatDoor
open Go.RowKit
def splitC (c : UInt8) : List UInt8 → Option (List UInt8 × List UInt8)
  | [] => none
  | b :: l => if b = c then some ([], l) else (splitC c l).map fun x => (b :: x.1, x.2)
theorem split_none {c : UInt8} {l : List UInt8} (h : splitC c l = none) : Lib.indexByte l c = -1 ∧ c ∉ l := by
  induction l with
  | nil => exact ⟨rfl, by simp⟩
  | cons b l ih =>
    unfold splitC at h
    by_cases hb : b = c
    · rw [if_pos hb] at h; cases h
    · rw [if_neg hb, Option.map_eq_none_iff] at h
      have := ih h
      refine ⟨?_, by simp [this.2, Ne.symm hb]⟩
      unfold Lib.indexByte
      rw [if_neg (by simpa using hb), this.1]
      rfl
theorem split_some {c : UInt8} {l p q : List UInt8} (h : splitC c l = some (p, q)) : Lib.indexByte l c = (p.length : Int) ∧ l = p ++ c :: q ∧ c ∉ p := by
  induction l generalizing p with
  | nil => cases h
  | cons b l ih =>
    unfold splitC at h
    by_cases hb : b = c
    · rw [if_pos hb] at h
      obtain ⟨rfl, rfl⟩ := Prod.mk.inj (Option.some.inj h)
      refine ⟨?_, by rw [hb]; rfl, by simp⟩
      unfold Lib.indexByte
      rw [if_pos (by simpa using hb)]; rfl
    · rw [if_neg hb, Option.map_eq_some_iff] at h
      obtain ⟨⟨p', q'⟩, hx, he⟩ := h
      obtain ⟨rfl, rfl⟩ := Prod.mk.inj he
      obtain ⟨h1, h2, h3⟩ := ih hx
      refine ⟨?_, by rw [h2]; rfl, by simp [h3, Ne.symm hb]⟩
      unfold Lib.indexByte
      rw [if_neg (by simpa using hb), h1, if_neg (by simp)]
      simp
/-- what Cut answers at one byte -/
def cutR (c : UInt8) (l : List UInt8) : List UInt8 × List UInt8 × Bool :=
  match splitC c l with
  | none => (l, [], false)
  | some (p, q) => (p, q, true)
theorem ext_head (s : ByteArray) (k : Nat) : (s.extract 0 k).data.toList = s.data.toList.take k := by simp
theorem ext_tail (s : ByteArray) (k : Nat) : (s.extract k s.size).data.toList = s.data.toList.drop k := by
  rw [ByteArray.data_extract, Array.toList_extract, List.extract_eq_take_drop]
  rw [List.take_of_length_le]
  rw [List.length_drop]; simp
theorem ba_of {s : ByteArray} {l : List UInt8} (h : s.data.toList = l) : s = ⟨l.toArray⟩ := by
  subst h; rfl
set_option maxHeartbeats 1600000 in
theorem cut_in (s : ByteArray) (c : UInt8) (w : World) (hs : s.size ≤ 9223372036854775807) :
    Calls Tryz.prog 74 #[.string s, .string ⟨#[c]⟩] w fun e w' => e = .returned (.tuple #[.string ⟨(cutR c s.data.toList).1.toArray⟩, .string ⟨(cutR c s.data.toList).2.1.toArray⟩, .bool (cutR c s.data.toList).2.2]) ∧ ∃ m, w' = w.drewN m := by
  cases h : splitC c s.data.toList with
  | none =>
    have h1 := (split_none h).1
    have HR : Hid (cutR c s.data.toList = (s.data.toList, [], false)) := by unfold Hid cutR; rw [h]
    have HI : Hid (Calls Tryz.prog 102 #[.string s, .string ⟨#[c]⟩] w fun e w' => e = .returned (.int .i64 (-1)) ∧ w' = w) := by
      have := Tryz.stringslite_Index_one s c w
      rw [h1] at this
      exact this
    clear h h1
    go_enter Tryz.func74, Tryz.ntmps74
    go_wp2_with (go_at_call 102; with_reducible refine HI.out.mono ?_; rintro e w' ⟨rfl, rfl⟩)
    go_ret3
    exact ⟨by rw [HR.out]; rfl, 0, rfl⟩
  | some x =>
    obtain ⟨p, q⟩ := x
    obtain ⟨h1, h2, h3⟩ := split_some h
    have HR : Hid (cutR c s.data.toList = (p, q, true)) := by unfold Hid cutR; rw [h]
    have HI : Hid (Calls Tryz.prog 102 #[.string s, .string ⟨#[c]⟩] w fun e w' => e = .returned (.int .i64 (p.length : Int)) ∧ w' = w) := by
      have := Tryz.stringslite_Index_one s c w
      rw [h1] at this
      exact this
    have hl : p.length + 1 ≤ s.size := by
      have : s.data.toList.length = s.size := by simp
      rw [h2] at this; simp at this; omega
    have HP : Hid (s.extract 0 p.length = ⟨p.toArray⟩) := ba_of (by rw [ext_head, h2, List.take_left])
    have HQ : Hid (s.extract (p.length + 1) s.size = ⟨q.toArray⟩) := ba_of (by rw [ext_tail, h2, List.drop_append, List.drop_of_length_le (by omega)]; simp)
    clear h h1 h2 h3
    generalize p.length = n at *
    have c1 : (0 : Int) ≤ (n : Int) := by omega
    have c2 : (n : Int) ≤ (s.size : Int) := by omega
    have c4 : (n : Int) + 1 ≤ (s.size : Int) := by omega
    have c5 : (0 : Int) ≤ (n : Int) + 1 := by omega
    go_enter Tryz.func74, Tryz.ntmps74
    go_wp2_with (go_at_call 102; with_reducible refine HI.out.mono ?_; rintro e w' ⟨rfl, rfl⟩)
    go_quiet (fail)
    go_wp2
    go_ret3
    exact ⟨by rw [HR.out, ← HP.out, ← HQ.out]; rfl, nq, rfl⟩
theorem cut_any (s : ByteArray) (c : UInt8) (w : World) (hs : s.size ≤ 9223372036854775807) :
    Calls Tryz.prog 45 #[.string s, .string ⟨#[c]⟩] w fun e w' => e = .returned (.tuple #[.string ⟨(cutR c s.data.toList).1.toArray⟩, .string ⟨(cutR c s.data.toList).2.1.toArray⟩, .bool (cutR c s.data.toList).2.2]) ∧ ∃ m, w' = w.drewN m := by
  have HC := hidM (cut_in s c w hs)
  generalize (cutR c s.data.toList).1.toArray = A at *
  generalize (cutR c s.data.toList).2.1.toArray = B at *
  generalize (cutR c s.data.toList).2.2 = D at *
  go_enter Tryz.func45, Tryz.ntmps45
  go_wp2_with fail
  refine HC.out.mono ?_
  rintro _ w1 ⟨rfl, m, rfl⟩
  go_wp2
  go_ret3
  exact ⟨rfl, m, rfl⟩
def stopB : ByteArray := ⟨#[46]⟩
/-- the parts between the full stops -/
def partsB (s : ByteArray) : List ByteArray := Lib.splitB stopB 0 (Lib.countB s stopB) s
theorem index_stopB (x : ByteArray) : Lib.indexB x stopB = Lib.indexByte x.data.toList 46 := Lib.index_one _ _
theorem count_stopB (x : ByteArray) : Lib.countB x stopB = Lib.countByte x.data.toList 46 := Lib.count_one _ _
theorem info9 : (Tryz.prog.info? 9).map (fun i => (i.zero, i.size, i.bytes)) = some (some (.string ByteArray.empty), 1, 16) := by kernel_rfl
theorem split_any (s : ByteArray) (w : World) (hs : s.size ≤ 200) :
    Calls Tryz.prog 46 #[.string s, .string stopB] w fun e w' =>
      e = .returned (.slice (some ⟨w.heap.size, 0, none⟩) (partsB s).length (partsB s).length) ∧ w' = w.alloc (.cells ((partsB s).map Value.string).toArray 9) := by
  have hcl := Lib.countB_le stopB (by decide) s.size s (Nat.le_refl _)
  have hlen := Lib.splitB_all stopB (by decide) 0 _ s rfl
  have HG : Hid (Calls Tryz.prog 75 #[.string s, .string stopB, .int .i64 0, .int .i64 (-1)] w fun e w' => e = .returned (.slice (some ⟨w.heap.size, 0, none⟩) (partsB s).length (partsB s).length) ∧ w' = w.alloc (.cells ((partsB s).map Value.string).toArray 9)) := by
    have c := Any.strings_genSplit_core Tryz.lays221 info9 s stopB 0 (-1) (Lib.countB s stopB + 1) w (by omega) (by decide) (Nat.zero_le _)
      (fun x c _ => by have h := Tryz.strings_Index_one x 46 (w.alloc (.cells c 9)); rw [← index_stopB] at h; exact h)
      (by have h := Tryz.strings_Count_one s 46 w; rw [← count_stopB] at h; exact h)
      (by decide) (by decide) (by rw [if_pos (by decide)]; omega)
    have hl : (partsB s).length = Lib.countB s stopB + 1 := hlen
    refine c.mono fun e w' ⟨he, hw⟩ => ⟨?_, ?_⟩
    · rw [he]
      show Ending.returned (.slice _ (partsB s).length (Lib.countB s stopB + 1)) = _
      rw [hl]
    · rw [hw]
      show w.alloc (.cells (Lib.cellsOf (partsB s) (Lib.countB s stopB + 1)) 9) = _
      unfold Lib.cellsOf
      rw [hl]; simp
  clear hlen hcl
  generalize partsB s = ps at *
  unfold stopB at *
  go_enter Tryz.func46, Tryz.ntmps46
  go_wp2_with fail
  refine HG.out.mono ?_
  rintro _ w1 ⟨rfl, rfl⟩
  go_wp2_with fail
  go_ret
  exact ⟨rfl, rfl⟩
/-- is there a v ahead, and what stands behind it -/
def vCut : List UInt8 → List UInt8 × Bool
  | c :: l => if c = 118 then (l, true) else (c :: l, false)
  | [] => ([], false)
theorem v_pref (l : List UInt8) : Lib.hasPrefix l [118] = (vCut l).2 := by
  cases l with
  | nil => rfl
  | cons c l =>
    simp only [vCut]
    by_cases h : c = 118
    · rw [if_pos h, h]; simp [Lib.hasPrefix]
    · rw [if_neg h]
      show ((118 : UInt8) == c && _) = false
      rw [beq_false_of_ne (Ne.symm h)]; rfl
set_option maxHeartbeats 1000000 in
set_option maxRecDepth 100000 in
theorem cutP_in (s : ByteArray) (w : World) (hs : s.size ≤ 9223372036854775807) :
    Calls Tryz.prog 73 #[.string s, .string ⟨#[118]⟩] w fun e w' => e = .returned (.tuple #[.string ⟨(vCut s.data.toList).1.toArray⟩, .bool (vCut s.data.toList).2]) ∧ w' = w := by
  have HP := hidM (Tryz.stringslite_HasPrefix s ⟨#[118]⟩ w)
  rw [show (⟨#[118]⟩ : ByteArray).data.toList = [118] from rfl, v_pref] at HP
  cases hv : (vCut s.data.toList).2 with
  | false =>
    have HS : Hid ((⟨(vCut s.data.toList).1.toArray⟩ : ByteArray) = s) := by
      unfold Hid
      have : (vCut s.data.toList).1 = s.data.toList := by
        cases hl : s.data.toList with
        | nil => rfl
        | cons c l =>
          rw [hl] at hv
          simp only [vCut] at hv ⊢
          by_cases h : c = 118
          · rw [if_pos h] at hv; cases hv
          · rw [if_neg h]
      rw [this]
    rw [hv] at HP
    clear hv
    go_enter Tryz.func73, Tryz.ntmps73
    go_wp2_with fail
    refine HP.out.mono ?_
    rintro _ _ ⟨rfl, rfl⟩
    go_wp2
    go_ret2
    exact ⟨by rw [HS.out]; rfl, rfl⟩
  | true =>
    have hpos : 1 ≤ s.size ∧ s.extract 1 s.size = ⟨(vCut s.data.toList).1.toArray⟩ := by
      cases hl : s.data.toList with
      | nil => rw [hl] at hv; cases hv
      | cons c l =>
        have h1 : s.size = l.length + 1 := by rw [← size_len, hl]; rfl
        refine ⟨by omega, ba_of ?_⟩
        rw [ext_tail, hl]
        rw [hl] at hv
        simp only [vCut] at hv ⊢
        by_cases h : c = 118
        · rw [if_pos h]; rfl
        · rw [if_neg h] at hv; cases hv
    obtain ⟨h1, h2⟩ := hpos
    have HS := hidM h2
    have p0 : (1 : Int) ≤ (s.size : Int) := by omega
    rw [hv] at HP
    clear hv h2
    go_enter Tryz.func73, Tryz.ntmps73
    go_wp2_with fail
    refine HP.out.mono ?_
    rintro _ _ ⟨rfl, rfl⟩
    go_wp2
    go_ret2
    exact ⟨by rw [← HS.out]; rfl, rfl⟩
set_option maxRecDepth 100000 in
theorem cutP_any (s : ByteArray) (w : World) (hs : s.size ≤ 9223372036854775807) :
    Calls Tryz.prog 44 #[.string s, .string ⟨#[118]⟩] w fun e w' => e = .returned (.tuple #[.string ⟨(vCut s.data.toList).1.toArray⟩, .bool (vCut s.data.toList).2]) ∧ w' = w := by
  have HC := hidM (cutP_in s w hs)
  generalize (⟨(vCut s.data.toList).1.toArray⟩ : ByteArray) = A at *
  generalize (vCut s.data.toList).2 = B at *
  go_enter Tryz.func44, Tryz.ntmps44
  go_wp2_with fail
  refine HC.out.mono ?_
  rintro _ _ ⟨rfl, rfl⟩
  go_wp2
  go_ret2
  exact ⟨rfl, rfl⟩
theorem split_size (k : Nat) : ∀ (s p : ByteArray), p ∈ Lib.splitB stopB 0 k s → p.size ≤ s.size := by
  induction k with
  | zero => intro s p h; rw [Lib.splitB_zero, List.mem_singleton] at h; rw [h]; exact Nat.le_refl _
  | succ k ih =>
    intro s p h
    unfold Lib.splitB at h
    split at h
    · rw [List.mem_singleton] at h; rw [h]; exact Nat.le_refl _
    · rcases List.mem_cons.1 h with h | h
      · rw [h, ByteArray.size_extract]; omega
      · have := ih _ _ h
        rw [ByteArray.size_extract] at this
        omega
theorem parts_size {s p : ByteArray} (h : p ∈ partsB s) : p.size ≤ s.size := split_size _ s p h
set_option maxHeartbeats 1000000 in
set_option maxRecDepth 100000 in
theorem all_pre (s : ByteArray) (w : World) (hs : s.size ≤ 200) :
    Calls Tryz.prog 47 #[.string s, .func (.func 48) #[] #[]] w fun e w' => e = .returned (.bool ((partsB s).all fun x => preL x.data.toList)) ∧ Below w.heap.size w w' := by
  have HS := hidM (split_any s w hs)
  have HF : Hid (∀ (x : ByteArray) (V : World), x ∈ partsB s → Calls Tryz.prog 48 #[.string x] V fun e w' => e = .returned (.bool (preL x.data.toList)) ∧ w' = V) := fun x V hx => preWord_any x V (by have := parts_size hx; omega)
  have hl : (partsB s).length ≤ 201 := by
    have hcl := Lib.countB_le stopB (by decide) s.size s (Nat.le_refl _)
    have hlen : (partsB s).length = Lib.countB s stopB + 1 := Lib.splitB_all stopB (by decide) 0 _ s rfl
    omega
  generalize partsB s = ps at *
  have HB0 : Hid (Below w.heap.size w (w.alloc (.cells (ps.map Value.string).toArray 9))) := (Below.refl _ w).alloc (Nat.le_refl _) _
  have HC : Hid (∀ k, (h : k < ps.length) → (w.alloc (.cells (ps.map Value.string).toArray 9)).cell? ⟨w.heap.size, k, none⟩ = some (.string ps[k])) := fun k h => by
    rw [cell_of_row _ _ _ _ 9 (0, 0) (_root_.Go.heap_alloc_new w _)]
    simp [h]
  unfold stopB at HS
  go_enter Tryz.func47, Tryz.ntmps47
  go_wp2_with fail
  refine HS.out.mono ?_
  rintro _ _ ⟨rfl, rfl⟩
  generalize (w.alloc (.cells (ps.map Value.string).toArray 9)) = W at *
  go_wp2
  go_loopw [6, 10] (fun _ iv wr => ∃ k : Nat, k ≤ ps.length ∧ iv = .int .i64 (k : Int) ∧ (∀ j (hj : j < ps.length), j < k → preL ps[j].data.toList = true) ∧ W = wr) (fun _ i _ => ps.length - (intOf i).toNat)
  case atStart => exact ⟨0, Nat.zero_le _, rfl, fun j _ hj => by omega, rfl⟩
  case round =>
    obtain ⟨k, hk, rfl, hno, hwr⟩ := hrel
    subst hwr
    have HNO := hidM hno
    clear hno
    by_cases hlt : k < ps.length
    · have gk : (k : Int) < (ps.length : Int) := by omega
      have ck := HC.out k hlt
      have HFK := hidM (HF.out ps[k] W (List.getElem_mem hlt))
      cases hd : preL ps[k].data.toList with
      | false =>
        have HR : Hid ((ps.all fun x => preL x.data.toList) = false) := by
          unfold Hid
          rw [List.all_eq_false]
          exact ⟨ps[k], List.getElem_mem hlt, by rw [hd]; exact Bool.false_ne_true⟩
        rw [hd] at HFK
        clear hd
        generalize ps[k] = x at *
        go_wp2_with fail
        refine HFK.out.mono ?_
        rintro _ w1 ⟨rfl, h1⟩
        rw [h1]
        go_wp2
        go_ret
        exact ⟨by rw [HR.out]; rfl, HB0.out⟩
      | true =>
        have HNX : Hid (∀ j (hj : j < ps.length), j < k + 1 → preL ps[j].data.toList = true) := fun j hj hjk => by
          rcases Nat.lt_or_ge j k with h | h
          · exact HNO.out j hj h
          · obtain rfl : j = k := by omega
            exact hd
        rw [hd] at HFK
        clear hd
        generalize ps[k] = x at *
        go_wp2_with fail
        refine HFK.out.mono ?_
        rintro _ w1 ⟨rfl, h1⟩
        rw [h1]
        clear h1
        go_wp2
        go_roundw
        case rel => exact ⟨k + 1, by omega, by go_num, HNX.out, by first | rfl | trivial⟩
        case measure => simp [intOf]; omega
    · have gk : ¬ (k : Int) < (ps.length : Int) := by omega
      have HR : Hid ((ps.all fun x => preL x.data.toList) = true) := by
        unfold Hid
        rw [List.all_eq_true]
        intro x hx
        obtain ⟨j, hj, rfl⟩ := List.getElem_of_mem hx
        exact HNO.out j hj (by omega)
      go_wp2
      go_ret
      exact ⟨by rw [HR.out]; rfl, HB0.out⟩
set_option maxHeartbeats 1000000 in
set_option maxRecDepth 100000 in
theorem all_word (s : ByteArray) (w : World) (hs : s.size ≤ 200) :
    Calls Tryz.prog 47 #[.string s, .func (.func 49) #[] #[]] w fun e w' => e = .returned (.bool ((partsB s).all fun x => wordL x.data.toList)) ∧ Below w.heap.size w w' := by
  have HS := hidM (split_any s w hs)
  have HF : Hid (∀ (x : ByteArray) (V : World), x ∈ partsB s → Calls Tryz.prog 49 #[.string x] V fun e w' => e = .returned (.bool (wordL x.data.toList)) ∧ w' = V) := fun x V hx => word_any x V (by have := parts_size hx; omega)
  have hl : (partsB s).length ≤ 201 := by
    have hcl := Lib.countB_le stopB (by decide) s.size s (Nat.le_refl _)
    have hlen : (partsB s).length = Lib.countB s stopB + 1 := Lib.splitB_all stopB (by decide) 0 _ s rfl
    omega
  generalize partsB s = ps at *
  have HB0 : Hid (Below w.heap.size w (w.alloc (.cells (ps.map Value.string).toArray 9))) := (Below.refl _ w).alloc (Nat.le_refl _) _
  have HC : Hid (∀ k, (h : k < ps.length) → (w.alloc (.cells (ps.map Value.string).toArray 9)).cell? ⟨w.heap.size, k, none⟩ = some (.string ps[k])) := fun k h => by
    rw [cell_of_row _ _ _ _ 9 (0, 0) (_root_.Go.heap_alloc_new w _)]
    simp [h]
  unfold stopB at HS
  go_enter Tryz.func47, Tryz.ntmps47
  go_wp2_with fail
  refine HS.out.mono ?_
  rintro _ _ ⟨rfl, rfl⟩
  generalize (w.alloc (.cells (ps.map Value.string).toArray 9)) = W at *
  go_wp2
  go_loopw [6, 10] (fun _ iv wr => ∃ k : Nat, k ≤ ps.length ∧ iv = .int .i64 (k : Int) ∧ (∀ j (hj : j < ps.length), j < k → wordL ps[j].data.toList = true) ∧ W = wr) (fun _ i _ => ps.length - (intOf i).toNat)
  case atStart => exact ⟨0, Nat.zero_le _, rfl, fun j _ hj => by omega, rfl⟩
  case round =>
    obtain ⟨k, hk, rfl, hno, hwr⟩ := hrel
    subst hwr
    have HNO := hidM hno
    clear hno
    by_cases hlt : k < ps.length
    · have gk : (k : Int) < (ps.length : Int) := by omega
      have ck := HC.out k hlt
      have HFK := hidM (HF.out ps[k] W (List.getElem_mem hlt))
      cases hd : wordL ps[k].data.toList with
      | false =>
        have HR : Hid ((ps.all fun x => wordL x.data.toList) = false) := by
          unfold Hid
          rw [List.all_eq_false]
          exact ⟨ps[k], List.getElem_mem hlt, by rw [hd]; exact Bool.false_ne_true⟩
        rw [hd] at HFK
        clear hd
        generalize ps[k] = x at *
        go_wp2_with fail
        refine HFK.out.mono ?_
        rintro _ w1 ⟨rfl, h1⟩
        rw [h1]
        go_wp2
        go_ret
        exact ⟨by rw [HR.out]; rfl, HB0.out⟩
      | true =>
        have HNX : Hid (∀ j (hj : j < ps.length), j < k + 1 → wordL ps[j].data.toList = true) := fun j hj hjk => by
          rcases Nat.lt_or_ge j k with h | h
          · exact HNO.out j hj h
          · obtain rfl : j = k := by omega
            exact hd
        rw [hd] at HFK
        clear hd
        generalize ps[k] = x at *
        go_wp2_with fail
        refine HFK.out.mono ?_
        rintro _ w1 ⟨rfl, h1⟩
        rw [h1]
        clear h1
        go_wp2
        go_roundw
        case rel => exact ⟨k + 1, by omega, by go_num, HNX.out, by first | rfl | trivial⟩
        case measure => simp [intOf]; omega
    · have gk : ¬ (k : Int) < (ps.length : Int) := by omega
      have HR : Hid ((ps.all fun x => wordL x.data.toList) = true) := by
        unfold Hid
        rw [List.all_eq_true]
        intro x hx
        obtain ⟨j, hj, rfl⟩ := List.getElem_of_mem hx
        exact HNO.out j hj (by omega)
      go_wp2
      go_ret
      exact ⟨by rw [HR.out]; rfl, HB0.out⟩
set_option maxHeartbeats 1000000 in
set_option maxRecDepth 100000 in
theorem all_num (s : ByteArray) (w : World) (hs : s.size ≤ 200) :
    Calls Tryz.prog 47 #[.string s, .func (.func 50) #[] #[]] w fun e w' => e = .returned (.bool ((partsB s).all fun x => numL x.data.toList)) ∧ Below w.heap.size w w' := by
  have HS := hidM (split_any s w hs)
  have HF : Hid (∀ (x : ByteArray) (V : World), x ∈ partsB s → Calls Tryz.prog 50 #[.string x] V fun e w' => e = .returned (.bool (numL x.data.toList)) ∧ w' = V) := fun x V hx => number_any x V (by have := parts_size hx; omega)
  have hl : (partsB s).length ≤ 201 := by
    have hcl := Lib.countB_le stopB (by decide) s.size s (Nat.le_refl _)
    have hlen : (partsB s).length = Lib.countB s stopB + 1 := Lib.splitB_all stopB (by decide) 0 _ s rfl
    omega
  generalize partsB s = ps at *
  have HB0 : Hid (Below w.heap.size w (w.alloc (.cells (ps.map Value.string).toArray 9))) := (Below.refl _ w).alloc (Nat.le_refl _) _
  have HC : Hid (∀ k, (h : k < ps.length) → (w.alloc (.cells (ps.map Value.string).toArray 9)).cell? ⟨w.heap.size, k, none⟩ = some (.string ps[k])) := fun k h => by
    rw [cell_of_row _ _ _ _ 9 (0, 0) (_root_.Go.heap_alloc_new w _)]
    simp [h]
  unfold stopB at HS
  go_enter Tryz.func47, Tryz.ntmps47
  go_wp2_with fail
  refine HS.out.mono ?_
  rintro _ _ ⟨rfl, rfl⟩
  generalize (w.alloc (.cells (ps.map Value.string).toArray 9)) = W at *
  go_wp2
  go_loopw [6, 10] (fun _ iv wr => ∃ k : Nat, k ≤ ps.length ∧ iv = .int .i64 (k : Int) ∧ (∀ j (hj : j < ps.length), j < k → numL ps[j].data.toList = true) ∧ W = wr) (fun _ i _ => ps.length - (intOf i).toNat)
  case atStart => exact ⟨0, Nat.zero_le _, rfl, fun j _ hj => by omega, rfl⟩
  case round =>
    obtain ⟨k, hk, rfl, hno, hwr⟩ := hrel
    subst hwr
    have HNO := hidM hno
    clear hno
    by_cases hlt : k < ps.length
    · have gk : (k : Int) < (ps.length : Int) := by omega
      have ck := HC.out k hlt
      have HFK := hidM (HF.out ps[k] W (List.getElem_mem hlt))
      cases hd : numL ps[k].data.toList with
      | false =>
        have HR : Hid ((ps.all fun x => numL x.data.toList) = false) := by
          unfold Hid
          rw [List.all_eq_false]
          exact ⟨ps[k], List.getElem_mem hlt, by rw [hd]; exact Bool.false_ne_true⟩
        rw [hd] at HFK
        clear hd
        generalize ps[k] = x at *
        go_wp2_with fail
        refine HFK.out.mono ?_
        rintro _ w1 ⟨rfl, h1⟩
        rw [h1]
        go_wp2
        go_ret
        exact ⟨by rw [HR.out]; rfl, HB0.out⟩
      | true =>
        have HNX : Hid (∀ j (hj : j < ps.length), j < k + 1 → numL ps[j].data.toList = true) := fun j hj hjk => by
          rcases Nat.lt_or_ge j k with h | h
          · exact HNO.out j hj h
          · obtain rfl : j = k := by omega
            exact hd
        rw [hd] at HFK
        clear hd
        generalize ps[k] = x at *
        go_wp2_with fail
        refine HFK.out.mono ?_
        rintro _ w1 ⟨rfl, h1⟩
        rw [h1]
        clear h1
        go_wp2
        go_roundw
        case rel => exact ⟨k + 1, by omega, by go_num, HNX.out, by first | rfl | trivial⟩
        case measure => simp [intOf]; omega
    · have gk : ¬ (k : Int) < (ps.length : Int) := by omega
      have HR : Hid ((ps.all fun x => numL x.data.toList) = true) := by
        unfold Hid
        rw [List.all_eq_true]
        intro x hx
        obtain ⟨j, hj, rfl⟩ := List.getElem_of_mem hx
        exact HNO.out j hj (by omega)
      go_wp2
      go_ret
      exact ⟨by rw [HR.out]; rfl, HB0.out⟩
end Go.Proofs.YtmhjdahmmdfbcaaGreatDoor
namespace Go.Proofs.YtmhjdahmmdfbcaaGreatDoor
open Go.RowKit
theorem wp_scope_forward {P : Program} {a : Act} {w : World} {Q : Exit → Act → World → Prop} {c rest : Code} (l : Nat) (hf : findLabel c l = some rest)
    (first : c.wp P (Exit.jump l (fun a w => rest.wp P (Exit.noGoto Q) a w) Q) a w) : (Code.scope c).wp P Q a w :=
  wp_scope_jumps l _ (fun _ _ => 0) hf first (fun _ _ h => wp_mono h (fun e _ _ hq => by cases e <;> first | exact hq | exact hq.elim))
theorem cutR_len (c : UInt8) (l : List UInt8) : (cutR c l).1.length ≤ l.length ∧ (cutR c l).2.1.length ≤ l.length := by
  unfold cutR
  split
  · simp
  · rename_i p q h
    have := (split_some h).2.1
    rw [this]; simp; omega
def strOf (l : List UInt8) : ByteArray := ⟨l.toArray⟩
/-- a version's parts, as Parse cuts them -/
structure Cuts where
  marked : Bool
  nums : ByteArray
  pre : ByteArray
  build : ByteArray
  hasPre : Bool
  hasBuild : Bool
def cutsOf (s : ByteArray) : Cuts :=
  let r := vCut s.data.toList
  let b := cutR 43 r.1
  let p := cutR 45 b.1
  ⟨r.2, strOf p.1, strOf p.2.1, strOf b.2.1, p.2.2, b.2.2⟩
structure Ver where
  major : ByteArray
  minor : ByteArray
  patch : ByteArray
  pre : ByteArray
  build : ByteArray
  short : Nat
def nought : ByteArray := ⟨#[48]⟩
def okC (c : Cuts) : Bool :=
  c.marked && decide ((partsB c.nums).length ≤ 3) && !(decide ((partsB c.nums).length < 3) && (c.hasPre || c.hasBuild)) &&
  !(c.hasPre && !((partsB c.pre).all fun x => preL x.data.toList)) && !(c.hasBuild && !((partsB c.build).all fun x => wordL x.data.toList)) && ((partsB c.nums).all fun x => numL x.data.toList)
def verC (c : Cuts) : Ver :=
  let n := partsB c.nums ++ [nought, nought]
  ⟨n.getD 0 nought, n.getD 1 nought, n.getD 2 nought, c.pre, c.build, 3 - (partsB c.nums).length⟩
def parseR (s : ByteArray) : Option Ver := if s.size ≤ 100 && okC (cutsOf s) then some (verC (cutsOf s)) else none
def verV : Option Ver → Value
  | some v => .tuple #[.agg #[.string v.major, .string v.minor, .string v.patch, .string v.pre, .string v.build, .int .i64 (v.short : Int)], .bool true]
  | none => .tuple #[.agg #[.string ⟨#[]⟩, .string ⟨#[]⟩, .string ⟨#[]⟩, .string ⟨#[]⟩, .string ⟨#[]⟩, .int .i64 0], .bool false]
theorem size23 : (Tryz.prog.info? 43).map (·.size) = some 6 := by kernel_rfl
def zero23 : Array Value := #[.string ⟨#[]⟩, .string ⟨#[]⟩, .string ⟨#[]⟩, .string ⟨#[]⟩, .string ⟨#[]⟩, .int .i64 0]
/-- the two boxes of Parse: what it answers, and v -/
structure PS (w : World) (cs : Array Value) (V : World) : Prop where
  bel : Below w.heap.size w V
  z : V.heap[w.heap.size]? = some (.cells zero23 43)
  v : V.heap[w.heap.size + 1]? = some (.cells cs 43)
theorem PS.next {w V V' : World} {cs : Array Value} (H : PS w cs V) (hb : Below V.heap.size V V') : PS w cs V' := ⟨H.bel.trans (hb.mono H.bel.size), box_kept H.z hb, box_kept H.v hb⟩
theorem PS.drewN {w V : World} {cs : Array Value} (H : PS w cs V) (n : Nat) : PS w cs (V.drewN n) := ⟨below_drewN H.bel n, H.z, H.v⟩
theorem PS.set {w V : World} {cs : Array Value} (H : PS w cs V) (i : Nat) (x : Value) : PS w (cs.setIfInBounds i x) (V.setCell ⟨w.heap.size + 1, i, none⟩ x) := by
  refine ⟨H.bel.trans ⟨rfl, rfl, rfl, by simp, fun k hk => Below.heap_setCell V ⟨w.heap.size + 1, i, none⟩ x k (by simp; omega)⟩, ?_, ?_⟩
  · rw [← H.z]; exact Below.heap_setCell V ⟨w.heap.size + 1, i, none⟩ x w.heap.size (by simp)
  · rw [setCell_eq_setRow V _ i cs 43 (0, 0) x H.v]
    exact setRow_heap V _ cs _ 43 (0, 0) H.v
theorem PS.cell {w V : World} {cs : Array Value} (H : PS w cs V) (i : Nat) : V.cell? ⟨w.heap.size + 1, i, none⟩ = cs[i]? := cell_of_row _ _ _ _ 43 (0, 0) H.v
theorem PS.free {w V : World} {cs : Array Value} (H : PS w cs V) (i : Nat) : V.frozen? ⟨w.heap.size + 1, i, none⟩ = false := by simp [World.frozen?, H.v]
theorem PS.start (w : World) : PS w zero23 ((w.alloc (.cells zero23 43)).alloc (.cells zero23 43)) :=
  ⟨((Below.refl _ w).alloc (Nat.le_refl _) _).alloc (by simp) _, heap_alloc2_old _ _ _, heap_alloc2_new _ _ _⟩
theorem results_box {fn : Func} {p u : Tmp} {ty : TypeId} {P : Program} (h : fn.results = #[.cell p ty, .tmp u]) (tmps : Array Value) (w : World) (g : Nat) (cs : Array Value)
    (hp : tmps.getD p undef = .pointer (some ⟨g, 0, none⟩)) (hr : (loadVar ty ⟨g, 0, none⟩).run P w = .ok (.agg cs) w) :
    (results fn tmps).run P w = .ok (.tuple #[.agg cs, tmps.getD u undef]) w := by
  rw [results_cell_tmp h, hp]
  simp [asAddr, hr, Result.andThen]
theorem below_setRow {B g : Nat} {w wr : World} {c : Array Value} (h : Below B w wr) (hg : B ≤ g) : Below B w (wr.setRow g c) :=
  h.trans ⟨rfl, rfl, rfl, by simp, fun k hk => setRow_other wr g k c (by omega)⟩
theorem ones23 : (#[.string ⟨#[]⟩, .string ⟨#[]⟩, .string ⟨#[]⟩, .string ⟨#[]⟩, .string ⟨#[]⟩, .int .i64 0] : Array Value).all (·.oneCell') = true := by simp [Value.oneCell']
theorem ones23v (a b c d e : ByteArray) (n : Int) : (#[.string a, .string b, .string c, .string d, .string e, .int .i64 n] : Array Value).all (·.oneCell') = true := by simp [Value.oneCell']
theorem PS.drew {w V : World} {cs : Array Value} (H : PS w cs V) : PS w cs V.drew := ⟨H.bel.trans ⟨rfl, rfl, rfl, Nat.le_refl _, fun _ _ => rfl⟩, H.z, H.v⟩
theorem PS.grow {w V V' : World} {cs : Array Value} (H : PS w cs V) (hb : Below (w.heap.size + 2) V V') : PS w cs V' :=
  ⟨H.bel.trans (hb.mono (by omega)), by rw [hb.block _ (by omega)]; exact H.z, by rw [hb.block _ (by omega)]; exact H.v⟩
theorem Below.refl_grown {B : Nat} {w w' : World} {o : Option Nat} (h : B ≤ w.heap.size) (hg : w.grownBy w' o) (ho : ∀ j, o = some j → B ≤ j) : Below B w w' :=
  (Below.refl B w).grown hg h ho
set_option maxHeartbeats 2000000 in
set_option maxRecDepth 100000 in
theorem parse_long (s : ByteArray) (w : World) (hs : 100 < s.size) (hm : s.size ≤ 9223372036854775807) :
    Calls Tryz.prog 18 #[.string s] w fun x w' => x = .returned (verV none) ∧ Below w.heap.size w w' := by
  have b : decide ((100 : Int) < (s.size : Int)) = true := by simp; omega
  have HP := hidM (PS.start w)
  unfold zero23 at HP
  go_enter Tryz.func18, Tryz.ntmps18
  go_wp2
  refine wp_scope_forward (rest := ?rest) 0 ?hf ?_
  case hf => rfl
  go_wp2
  go_step3
  refine (⟨rfl, ?_⟩ : (0 : Nat) = 0 ∧ _)
  go_wp2
  rw [Exit.noGoto_ret]
  exact bodyPost_ret (results_box rfl _ _ w.heap.size _ rfl (run_loadVar_row _ w.heap.size 43 43 _ (0, 0) _ HP.out.z Tryz.underlying43 rfl size23)) rfl ⟨rfl, HP.out.bel⟩
set_option maxHeartbeats 4000000 in
set_option maxRecDepth 100000 in
theorem parse_short (s : ByteArray) (w : World) (hs : s.size ≤ 100) :
    Calls Tryz.prog 18 #[.string s] w fun x w' => x = .returned (verV (parseR s)) ∧ Below w.heap.size w w' := by
  have b : decide ((100 : Int) < (s.size : Int)) = false := by simp; omega
  have HP := hidM (PS.start w)
  have HR : Hid (parseR s = if okC (cutsOf s) then some (verC (cutsOf s)) else none) := by
    unfold Hid parseR
    rw [decide_eq_true hs]
    simp
  have HC1 := hidM (fun V => cutP_any s V (by omega))
  obtain ⟨r, hr⟩ : ∃ r, r = strOf (vCut s.data.toList).1 := ⟨_, rfl⟩
  have hrl : r.data.toList = (vCut s.data.toList).1 := by rw [hr]; rfl
  have hrs : r.size ≤ 100 := by
    rw [← size_len, hrl]
    have : (vCut s.data.toList).1.length ≤ s.data.toList.length := by
      cases s.data.toList with
      | nil => exact Nat.le_refl _
      | cons c l => simp only [vCut]; split <;> simp
    rw [size_len] at this
    omega
  have HC2 := hidM (fun V => cut_any r 43 V (by omega))
  obtain ⟨r1, hr1⟩ : ∃ r1, r1 = strOf (cutR 43 r.data.toList).1 := ⟨_, rfl⟩
  have hr1l : r1.data.toList = (cutR 43 r.data.toList).1 := by rw [hr1]; rfl
  have hr1s : r1.size ≤ 100 := by
    rw [← size_len, hr1l]
    have := (cutR_len 43 r.data.toList).1
    rw [size_len] at this
    omega
  have HC3 := hidM (fun V => cut_any r1 45 V (by omega))
  have HCO : Hid (cutsOf s = ⟨(vCut s.data.toList).2, strOf (cutR 45 r1.data.toList).1, strOf (cutR 45 r1.data.toList).2.1, strOf (cutR 43 r.data.toList).2.1, (cutR 45 r1.data.toList).2.2, (cutR 43 r.data.toList).2.2⟩) := by
    unfold Hid cutsOf
    rw [hr1l, hrl]
  have hr2s : (strOf (cutR 45 r1.data.toList).1).size ≤ 100 := by
    show (cutR 45 r1.data.toList).1.toArray.size ≤ 100
    rw [List.size_toArray]
    have := (cutR_len 45 r1.data.toList).1
    rw [size_len] at this
    omega
  have hps : (strOf (cutR 45 r1.data.toList).2.1).size ≤ 100 := by
    show (cutR 45 r1.data.toList).2.1.toArray.size ≤ 100
    rw [List.size_toArray]
    have := (cutR_len 45 r1.data.toList).2
    rw [size_len] at this
    omega
  have hbs : (strOf (cutR 43 r.data.toList).2.1).size ≤ 100 := by
    show (cutR 43 r.data.toList).2.1.toArray.size ≤ 100
    rw [List.size_toArray]
    have := (cutR_len 43 r.data.toList).2
    rw [size_len] at this
    omega
  rw [show (⟨(vCut s.data.toList).1.toArray⟩ : ByteArray) = r from hr.symm] at HC1
  rw [show (⟨(cutR 43 r.data.toList).1.toArray⟩ : ByteArray) = r1 from hr1.symm] at HC2
  change Hid (∀ V, Calls Tryz.prog 45 #[.string r, .string ⟨#[43]⟩] V fun e w' => e = .returned (.tuple #[.string r1, .string (strOf (cutR 43 r.data.toList).2.1), .bool (cutR 43 r.data.toList).2.2]) ∧ ∃ m, w' = V.drewN m) at HC2
  change Hid (∀ V, Calls Tryz.prog 45 #[.string r1, .string ⟨#[45]⟩] V fun e w' => e = .returned (.tuple #[.string (strOf (cutR 45 r1.data.toList).1), .string (strOf (cutR 45 r1.data.toList).2.1), .bool (cutR 45 r1.data.toList).2.2]) ∧ ∃ m, w' = V.drewN m) at HC3
  generalize (vCut s.data.toList).2 = mk at *
  generalize (cutR 43 r.data.toList).2.2 = hb at *
  generalize (cutR 45 r1.data.toList).2.2 = hp at *
  generalize strOf (cutR 45 r1.data.toList).1 = r2 at *
  generalize strOf (cutR 45 r1.data.toList).2.1 = pr at *
  generalize strOf (cutR 43 r.data.toList).2.1 = bu at *
  have HSP := hidM (fun V => split_any r2 V (by omega))
  have HAP := hidM (fun V => all_pre pr V (by omega))
  have HAW := hidM (fun V => all_word bu V (by omega))
  have HAN := hidM (fun V => all_num r2 V (by omega))
  have HPL : Hid (1 ≤ (partsB r2).length) := by
    have hlen : (partsB r2).length = Lib.countB r2 stopB + 1 := Lib.splitB_all stopB (by decide) 0 _ r2 rfl
    unfold Hid; omega
  have hpl2 : (partsB r2).length ≤ 101 := by
    have hcl := Lib.countB_le stopB (by decide) r2.size r2 (Nat.le_refl _)
    have hlen : (partsB r2).length = Lib.countB r2 stopB + 1 := Lib.splitB_all stopB (by decide) 0 _ r2 rfl
    omega
  rw [HCO.out] at HR
  unfold okC verC at HR
  simp only at HR
  generalize partsB r2 = ps at *
  generalize ((partsB pr).all fun x => preL x.data.toList) = ap at *
  generalize ((partsB bu).all fun x => wordL x.data.toList) = aw at *
  generalize (ps.all fun x => numL x.data.toList) = an at *
  clear hr hrl hr1 hr1l HCO
  unfold stopB at HSP
  unfold zero23 at HP
  go_enter Tryz.func18, Tryz.ntmps18
  go_wp2
  refine wp_scope_forward (rest := ?rest) 0 ?hf ?_
  case hf => rfl
  go_wp2_with fail
  generalize ((w.alloc (.cells #[.string ⟨#[]⟩, .string ⟨#[]⟩, .string ⟨#[]⟩, .string ⟨#[]⟩, .string ⟨#[]⟩, .int .i64 0] 43)).alloc (.cells #[.string ⟨#[]⟩, .string ⟨#[]⟩, .string ⟨#[]⟩, .string ⟨#[]⟩, .string ⟨#[]⟩, .int .i64 0] 43)) = W0 at *
  refine (HC1.out W0).mono ?_
  rintro _ w1 ⟨rfl, hw1⟩
  rw [hw1]
  clear hw1 w1
  go_wp2_with fail
  refine (HC2.out W0).mono ?_
  rintro _ _ ⟨rfl, m1, rfl⟩
  have c4 : W0.cell? ⟨w.heap.size + 1, 4, none⟩ = some (.string ⟨#[]⟩) := HP.out.cell 4
  have f4 := HP.out.free 4
  have HP1 : Hid (PS w #[.string ⟨#[]⟩, .string ⟨#[]⟩, .string ⟨#[]⟩, .string ⟨#[]⟩, .string bu, .int .i64 0] ((W0.drewN m1).setCell ⟨w.heap.size + 1, 4, none⟩ (.string bu))) := (HP.out.drewN m1).set 4 (.string bu)
  clear HP
  go_wp2_with fail
  generalize (W0.drewN m1).setCell ⟨w.heap.size + 1, 4, none⟩ (.string bu) = W1 at *
  refine (HC3.out W1).mono ?_
  rintro _ _ ⟨rfl, m2, rfl⟩
  have c3 : W1.cell? ⟨w.heap.size + 1, 3, none⟩ = some (.string ⟨#[]⟩) := HP1.out.cell 3
  have f3 := HP1.out.free 3
  have HP2 : Hid (PS w #[.string ⟨#[]⟩, .string ⟨#[]⟩, .string ⟨#[]⟩, .string pr, .string bu, .int .i64 0] ((W1.drewN m2).setCell ⟨w.heap.size + 1, 3, none⟩ (.string pr))) := (HP1.out.drewN m2).set 3 (.string pr)
  clear HP1 c4 f4
  go_wp2_with fail
  generalize (W1.drewN m2).setCell ⟨w.heap.size + 1, 3, none⟩ (.string pr) = W2 at *
  refine (HSP.out W2).mono ?_
  rintro _ _ ⟨rfl, rfl⟩
  have HB3 : Hid (Below W2.heap.size W2 (W2.alloc (.cells (ps.map Value.string).toArray 9))) := (Below.refl _ _).alloc (Nat.le_refl _) _
  have HRW : Hid ((W2.alloc (.cells (ps.map Value.string).toArray 9)).heap[W2.heap.size]? = some (.cells (ps.map Value.string).toArray 9)) := _root_.Go.heap_alloc_new _ _
  have HP3 := hidM (HP2.out.next HB3.out)
  have HBG : Hid (w.heap.size + 2 ≤ W2.heap.size) := by
    have := (Array.getElem?_eq_some_iff.1 HP2.out.v).1
    unfold Hid; omega
  clear HP2 c3 f3 HB3
  generalize (W2.alloc (.cells (ps.map Value.string).toArray 9)) = W3 at *
  generalize W2.heap.size = G at *
  have c5 : W3.cell? ⟨w.heap.size + 1, 5, none⟩ = some (.int .i64 0) := HP3.out.cell 5
  have f5 := HP3.out.free 5
  have HP4 : Hid (PS w #[.string ⟨#[]⟩, .string ⟨#[]⟩, .string ⟨#[]⟩, .string pr, .string bu, .int .i64 (3 - (ps.length : Int))] (W3.setCell ⟨w.heap.size + 1, 5, none⟩ (.int .i64 (3 - (ps.length : Int))))) := HP3.out.set 5 (.int .i64 (3 - (ps.length : Int)))
  have HRW4 : Hid ((W3.setCell ⟨w.heap.size + 1, 5, none⟩ (.int .i64 (3 - (ps.length : Int)))).heap[G]? = some (.cells (ps.map Value.string).toArray 9)) := by
    unfold Hid
    rw [← HRW.out]
    exact Below.heap_setCell W3 ⟨w.heap.size + 1, 5, none⟩ _ G (by have := HBG.out; simp; omega)
  go_upto_region 10 with fail
  have HP4' := HP4
  generalize W3.setCell ⟨w.heap.size + 1, 5, none⟩ (.int .i64 (3 - (ps.length : Int))) = W4 at *
  clear HP4' HP3 HRW c5 f5
  cases mk with
  | false =>
    as_aux_lemma =>
    have HRf : Hid (parseR s = none) := by unfold Hid; rw [HR.out]; rfl
    have c3 : W4.cell? ⟨w.heap.size + 1, 3, none⟩ = some (.string pr) := HP4.out.cell 3
    have c4 : W4.cell? ⟨w.heap.size + 1, 4, none⟩ = some (.string bu) := HP4.out.cell 4
    have c5 : W4.cell? ⟨w.heap.size + 1, 5, none⟩ = some (.int .i64 (3 - (ps.length : Int))) := HP4.out.cell 5
    go_wp2
    go_step3
    refine (⟨rfl, ?_⟩ : (0 : Nat) = 0 ∧ _)
    go_wp2_with (refine wpList_store_row rfl 43 (.tmp 2) (.tmp 90) rfl w.heap.size #[.string ⟨#[]⟩, .string ⟨#[]⟩, .string ⟨#[]⟩, .string ⟨#[]⟩, .string ⟨#[]⟩, .int .i64 0] rfl rfl 43 #[.string ⟨#[]⟩, .string ⟨#[]⟩, .string ⟨#[]⟩, .string ⟨#[]⟩, .string ⟨#[]⟩, .int .i64 0] HP4.out.z size23 rfl ones23 ?_)
    rw [Exit.noGoto_ret]
    exact bodyPost_ret (results_box rfl _ _ w.heap.size _ rfl (run_loadVar_row _ w.heap.size 43 43 _ (0, 0) _ (setRow_heap _ _ _ _ 43 _ HP4.out.z) Tryz.underlying43 rfl size23)) rfl ⟨by rw [HRf.out]; rfl, below_setRow HP4.out.bel (Nat.le_refl _)⟩
  | true =>
    by_cases hN : 3 < ps.length
    · as_aux_lemma =>
      have HRf : Hid (parseR s = none) := by unfold Hid; rw [HR.out]; rw [decide_eq_false (show ¬ ps.length ≤ 3 by omega)]; rfl
      have bN : decide (3 - (ps.length : Int) < 0) = true := by simp; omega
      have c3 : W4.cell? ⟨w.heap.size + 1, 3, none⟩ = some (.string pr) := HP4.out.cell 3
      have c4 : W4.cell? ⟨w.heap.size + 1, 4, none⟩ = some (.string bu) := HP4.out.cell 4
      have c5 : W4.cell? ⟨w.heap.size + 1, 5, none⟩ = some (.int .i64 (3 - (ps.length : Int))) := HP4.out.cell 5
      go_wp2
      go_step3
      refine (⟨rfl, ?_⟩ : (0 : Nat) = 0 ∧ _)
      go_wp2_with (refine wpList_store_row rfl 43 (.tmp 2) (.tmp 90) rfl w.heap.size #[.string ⟨#[]⟩, .string ⟨#[]⟩, .string ⟨#[]⟩, .string ⟨#[]⟩, .string ⟨#[]⟩, .int .i64 0] rfl rfl 43 #[.string ⟨#[]⟩, .string ⟨#[]⟩, .string ⟨#[]⟩, .string ⟨#[]⟩, .string ⟨#[]⟩, .int .i64 0] HP4.out.z size23 rfl ones23 ?_)
      rw [Exit.noGoto_ret]
      exact bodyPost_ret (results_box rfl _ _ w.heap.size _ rfl (run_loadVar_row _ w.heap.size 43 43 _ (0, 0) _ (setRow_heap _ _ _ _ 43 _ HP4.out.z) Tryz.underlying43 rfl size23)) rfl ⟨by rw [HRf.out]; rfl, below_setRow HP4.out.bel (Nat.le_refl _)⟩
    · obtain ⟨p0, q0, hps⟩ : ∃ p0 q0, ps = p0 :: q0 := by
        cases ps with
        | nil => exact absurd HPL.out (by decide)
        | cons a b => exact ⟨a, b, rfl⟩
      subst hps
      have hq3 : q0 = [] ∨ (∃ p1, q0 = [p1]) ∨ ∃ p1 p2, q0 = [p1, p2] := by
        match q0, hN with
        | [], _ => exact .inl rfl
        | [p1], _ => exact .inr (.inl ⟨p1, rfl⟩)
        | [p1, p2], _ => exact .inr (.inr ⟨p1, p2, rfl⟩)
        | _ :: _ :: _ :: _, h => exact absurd h (by simp)
      clear hN HPL hpl2
      rcases hq3 with rfl | ⟨p1, rfl⟩ | ⟨p1, p2, rfl⟩
      · change Hid (PS w #[.string ⟨#[]⟩, .string ⟨#[]⟩, .string ⟨#[]⟩, .string pr, .string bu, .int .i64 2] W4) at HP4
        have c3 : W4.cell? ⟨w.heap.size + 1, 3, none⟩ = some (.string pr) := HP4.out.cell 3
        have c4 : W4.cell? ⟨w.heap.size + 1, 4, none⟩ = some (.string bu) := HP4.out.cell 4
        have c5 : W4.cell? ⟨w.heap.size + 1, 5, none⟩ = some (.int .i64 2) := HP4.out.cell 5
        cases hp with
        | true =>
          as_aux_lemma =>
          have HRf : Hid (parseR s = none) := by unfold Hid; rw [HR.out]; cases hb <;> rfl
          go_wp2
          go_step3
          refine (⟨rfl, ?_⟩ : (0 : Nat) = 0 ∧ _)
          go_wp2_with (refine wpList_store_row rfl 43 (.tmp 2) (.tmp 90) rfl w.heap.size #[.string ⟨#[]⟩, .string ⟨#[]⟩, .string ⟨#[]⟩, .string ⟨#[]⟩, .string ⟨#[]⟩, .int .i64 0] rfl rfl 43 #[.string ⟨#[]⟩, .string ⟨#[]⟩, .string ⟨#[]⟩, .string ⟨#[]⟩, .string ⟨#[]⟩, .int .i64 0] HP4.out.z size23 rfl ones23 ?_)
          rw [Exit.noGoto_ret]
          exact bodyPost_ret (results_box rfl _ _ w.heap.size _ rfl (run_loadVar_row _ w.heap.size 43 43 _ (0, 0) _ (setRow_heap _ _ _ _ 43 _ HP4.out.z) Tryz.underlying43 rfl size23)) rfl ⟨by rw [HRf.out]; rfl, below_setRow HP4.out.bel (Nat.le_refl _)⟩
        | false =>
          cases hb with
          | true =>
            as_aux_lemma =>
            have HRf : Hid (parseR s = none) := by unfold Hid; rw [HR.out]; rfl
            go_wp2
            go_step3
            refine (⟨rfl, ?_⟩ : (0 : Nat) = 0 ∧ _)
            go_wp2_with (refine wpList_store_row rfl 43 (.tmp 2) (.tmp 90) rfl w.heap.size #[.string ⟨#[]⟩, .string ⟨#[]⟩, .string ⟨#[]⟩, .string ⟨#[]⟩, .string ⟨#[]⟩, .int .i64 0] rfl rfl 43 #[.string ⟨#[]⟩, .string ⟨#[]⟩, .string ⟨#[]⟩, .string ⟨#[]⟩, .string ⟨#[]⟩, .int .i64 0] HP4.out.z size23 rfl ones23 ?_)
            rw [Exit.noGoto_ret]
            exact bodyPost_ret (results_box rfl _ _ w.heap.size _ rfl (run_loadVar_row _ w.heap.size 43 43 _ (0, 0) _ (setRow_heap _ _ _ _ 43 _ HP4.out.z) Tryz.underlying43 rfl size23)) rfl ⟨by rw [HRf.out]; rfl, below_setRow HP4.out.bel (Nat.le_refl _)⟩
          | false =>
            cases an with
            | false =>
              as_aux_lemma =>
              have HRf : Hid (parseR s = none) := by unfold Hid; rw [HR.out]; rfl
              go_wp2_with fail
              refine (HAN.out _).mono ?_
              rintro _ V1 ⟨rfl, hb1⟩
              have HQ1 := hidM (HP4.out.next hb1)
              have HG1 := hidM (box_kept HRW4.out hb1)
              clear hb1 c3 c4 c5
              have c3 : V1.cell? ⟨w.heap.size + 1, 3, none⟩ = some (.string pr) := HQ1.out.cell 3
              have c4 : V1.cell? ⟨w.heap.size + 1, 4, none⟩ = some (.string bu) := HQ1.out.cell 4
              have c5 : V1.cell? ⟨w.heap.size + 1, 5, none⟩ = some (.int .i64 2) := HQ1.out.cell 5
              go_wp2
              go_step3
              refine (⟨rfl, ?_⟩ : (0 : Nat) = 0 ∧ _)
              go_wp2_with (refine wpList_store_row rfl 43 (.tmp 2) (.tmp 90) rfl w.heap.size #[.string ⟨#[]⟩, .string ⟨#[]⟩, .string ⟨#[]⟩, .string ⟨#[]⟩, .string ⟨#[]⟩, .int .i64 0] rfl rfl 43 #[.string ⟨#[]⟩, .string ⟨#[]⟩, .string ⟨#[]⟩, .string ⟨#[]⟩, .string ⟨#[]⟩, .int .i64 0] HQ1.out.z size23 rfl ones23 ?_)
              rw [Exit.noGoto_ret]
              exact bodyPost_ret (results_box rfl _ _ w.heap.size _ rfl (run_loadVar_row _ w.heap.size 43 43 _ (0, 0) _ (setRow_heap _ _ _ _ 43 _ HQ1.out.z) Tryz.underlying43 rfl size23)) rfl ⟨by rw [HRf.out]; rfl, below_setRow HQ1.out.bel (Nat.le_refl _)⟩
            | true =>
              as_aux_lemma =>
              go_wp2_with fail
              refine (HAN.out _).mono ?_
              rintro _ V1 ⟨rfl, hb1⟩
              have HQ1 := hidM (HP4.out.next hb1)
              have HG1 := hidM (box_kept HRW4.out hb1)
              clear hb1 c3 c4 c5
              have c3 : V1.cell? ⟨w.heap.size + 1, 3, none⟩ = some (.string pr) := HQ1.out.cell 3
              have c4 : V1.cell? ⟨w.heap.size + 1, 4, none⟩ = some (.string bu) := HQ1.out.cell 4
              have c5 : V1.cell? ⟨w.heap.size + 1, 5, none⟩ = some (.int .i64 2) := HQ1.out.cell 5
              obtain ⟨i0, hi, hz0, hz1, hz2⟩ := info_parts info9
              have HOW : Hid ((V1.alloc (.cells #[.string ⟨#[48]⟩, .string ⟨#[48]⟩] 9)).ownsRow (w.heap.size + 2) 9 1 (.slice (some ⟨G, 0, none⟩) 1 1) 1 [.string p0]) := by
                refine ⟨rfl, .inr ⟨G, 1, _, rfl, HBG.out, (_root_.Go.heap_alloc_old _ _ (Array.getElem?_eq_some_iff.1 HG1.out).1).trans HG1.out, Nat.le_refl _, by unfold maxLen; decide, rfl, rfl⟩⟩
              have HBA : Hid (Below V1.heap.size V1 (V1.alloc (.cells #[.string ⟨#[48]⟩, .string ⟨#[48]⟩] 9))) := (Below.refl _ _).alloc (Nat.le_refl _) _
              have HQA := hidM (HQ1.out.next HBA.out)
              have hzs : (w.heap.size + 2 : Nat) ≤ (V1.alloc (.cells #[.string ⟨#[48]⟩, .string ⟨#[48]⟩] 9)).heap.size := by
                have := (Array.getElem?_eq_some_iff.1 HQA.out.v).1
                omega
              have HZS := hidM hzs
              clear hzs
              go_wp2_with (at_builtin; refine wpList_append_own _ rfl _ _ 47 rfl (w.heap.size + 2) 9 i0 (.string ByteArray.empty) 1 16 Tryz.underlying47 hi hz0 hz1 hz2 rfl (by decide) _ 1 [.string p0] rfl HOW.out ⟨V1.heap.size, 0, none⟩ 2 2 [.string ⟨#[48]⟩, .string ⟨#[48]⟩] rfl rfl ?qc2 ?qc3 (by unfold maxLen; decide) (by decide) HZS.out ?_)
              case qc2 =>
                intro j u hj
                rw [Addr.add_lit, cell_of_row _ _ _ _ 9 (0, 0) (_root_.Go.heap_alloc_new _ _)]
                rw [← hj]
                match j with
                | 0 => rfl
                | 1 => rfl
                | j + 2 => simp at hj
              case qc3 =>
                intro u hu
                simp only [List.mem_cons, List.not_mem_nil, or_false] at hu
                rcases hu with rfl | rfl <;> rfl
              intro v' V9 hown hgrow hnil
              have HPG : Hid (PS w #[.string ⟨#[]⟩, .string ⟨#[]⟩, .string ⟨#[]⟩, .string pr, .string bu, .int .i64 2] V9) := HQA.out.grow (Below.refl_grown HZS.out hgrow (by intro j hj; simp [Value.ownBlock] at hj; have := HBG.out; omega))
              rcases hown.2 with ⟨hx, hn0⟩ | ⟨g, cap, cur, rfl, hbase, hbk, h1, h2, h3, h4⟩
              · exact absurd hn0 (by decide)
              have x0 : V9.cell? ⟨g, 0, none⟩ = some (.string p0) := by have := World.ownsRow.cells hown (g := g) rfl 0 (.string p0) rfl; rw [Addr.add_lit] at this; exact this
              have x1 : V9.cell? ⟨g, 1, none⟩ = some (.string ⟨#[48]⟩) := by have := World.ownsRow.cells hown (g := g) rfl 1 (.string ⟨#[48]⟩) rfl; rw [Addr.add_lit] at this; exact this
              have x2 : V9.cell? ⟨g, 2, none⟩ = some (.string ⟨#[48]⟩) := by have := World.ownsRow.cells hown (g := g) rfl 2 (.string ⟨#[48]⟩) rfl; rw [Addr.add_lit] at this; exact this
              have gn1 : g ≠ w.heap.size + 1 := by omega
              have gn2 : w.heap.size + 1 ≠ g := by omega
              have d0 : V9.cell? ⟨w.heap.size + 1, 0, none⟩ = some (.string ⟨#[]⟩) := HPG.out.cell 0
              have d1 : V9.cell? ⟨w.heap.size + 1, 1, none⟩ = some (.string ⟨#[]⟩) := HPG.out.cell 1
              have d2 : V9.cell? ⟨w.heap.size + 1, 2, none⟩ = some (.string ⟨#[]⟩) := HPG.out.cell 2
              have f0 := HPG.out.free 0
              have f1 := HPG.out.free 1
              have f2 := HPG.out.free 2
              clear hown hgrow hnil hbk h1 h2 h3 h4 hbase c3 c4 c5
              go_upto_region 14 with fail
              go_region_held3 (fun w' => w'.cell? ⟨g, 0, none⟩ = V9.cell? ⟨g, 0, none⟩ ∧ w'.cell? ⟨g, 1, none⟩ = V9.cell? ⟨g, 1, none⟩ ∧ w'.cell? ⟨g, 2, none⟩ = V9.cell? ⟨g, 2, none⟩) (go_keep) (fail)
              have HPF : Hid (PS w #[.string p0, .string ⟨#[48]⟩, .string ⟨#[48]⟩, .string pr, .string bu, .int .i64 2] (((V9.setCell ⟨w.heap.size + 1, 0, none⟩ (.string p0)).setCell ⟨w.heap.size + 1, 1, none⟩ (.string ⟨#[48]⟩)).setCell ⟨w.heap.size + 1, 2, none⟩ (.string ⟨#[48]⟩)).drew) := (((HPG.out.set 0 (.string p0)).set 1 (.string ⟨#[48]⟩)).set 2 (.string ⟨#[48]⟩)).drew
              clear x0 x1 x2 d0 d1 d2 f0 f1 f2 HPG
              generalize (((V9.setCell ⟨w.heap.size + 1, 0, none⟩ (.string p0)).setCell ⟨w.heap.size + 1, 1, none⟩ (.string ⟨#[48]⟩)).setCell ⟨w.heap.size + 1, 2, none⟩ (.string ⟨#[48]⟩)).drew = VF at *
              have k0 : VF.cell? ⟨w.heap.size + 1, 0, none⟩ = some (.string p0) := HPF.out.cell 0
              have k1 : VF.cell? ⟨w.heap.size + 1, 1, none⟩ = some (.string ⟨#[48]⟩) := HPF.out.cell 1
              have k2 : VF.cell? ⟨w.heap.size + 1, 2, none⟩ = some (.string ⟨#[48]⟩) := HPF.out.cell 2
              have k3 : VF.cell? ⟨w.heap.size + 1, 3, none⟩ = some (.string pr) := HPF.out.cell 3
              have k4 : VF.cell? ⟨w.heap.size + 1, 4, none⟩ = some (.string bu) := HPF.out.cell 4
              have k5 : VF.cell? ⟨w.heap.size + 1, 5, none⟩ = some (.int .i64 2) := HPF.out.cell 5
              go_wp2_with (refine wpList_store_row rfl 43 (.tmp 2) (.tmp 89) rfl w.heap.size #[.string p0, .string ⟨#[48]⟩, .string ⟨#[48]⟩, .string pr, .string bu, .int .i64 2] rfl rfl 43 #[.string ⟨#[]⟩, .string ⟨#[]⟩, .string ⟨#[]⟩, .string ⟨#[]⟩, .string ⟨#[]⟩, .int .i64 0] HPF.out.z size23 rfl (ones23v _ _ _ _ _ _) ?_)
              simp only [Exit.jump]
              exact bodyPost_ret (results_box rfl _ _ w.heap.size #[.string p0, .string ⟨#[48]⟩, .string ⟨#[48]⟩, .string pr, .string bu, .int .i64 2] rfl (run_loadVar_row _ w.heap.size 43 43 #[.string p0, .string ⟨#[48]⟩, .string ⟨#[48]⟩, .string pr, .string bu, .int .i64 2] (0, 0) _ (setRow_heap _ _ _ _ 43 _ HPF.out.z) Tryz.underlying43 rfl size23)) rfl ⟨by rw [HR.out]; rfl, below_setRow HPF.out.bel (Nat.le_refl _)⟩
      · change Hid (PS w #[.string ⟨#[]⟩, .string ⟨#[]⟩, .string ⟨#[]⟩, .string pr, .string bu, .int .i64 1] W4) at HP4
        have c3 : W4.cell? ⟨w.heap.size + 1, 3, none⟩ = some (.string pr) := HP4.out.cell 3
        have c4 : W4.cell? ⟨w.heap.size + 1, 4, none⟩ = some (.string bu) := HP4.out.cell 4
        have c5 : W4.cell? ⟨w.heap.size + 1, 5, none⟩ = some (.int .i64 1) := HP4.out.cell 5
        cases hp with
        | true =>
          as_aux_lemma =>
          have HRf : Hid (parseR s = none) := by unfold Hid; rw [HR.out]; cases hb <;> rfl
          go_wp2
          go_step3
          refine (⟨rfl, ?_⟩ : (0 : Nat) = 0 ∧ _)
          go_wp2_with (refine wpList_store_row rfl 43 (.tmp 2) (.tmp 90) rfl w.heap.size #[.string ⟨#[]⟩, .string ⟨#[]⟩, .string ⟨#[]⟩, .string ⟨#[]⟩, .string ⟨#[]⟩, .int .i64 0] rfl rfl 43 #[.string ⟨#[]⟩, .string ⟨#[]⟩, .string ⟨#[]⟩, .string ⟨#[]⟩, .string ⟨#[]⟩, .int .i64 0] HP4.out.z size23 rfl ones23 ?_)
          rw [Exit.noGoto_ret]
          exact bodyPost_ret (results_box rfl _ _ w.heap.size _ rfl (run_loadVar_row _ w.heap.size 43 43 _ (0, 0) _ (setRow_heap _ _ _ _ 43 _ HP4.out.z) Tryz.underlying43 rfl size23)) rfl ⟨by rw [HRf.out]; rfl, below_setRow HP4.out.bel (Nat.le_refl _)⟩
        | false =>
          cases hb with
          | true =>
            as_aux_lemma =>
            have HRf : Hid (parseR s = none) := by unfold Hid; rw [HR.out]; rfl
            go_wp2
            go_step3
            refine (⟨rfl, ?_⟩ : (0 : Nat) = 0 ∧ _)
            go_wp2_with (refine wpList_store_row rfl 43 (.tmp 2) (.tmp 90) rfl w.heap.size #[.string ⟨#[]⟩, .string ⟨#[]⟩, .string ⟨#[]⟩, .string ⟨#[]⟩, .string ⟨#[]⟩, .int .i64 0] rfl rfl 43 #[.string ⟨#[]⟩, .string ⟨#[]⟩, .string ⟨#[]⟩, .string ⟨#[]⟩, .string ⟨#[]⟩, .int .i64 0] HP4.out.z size23 rfl ones23 ?_)
            rw [Exit.noGoto_ret]
            exact bodyPost_ret (results_box rfl _ _ w.heap.size _ rfl (run_loadVar_row _ w.heap.size 43 43 _ (0, 0) _ (setRow_heap _ _ _ _ 43 _ HP4.out.z) Tryz.underlying43 rfl size23)) rfl ⟨by rw [HRf.out]; rfl, below_setRow HP4.out.bel (Nat.le_refl _)⟩
          | false =>
            cases an with
            | false =>
              as_aux_lemma =>
              have HRf : Hid (parseR s = none) := by unfold Hid; rw [HR.out]; rfl
              go_wp2_with fail
              refine (HAN.out _).mono ?_
              rintro _ V1 ⟨rfl, hb1⟩
              have HQ1 := hidM (HP4.out.next hb1)
              have HG1 := hidM (box_kept HRW4.out hb1)
              clear hb1 c3 c4 c5
              have c3 : V1.cell? ⟨w.heap.size + 1, 3, none⟩ = some (.string pr) := HQ1.out.cell 3
              have c4 : V1.cell? ⟨w.heap.size + 1, 4, none⟩ = some (.string bu) := HQ1.out.cell 4
              have c5 : V1.cell? ⟨w.heap.size + 1, 5, none⟩ = some (.int .i64 1) := HQ1.out.cell 5
              go_wp2
              go_step3
              refine (⟨rfl, ?_⟩ : (0 : Nat) = 0 ∧ _)
              go_wp2_with (refine wpList_store_row rfl 43 (.tmp 2) (.tmp 90) rfl w.heap.size #[.string ⟨#[]⟩, .string ⟨#[]⟩, .string ⟨#[]⟩, .string ⟨#[]⟩, .string ⟨#[]⟩, .int .i64 0] rfl rfl 43 #[.string ⟨#[]⟩, .string ⟨#[]⟩, .string ⟨#[]⟩, .string ⟨#[]⟩, .string ⟨#[]⟩, .int .i64 0] HQ1.out.z size23 rfl ones23 ?_)
              rw [Exit.noGoto_ret]
              exact bodyPost_ret (results_box rfl _ _ w.heap.size _ rfl (run_loadVar_row _ w.heap.size 43 43 _ (0, 0) _ (setRow_heap _ _ _ _ 43 _ HQ1.out.z) Tryz.underlying43 rfl size23)) rfl ⟨by rw [HRf.out]; rfl, below_setRow HQ1.out.bel (Nat.le_refl _)⟩
            | true =>
              as_aux_lemma =>
              go_wp2_with fail
              refine (HAN.out _).mono ?_
              rintro _ V1 ⟨rfl, hb1⟩
              have HQ1 := hidM (HP4.out.next hb1)
              have HG1 := hidM (box_kept HRW4.out hb1)
              clear hb1 c3 c4 c5
              have c3 : V1.cell? ⟨w.heap.size + 1, 3, none⟩ = some (.string pr) := HQ1.out.cell 3
              have c4 : V1.cell? ⟨w.heap.size + 1, 4, none⟩ = some (.string bu) := HQ1.out.cell 4
              have c5 : V1.cell? ⟨w.heap.size + 1, 5, none⟩ = some (.int .i64 1) := HQ1.out.cell 5
              obtain ⟨i0, hi, hz0, hz1, hz2⟩ := info_parts info9
              have HOW : Hid ((V1.alloc (.cells #[.string ⟨#[48]⟩, .string ⟨#[48]⟩] 9)).ownsRow (w.heap.size + 2) 9 1 (.slice (some ⟨G, 0, none⟩) 2 2) 2 [.string p0, .string p1]) := by
                refine ⟨rfl, .inr ⟨G, 2, _, rfl, HBG.out, (_root_.Go.heap_alloc_old _ _ (Array.getElem?_eq_some_iff.1 HG1.out).1).trans HG1.out, Nat.le_refl _, by unfold maxLen; decide, rfl, rfl⟩⟩
              have HBA : Hid (Below V1.heap.size V1 (V1.alloc (.cells #[.string ⟨#[48]⟩, .string ⟨#[48]⟩] 9))) := (Below.refl _ _).alloc (Nat.le_refl _) _
              have HQA := hidM (HQ1.out.next HBA.out)
              have hzs : (w.heap.size + 2 : Nat) ≤ (V1.alloc (.cells #[.string ⟨#[48]⟩, .string ⟨#[48]⟩] 9)).heap.size := by
                have := (Array.getElem?_eq_some_iff.1 HQA.out.v).1
                omega
              have HZS := hidM hzs
              clear hzs
              go_wp2_with (at_builtin; refine wpList_append_own _ rfl _ _ 47 rfl (w.heap.size + 2) 9 i0 (.string ByteArray.empty) 1 16 Tryz.underlying47 hi hz0 hz1 hz2 rfl (by decide) _ 2 [.string p0, .string p1] rfl HOW.out ⟨V1.heap.size, 0, none⟩ 2 2 [.string ⟨#[48]⟩, .string ⟨#[48]⟩] rfl rfl ?qc2 ?qc3 (by unfold maxLen; decide) (by decide) HZS.out ?_)
              case qc2 =>
                intro j u hj
                rw [Addr.add_lit, cell_of_row _ _ _ _ 9 (0, 0) (_root_.Go.heap_alloc_new _ _)]
                rw [← hj]
                match j with
                | 0 => rfl
                | 1 => rfl
                | j + 2 => simp at hj
              case qc3 =>
                intro u hu
                simp only [List.mem_cons, List.not_mem_nil, or_false] at hu
                rcases hu with rfl | rfl <;> rfl
              intro v' V9 hown hgrow hnil
              have HPG : Hid (PS w #[.string ⟨#[]⟩, .string ⟨#[]⟩, .string ⟨#[]⟩, .string pr, .string bu, .int .i64 1] V9) := HQA.out.grow (Below.refl_grown HZS.out hgrow (by intro j hj; simp [Value.ownBlock] at hj; have := HBG.out; omega))
              rcases hown.2 with ⟨hx, hn0⟩ | ⟨g, cap, cur, rfl, hbase, hbk, h1, h2, h3, h4⟩
              · exact absurd hn0 (by decide)
              have x0 : V9.cell? ⟨g, 0, none⟩ = some (.string p0) := by have := World.ownsRow.cells hown (g := g) rfl 0 (.string p0) rfl; rw [Addr.add_lit] at this; exact this
              have x1 : V9.cell? ⟨g, 1, none⟩ = some (.string p1) := by have := World.ownsRow.cells hown (g := g) rfl 1 (.string p1) rfl; rw [Addr.add_lit] at this; exact this
              have x2 : V9.cell? ⟨g, 2, none⟩ = some (.string ⟨#[48]⟩) := by have := World.ownsRow.cells hown (g := g) rfl 2 (.string ⟨#[48]⟩) rfl; rw [Addr.add_lit] at this; exact this
              have gn1 : g ≠ w.heap.size + 1 := by omega
              have gn2 : w.heap.size + 1 ≠ g := by omega
              have d0 : V9.cell? ⟨w.heap.size + 1, 0, none⟩ = some (.string ⟨#[]⟩) := HPG.out.cell 0
              have d1 : V9.cell? ⟨w.heap.size + 1, 1, none⟩ = some (.string ⟨#[]⟩) := HPG.out.cell 1
              have d2 : V9.cell? ⟨w.heap.size + 1, 2, none⟩ = some (.string ⟨#[]⟩) := HPG.out.cell 2
              have f0 := HPG.out.free 0
              have f1 := HPG.out.free 1
              have f2 := HPG.out.free 2
              clear hown hgrow hnil hbk h1 h2 h3 h4 hbase c3 c4 c5
              go_upto_region 14 with fail
              go_region_held3 (fun w' => w'.cell? ⟨g, 0, none⟩ = V9.cell? ⟨g, 0, none⟩ ∧ w'.cell? ⟨g, 1, none⟩ = V9.cell? ⟨g, 1, none⟩ ∧ w'.cell? ⟨g, 2, none⟩ = V9.cell? ⟨g, 2, none⟩) (go_keep) (fail)
              have HPF : Hid (PS w #[.string p0, .string p1, .string ⟨#[48]⟩, .string pr, .string bu, .int .i64 1] (((V9.setCell ⟨w.heap.size + 1, 0, none⟩ (.string p0)).setCell ⟨w.heap.size + 1, 1, none⟩ (.string p1)).setCell ⟨w.heap.size + 1, 2, none⟩ (.string ⟨#[48]⟩)).drew) := (((HPG.out.set 0 (.string p0)).set 1 (.string p1)).set 2 (.string ⟨#[48]⟩)).drew
              clear x0 x1 x2 d0 d1 d2 f0 f1 f2 HPG
              generalize (((V9.setCell ⟨w.heap.size + 1, 0, none⟩ (.string p0)).setCell ⟨w.heap.size + 1, 1, none⟩ (.string p1)).setCell ⟨w.heap.size + 1, 2, none⟩ (.string ⟨#[48]⟩)).drew = VF at *
              have k0 : VF.cell? ⟨w.heap.size + 1, 0, none⟩ = some (.string p0) := HPF.out.cell 0
              have k1 : VF.cell? ⟨w.heap.size + 1, 1, none⟩ = some (.string p1) := HPF.out.cell 1
              have k2 : VF.cell? ⟨w.heap.size + 1, 2, none⟩ = some (.string ⟨#[48]⟩) := HPF.out.cell 2
              have k3 : VF.cell? ⟨w.heap.size + 1, 3, none⟩ = some (.string pr) := HPF.out.cell 3
              have k4 : VF.cell? ⟨w.heap.size + 1, 4, none⟩ = some (.string bu) := HPF.out.cell 4
              have k5 : VF.cell? ⟨w.heap.size + 1, 5, none⟩ = some (.int .i64 1) := HPF.out.cell 5
              go_wp2_with (refine wpList_store_row rfl 43 (.tmp 2) (.tmp 89) rfl w.heap.size #[.string p0, .string p1, .string ⟨#[48]⟩, .string pr, .string bu, .int .i64 1] rfl rfl 43 #[.string ⟨#[]⟩, .string ⟨#[]⟩, .string ⟨#[]⟩, .string ⟨#[]⟩, .string ⟨#[]⟩, .int .i64 0] HPF.out.z size23 rfl (ones23v _ _ _ _ _ _) ?_)
              simp only [Exit.jump]
              exact bodyPost_ret (results_box rfl _ _ w.heap.size #[.string p0, .string p1, .string ⟨#[48]⟩, .string pr, .string bu, .int .i64 1] rfl (run_loadVar_row _ w.heap.size 43 43 #[.string p0, .string p1, .string ⟨#[48]⟩, .string pr, .string bu, .int .i64 1] (0, 0) _ (setRow_heap _ _ _ _ 43 _ HPF.out.z) Tryz.underlying43 rfl size23)) rfl ⟨by rw [HR.out]; rfl, below_setRow HPF.out.bel (Nat.le_refl _)⟩
      · change Hid (PS w #[.string ⟨#[]⟩, .string ⟨#[]⟩, .string ⟨#[]⟩, .string pr, .string bu, .int .i64 0] W4) at HP4
        have c3 : W4.cell? ⟨w.heap.size + 1, 3, none⟩ = some (.string pr) := HP4.out.cell 3
        have c4 : W4.cell? ⟨w.heap.size + 1, 4, none⟩ = some (.string bu) := HP4.out.cell 4
        have c5 : W4.cell? ⟨w.heap.size + 1, 5, none⟩ = some (.int .i64 0) := HP4.out.cell 5
        cases hp with
        | true =>
          cases ap with
          | false =>
            as_aux_lemma =>
            have HRf : Hid (parseR s = none) := by unfold Hid; rw [HR.out]; cases hb <;> rfl
            go_wp2_with fail
            refine (HAP.out _).mono ?_
            rintro _ V1 ⟨rfl, hb1⟩
            have HQ1 := hidM (HP4.out.next hb1)
            have HG1 := hidM (box_kept HRW4.out hb1)
            clear hb1 c3 c4 c5
            have c3 : V1.cell? ⟨w.heap.size + 1, 3, none⟩ = some (.string pr) := HQ1.out.cell 3
            have c4 : V1.cell? ⟨w.heap.size + 1, 4, none⟩ = some (.string bu) := HQ1.out.cell 4
            have c5 : V1.cell? ⟨w.heap.size + 1, 5, none⟩ = some (.int .i64 0) := HQ1.out.cell 5
            go_wp2
            go_step3
            refine (⟨rfl, ?_⟩ : (0 : Nat) = 0 ∧ _)
            go_wp2_with (refine wpList_store_row rfl 43 (.tmp 2) (.tmp 90) rfl w.heap.size #[.string ⟨#[]⟩, .string ⟨#[]⟩, .string ⟨#[]⟩, .string ⟨#[]⟩, .string ⟨#[]⟩, .int .i64 0] rfl rfl 43 #[.string ⟨#[]⟩, .string ⟨#[]⟩, .string ⟨#[]⟩, .string ⟨#[]⟩, .string ⟨#[]⟩, .int .i64 0] HQ1.out.z size23 rfl ones23 ?_)
            rw [Exit.noGoto_ret]
            exact bodyPost_ret (results_box rfl _ _ w.heap.size _ rfl (run_loadVar_row _ w.heap.size 43 43 _ (0, 0) _ (setRow_heap _ _ _ _ 43 _ HQ1.out.z) Tryz.underlying43 rfl size23)) rfl ⟨by rw [HRf.out]; rfl, below_setRow HQ1.out.bel (Nat.le_refl _)⟩
          | true =>
            cases hb with
            | true =>
              cases aw with
              | false =>
                as_aux_lemma =>
                have HRf : Hid (parseR s = none) := by unfold Hid; rw [HR.out]; rfl
                go_wp2_with fail
                refine (HAP.out _).mono ?_
                rintro _ V1 ⟨rfl, hb1⟩
                have HQ1 := hidM (HP4.out.next hb1)
                have HG1 := hidM (box_kept HRW4.out hb1)
                clear hb1 c3 c4 c5
                have c3 : V1.cell? ⟨w.heap.size + 1, 3, none⟩ = some (.string pr) := HQ1.out.cell 3
                have c4 : V1.cell? ⟨w.heap.size + 1, 4, none⟩ = some (.string bu) := HQ1.out.cell 4
                have c5 : V1.cell? ⟨w.heap.size + 1, 5, none⟩ = some (.int .i64 0) := HQ1.out.cell 5
                go_wp2_with fail
                refine (HAW.out _).mono ?_
                rintro _ V2 ⟨rfl, hb2⟩
                have HQ2 := hidM (HQ1.out.next hb2)
                have HG2 := hidM (box_kept HG1.out hb2)
                clear hb2 c3 c4 c5
                have c3 : V2.cell? ⟨w.heap.size + 1, 3, none⟩ = some (.string pr) := HQ2.out.cell 3
                have c4 : V2.cell? ⟨w.heap.size + 1, 4, none⟩ = some (.string bu) := HQ2.out.cell 4
                have c5 : V2.cell? ⟨w.heap.size + 1, 5, none⟩ = some (.int .i64 0) := HQ2.out.cell 5
                go_wp2
                go_step3
                refine (⟨rfl, ?_⟩ : (0 : Nat) = 0 ∧ _)
                go_wp2_with (refine wpList_store_row rfl 43 (.tmp 2) (.tmp 90) rfl w.heap.size #[.string ⟨#[]⟩, .string ⟨#[]⟩, .string ⟨#[]⟩, .string ⟨#[]⟩, .string ⟨#[]⟩, .int .i64 0] rfl rfl 43 #[.string ⟨#[]⟩, .string ⟨#[]⟩, .string ⟨#[]⟩, .string ⟨#[]⟩, .string ⟨#[]⟩, .int .i64 0] HQ2.out.z size23 rfl ones23 ?_)
                rw [Exit.noGoto_ret]
                exact bodyPost_ret (results_box rfl _ _ w.heap.size _ rfl (run_loadVar_row _ w.heap.size 43 43 _ (0, 0) _ (setRow_heap _ _ _ _ 43 _ HQ2.out.z) Tryz.underlying43 rfl size23)) rfl ⟨by rw [HRf.out]; rfl, below_setRow HQ2.out.bel (Nat.le_refl _)⟩
              | true =>
                cases an with
                | false =>
                  as_aux_lemma =>
                  have HRf : Hid (parseR s = none) := by unfold Hid; rw [HR.out]; rfl
                  go_wp2_with fail
                  refine (HAP.out _).mono ?_
                  rintro _ V1 ⟨rfl, hb1⟩
                  have HQ1 := hidM (HP4.out.next hb1)
                  have HG1 := hidM (box_kept HRW4.out hb1)
                  clear hb1 c3 c4 c5
                  have c3 : V1.cell? ⟨w.heap.size + 1, 3, none⟩ = some (.string pr) := HQ1.out.cell 3
                  have c4 : V1.cell? ⟨w.heap.size + 1, 4, none⟩ = some (.string bu) := HQ1.out.cell 4
                  have c5 : V1.cell? ⟨w.heap.size + 1, 5, none⟩ = some (.int .i64 0) := HQ1.out.cell 5
                  go_wp2_with fail
                  refine (HAW.out _).mono ?_
                  rintro _ V2 ⟨rfl, hb2⟩
                  have HQ2 := hidM (HQ1.out.next hb2)
                  have HG2 := hidM (box_kept HG1.out hb2)
                  clear hb2 c3 c4 c5
                  have c3 : V2.cell? ⟨w.heap.size + 1, 3, none⟩ = some (.string pr) := HQ2.out.cell 3
                  have c4 : V2.cell? ⟨w.heap.size + 1, 4, none⟩ = some (.string bu) := HQ2.out.cell 4
                  have c5 : V2.cell? ⟨w.heap.size + 1, 5, none⟩ = some (.int .i64 0) := HQ2.out.cell 5
                  go_wp2_with fail
                  refine (HAN.out _).mono ?_
                  rintro _ V3 ⟨rfl, hb3⟩
                  have HQ3 := hidM (HQ2.out.next hb3)
                  have HG3 := hidM (box_kept HG2.out hb3)
                  clear hb3 c3 c4 c5
                  have c3 : V3.cell? ⟨w.heap.size + 1, 3, none⟩ = some (.string pr) := HQ3.out.cell 3
                  have c4 : V3.cell? ⟨w.heap.size + 1, 4, none⟩ = some (.string bu) := HQ3.out.cell 4
                  have c5 : V3.cell? ⟨w.heap.size + 1, 5, none⟩ = some (.int .i64 0) := HQ3.out.cell 5
                  go_wp2
                  go_step3
                  refine (⟨rfl, ?_⟩ : (0 : Nat) = 0 ∧ _)
                  go_wp2_with (refine wpList_store_row rfl 43 (.tmp 2) (.tmp 90) rfl w.heap.size #[.string ⟨#[]⟩, .string ⟨#[]⟩, .string ⟨#[]⟩, .string ⟨#[]⟩, .string ⟨#[]⟩, .int .i64 0] rfl rfl 43 #[.string ⟨#[]⟩, .string ⟨#[]⟩, .string ⟨#[]⟩, .string ⟨#[]⟩, .string ⟨#[]⟩, .int .i64 0] HQ3.out.z size23 rfl ones23 ?_)
                  rw [Exit.noGoto_ret]
                  exact bodyPost_ret (results_box rfl _ _ w.heap.size _ rfl (run_loadVar_row _ w.heap.size 43 43 _ (0, 0) _ (setRow_heap _ _ _ _ 43 _ HQ3.out.z) Tryz.underlying43 rfl size23)) rfl ⟨by rw [HRf.out]; rfl, below_setRow HQ3.out.bel (Nat.le_refl _)⟩
                | true =>
                  as_aux_lemma =>
                  go_wp2_with fail
                  refine (HAP.out _).mono ?_
                  rintro _ V1 ⟨rfl, hb1⟩
                  have HQ1 := hidM (HP4.out.next hb1)
                  have HG1 := hidM (box_kept HRW4.out hb1)
                  clear hb1 c3 c4 c5
                  have c3 : V1.cell? ⟨w.heap.size + 1, 3, none⟩ = some (.string pr) := HQ1.out.cell 3
                  have c4 : V1.cell? ⟨w.heap.size + 1, 4, none⟩ = some (.string bu) := HQ1.out.cell 4
                  have c5 : V1.cell? ⟨w.heap.size + 1, 5, none⟩ = some (.int .i64 0) := HQ1.out.cell 5
                  go_wp2_with fail
                  refine (HAW.out _).mono ?_
                  rintro _ V2 ⟨rfl, hb2⟩
                  have HQ2 := hidM (HQ1.out.next hb2)
                  have HG2 := hidM (box_kept HG1.out hb2)
                  clear hb2 c3 c4 c5
                  have c3 : V2.cell? ⟨w.heap.size + 1, 3, none⟩ = some (.string pr) := HQ2.out.cell 3
                  have c4 : V2.cell? ⟨w.heap.size + 1, 4, none⟩ = some (.string bu) := HQ2.out.cell 4
                  have c5 : V2.cell? ⟨w.heap.size + 1, 5, none⟩ = some (.int .i64 0) := HQ2.out.cell 5
                  go_wp2_with fail
                  refine (HAN.out _).mono ?_
                  rintro _ V3 ⟨rfl, hb3⟩
                  have HQ3 := hidM (HQ2.out.next hb3)
                  have HG3 := hidM (box_kept HG2.out hb3)
                  clear hb3 c3 c4 c5
                  have c3 : V3.cell? ⟨w.heap.size + 1, 3, none⟩ = some (.string pr) := HQ3.out.cell 3
                  have c4 : V3.cell? ⟨w.heap.size + 1, 4, none⟩ = some (.string bu) := HQ3.out.cell 4
                  have c5 : V3.cell? ⟨w.heap.size + 1, 5, none⟩ = some (.int .i64 0) := HQ3.out.cell 5
                  obtain ⟨i0, hi, hz0, hz1, hz2⟩ := info_parts info9
                  have HOW : Hid ((V3.alloc (.cells #[.string ⟨#[48]⟩, .string ⟨#[48]⟩] 9)).ownsRow (w.heap.size + 2) 9 1 (.slice (some ⟨G, 0, none⟩) 3 3) 3 [.string p0, .string p1, .string p2]) := by
                    refine ⟨rfl, .inr ⟨G, 3, _, rfl, HBG.out, (_root_.Go.heap_alloc_old _ _ (Array.getElem?_eq_some_iff.1 HG3.out).1).trans HG3.out, Nat.le_refl _, by unfold maxLen; decide, rfl, rfl⟩⟩
                  have HBA : Hid (Below V3.heap.size V3 (V3.alloc (.cells #[.string ⟨#[48]⟩, .string ⟨#[48]⟩] 9))) := (Below.refl _ _).alloc (Nat.le_refl _) _
                  have HQA := hidM (HQ3.out.next HBA.out)
                  have hzs : (w.heap.size + 2 : Nat) ≤ (V3.alloc (.cells #[.string ⟨#[48]⟩, .string ⟨#[48]⟩] 9)).heap.size := by
                    have := (Array.getElem?_eq_some_iff.1 HQA.out.v).1
                    omega
                  have HZS := hidM hzs
                  clear hzs
                  go_wp2_with (at_builtin; refine wpList_append_own _ rfl _ _ 47 rfl (w.heap.size + 2) 9 i0 (.string ByteArray.empty) 1 16 Tryz.underlying47 hi hz0 hz1 hz2 rfl (by decide) _ 3 [.string p0, .string p1, .string p2] rfl HOW.out ⟨V3.heap.size, 0, none⟩ 2 2 [.string ⟨#[48]⟩, .string ⟨#[48]⟩] rfl rfl ?qc2 ?qc3 (by unfold maxLen; decide) (by decide) HZS.out ?_)
                  case qc2 =>
                    intro j u hj
                    rw [Addr.add_lit, cell_of_row _ _ _ _ 9 (0, 0) (_root_.Go.heap_alloc_new _ _)]
                    rw [← hj]
                    match j with
                    | 0 => rfl
                    | 1 => rfl
                    | j + 2 => simp at hj
                  case qc3 =>
                    intro u hu
                    simp only [List.mem_cons, List.not_mem_nil, or_false] at hu
                    rcases hu with rfl | rfl <;> rfl
                  intro v' V9 hown hgrow hnil
                  have HPG : Hid (PS w #[.string ⟨#[]⟩, .string ⟨#[]⟩, .string ⟨#[]⟩, .string pr, .string bu, .int .i64 0] V9) := HQA.out.grow (Below.refl_grown HZS.out hgrow (by intro j hj; simp [Value.ownBlock] at hj; have := HBG.out; omega))
                  rcases hown.2 with ⟨hx, hn0⟩ | ⟨g, cap, cur, rfl, hbase, hbk, h1, h2, h3, h4⟩
                  · exact absurd hn0 (by decide)
                  have x0 : V9.cell? ⟨g, 0, none⟩ = some (.string p0) := by have := World.ownsRow.cells hown (g := g) rfl 0 (.string p0) rfl; rw [Addr.add_lit] at this; exact this
                  have x1 : V9.cell? ⟨g, 1, none⟩ = some (.string p1) := by have := World.ownsRow.cells hown (g := g) rfl 1 (.string p1) rfl; rw [Addr.add_lit] at this; exact this
                  have x2 : V9.cell? ⟨g, 2, none⟩ = some (.string p2) := by have := World.ownsRow.cells hown (g := g) rfl 2 (.string p2) rfl; rw [Addr.add_lit] at this; exact this
                  have gn1 : g ≠ w.heap.size + 1 := by omega
                  have gn2 : w.heap.size + 1 ≠ g := by omega
                  have d0 : V9.cell? ⟨w.heap.size + 1, 0, none⟩ = some (.string ⟨#[]⟩) := HPG.out.cell 0
                  have d1 : V9.cell? ⟨w.heap.size + 1, 1, none⟩ = some (.string ⟨#[]⟩) := HPG.out.cell 1
                  have d2 : V9.cell? ⟨w.heap.size + 1, 2, none⟩ = some (.string ⟨#[]⟩) := HPG.out.cell 2
                  have f0 := HPG.out.free 0
                  have f1 := HPG.out.free 1
                  have f2 := HPG.out.free 2
                  clear hown hgrow hnil hbk h1 h2 h3 h4 hbase c3 c4 c5
                  go_upto_region 14 with fail
                  go_region_held3 (fun w' => w'.cell? ⟨g, 0, none⟩ = V9.cell? ⟨g, 0, none⟩ ∧ w'.cell? ⟨g, 1, none⟩ = V9.cell? ⟨g, 1, none⟩ ∧ w'.cell? ⟨g, 2, none⟩ = V9.cell? ⟨g, 2, none⟩) (go_keep) (fail)
                  have HPF : Hid (PS w #[.string p0, .string p1, .string p2, .string pr, .string bu, .int .i64 0] (((V9.setCell ⟨w.heap.size + 1, 0, none⟩ (.string p0)).setCell ⟨w.heap.size + 1, 1, none⟩ (.string p1)).setCell ⟨w.heap.size + 1, 2, none⟩ (.string p2)).drew) := (((HPG.out.set 0 (.string p0)).set 1 (.string p1)).set 2 (.string p2)).drew
                  clear x0 x1 x2 d0 d1 d2 f0 f1 f2 HPG
                  generalize (((V9.setCell ⟨w.heap.size + 1, 0, none⟩ (.string p0)).setCell ⟨w.heap.size + 1, 1, none⟩ (.string p1)).setCell ⟨w.heap.size + 1, 2, none⟩ (.string p2)).drew = VF at *
                  have k0 : VF.cell? ⟨w.heap.size + 1, 0, none⟩ = some (.string p0) := HPF.out.cell 0
                  have k1 : VF.cell? ⟨w.heap.size + 1, 1, none⟩ = some (.string p1) := HPF.out.cell 1
                  have k2 : VF.cell? ⟨w.heap.size + 1, 2, none⟩ = some (.string p2) := HPF.out.cell 2
                  have k3 : VF.cell? ⟨w.heap.size + 1, 3, none⟩ = some (.string pr) := HPF.out.cell 3
                  have k4 : VF.cell? ⟨w.heap.size + 1, 4, none⟩ = some (.string bu) := HPF.out.cell 4
                  have k5 : VF.cell? ⟨w.heap.size + 1, 5, none⟩ = some (.int .i64 0) := HPF.out.cell 5
                  go_wp2_with (refine wpList_store_row rfl 43 (.tmp 2) (.tmp 89) rfl w.heap.size #[.string p0, .string p1, .string p2, .string pr, .string bu, .int .i64 0] rfl rfl 43 #[.string ⟨#[]⟩, .string ⟨#[]⟩, .string ⟨#[]⟩, .string ⟨#[]⟩, .string ⟨#[]⟩, .int .i64 0] HPF.out.z size23 rfl (ones23v _ _ _ _ _ _) ?_)
                  simp only [Exit.jump]
                  exact bodyPost_ret (results_box rfl _ _ w.heap.size #[.string p0, .string p1, .string p2, .string pr, .string bu, .int .i64 0] rfl (run_loadVar_row _ w.heap.size 43 43 #[.string p0, .string p1, .string p2, .string pr, .string bu, .int .i64 0] (0, 0) _ (setRow_heap _ _ _ _ 43 _ HPF.out.z) Tryz.underlying43 rfl size23)) rfl ⟨by rw [HR.out]; rfl, below_setRow HPF.out.bel (Nat.le_refl _)⟩
            | false =>
              cases an with
              | false =>
                as_aux_lemma =>
                have HRf : Hid (parseR s = none) := by unfold Hid; rw [HR.out]; rfl
                go_wp2_with fail
                refine (HAP.out _).mono ?_
                rintro _ V1 ⟨rfl, hb1⟩
                have HQ1 := hidM (HP4.out.next hb1)
                have HG1 := hidM (box_kept HRW4.out hb1)
                clear hb1 c3 c4 c5
                have c3 : V1.cell? ⟨w.heap.size + 1, 3, none⟩ = some (.string pr) := HQ1.out.cell 3
                have c4 : V1.cell? ⟨w.heap.size + 1, 4, none⟩ = some (.string bu) := HQ1.out.cell 4
                have c5 : V1.cell? ⟨w.heap.size + 1, 5, none⟩ = some (.int .i64 0) := HQ1.out.cell 5
                go_wp2_with fail
                refine (HAN.out _).mono ?_
                rintro _ V2 ⟨rfl, hb2⟩
                have HQ2 := hidM (HQ1.out.next hb2)
                have HG2 := hidM (box_kept HG1.out hb2)
                clear hb2 c3 c4 c5
                have c3 : V2.cell? ⟨w.heap.size + 1, 3, none⟩ = some (.string pr) := HQ2.out.cell 3
                have c4 : V2.cell? ⟨w.heap.size + 1, 4, none⟩ = some (.string bu) := HQ2.out.cell 4
                have c5 : V2.cell? ⟨w.heap.size + 1, 5, none⟩ = some (.int .i64 0) := HQ2.out.cell 5
                go_wp2
                go_step3
                refine (⟨rfl, ?_⟩ : (0 : Nat) = 0 ∧ _)
                go_wp2_with (refine wpList_store_row rfl 43 (.tmp 2) (.tmp 90) rfl w.heap.size #[.string ⟨#[]⟩, .string ⟨#[]⟩, .string ⟨#[]⟩, .string ⟨#[]⟩, .string ⟨#[]⟩, .int .i64 0] rfl rfl 43 #[.string ⟨#[]⟩, .string ⟨#[]⟩, .string ⟨#[]⟩, .string ⟨#[]⟩, .string ⟨#[]⟩, .int .i64 0] HQ2.out.z size23 rfl ones23 ?_)
                rw [Exit.noGoto_ret]
                exact bodyPost_ret (results_box rfl _ _ w.heap.size _ rfl (run_loadVar_row _ w.heap.size 43 43 _ (0, 0) _ (setRow_heap _ _ _ _ 43 _ HQ2.out.z) Tryz.underlying43 rfl size23)) rfl ⟨by rw [HRf.out]; rfl, below_setRow HQ2.out.bel (Nat.le_refl _)⟩
              | true =>
                as_aux_lemma =>
                go_wp2_with fail
                refine (HAP.out _).mono ?_
                rintro _ V1 ⟨rfl, hb1⟩
                have HQ1 := hidM (HP4.out.next hb1)
                have HG1 := hidM (box_kept HRW4.out hb1)
                clear hb1 c3 c4 c5
                have c3 : V1.cell? ⟨w.heap.size + 1, 3, none⟩ = some (.string pr) := HQ1.out.cell 3
                have c4 : V1.cell? ⟨w.heap.size + 1, 4, none⟩ = some (.string bu) := HQ1.out.cell 4
                have c5 : V1.cell? ⟨w.heap.size + 1, 5, none⟩ = some (.int .i64 0) := HQ1.out.cell 5
                go_wp2_with fail
                refine (HAN.out _).mono ?_
                rintro _ V2 ⟨rfl, hb2⟩
                have HQ2 := hidM (HQ1.out.next hb2)
                have HG2 := hidM (box_kept HG1.out hb2)
                clear hb2 c3 c4 c5
                have c3 : V2.cell? ⟨w.heap.size + 1, 3, none⟩ = some (.string pr) := HQ2.out.cell 3
                have c4 : V2.cell? ⟨w.heap.size + 1, 4, none⟩ = some (.string bu) := HQ2.out.cell 4
                have c5 : V2.cell? ⟨w.heap.size + 1, 5, none⟩ = some (.int .i64 0) := HQ2.out.cell 5
                obtain ⟨i0, hi, hz0, hz1, hz2⟩ := info_parts info9
                have HOW : Hid ((V2.alloc (.cells #[.string ⟨#[48]⟩, .string ⟨#[48]⟩] 9)).ownsRow (w.heap.size + 2) 9 1 (.slice (some ⟨G, 0, none⟩) 3 3) 3 [.string p0, .string p1, .string p2]) := by
                  refine ⟨rfl, .inr ⟨G, 3, _, rfl, HBG.out, (_root_.Go.heap_alloc_old _ _ (Array.getElem?_eq_some_iff.1 HG2.out).1).trans HG2.out, Nat.le_refl _, by unfold maxLen; decide, rfl, rfl⟩⟩
                have HBA : Hid (Below V2.heap.size V2 (V2.alloc (.cells #[.string ⟨#[48]⟩, .string ⟨#[48]⟩] 9))) := (Below.refl _ _).alloc (Nat.le_refl _) _
                have HQA := hidM (HQ2.out.next HBA.out)
                have hzs : (w.heap.size + 2 : Nat) ≤ (V2.alloc (.cells #[.string ⟨#[48]⟩, .string ⟨#[48]⟩] 9)).heap.size := by
                  have := (Array.getElem?_eq_some_iff.1 HQA.out.v).1
                  omega
                have HZS := hidM hzs
                clear hzs
                go_wp2_with (at_builtin; refine wpList_append_own _ rfl _ _ 47 rfl (w.heap.size + 2) 9 i0 (.string ByteArray.empty) 1 16 Tryz.underlying47 hi hz0 hz1 hz2 rfl (by decide) _ 3 [.string p0, .string p1, .string p2] rfl HOW.out ⟨V2.heap.size, 0, none⟩ 2 2 [.string ⟨#[48]⟩, .string ⟨#[48]⟩] rfl rfl ?qc2 ?qc3 (by unfold maxLen; decide) (by decide) HZS.out ?_)
                case qc2 =>
                  intro j u hj
                  rw [Addr.add_lit, cell_of_row _ _ _ _ 9 (0, 0) (_root_.Go.heap_alloc_new _ _)]
                  rw [← hj]
                  match j with
                  | 0 => rfl
                  | 1 => rfl
                  | j + 2 => simp at hj
                case qc3 =>
                  intro u hu
                  simp only [List.mem_cons, List.not_mem_nil, or_false] at hu
                  rcases hu with rfl | rfl <;> rfl
                intro v' V9 hown hgrow hnil
                have HPG : Hid (PS w #[.string ⟨#[]⟩, .string ⟨#[]⟩, .string ⟨#[]⟩, .string pr, .string bu, .int .i64 0] V9) := HQA.out.grow (Below.refl_grown HZS.out hgrow (by intro j hj; simp [Value.ownBlock] at hj; have := HBG.out; omega))
                rcases hown.2 with ⟨hx, hn0⟩ | ⟨g, cap, cur, rfl, hbase, hbk, h1, h2, h3, h4⟩
                · exact absurd hn0 (by decide)
                have x0 : V9.cell? ⟨g, 0, none⟩ = some (.string p0) := by have := World.ownsRow.cells hown (g := g) rfl 0 (.string p0) rfl; rw [Addr.add_lit] at this; exact this
                have x1 : V9.cell? ⟨g, 1, none⟩ = some (.string p1) := by have := World.ownsRow.cells hown (g := g) rfl 1 (.string p1) rfl; rw [Addr.add_lit] at this; exact this
                have x2 : V9.cell? ⟨g, 2, none⟩ = some (.string p2) := by have := World.ownsRow.cells hown (g := g) rfl 2 (.string p2) rfl; rw [Addr.add_lit] at this; exact this
                have gn1 : g ≠ w.heap.size + 1 := by omega
                have gn2 : w.heap.size + 1 ≠ g := by omega
                have d0 : V9.cell? ⟨w.heap.size + 1, 0, none⟩ = some (.string ⟨#[]⟩) := HPG.out.cell 0
                have d1 : V9.cell? ⟨w.heap.size + 1, 1, none⟩ = some (.string ⟨#[]⟩) := HPG.out.cell 1
                have d2 : V9.cell? ⟨w.heap.size + 1, 2, none⟩ = some (.string ⟨#[]⟩) := HPG.out.cell 2
                have f0 := HPG.out.free 0
                have f1 := HPG.out.free 1
                have f2 := HPG.out.free 2
                clear hown hgrow hnil hbk h1 h2 h3 h4 hbase c3 c4 c5
                go_upto_region 14 with fail
                go_region_held3 (fun w' => w'.cell? ⟨g, 0, none⟩ = V9.cell? ⟨g, 0, none⟩ ∧ w'.cell? ⟨g, 1, none⟩ = V9.cell? ⟨g, 1, none⟩ ∧ w'.cell? ⟨g, 2, none⟩ = V9.cell? ⟨g, 2, none⟩) (go_keep) (fail)
                have HPF : Hid (PS w #[.string p0, .string p1, .string p2, .string pr, .string bu, .int .i64 0] (((V9.setCell ⟨w.heap.size + 1, 0, none⟩ (.string p0)).setCell ⟨w.heap.size + 1, 1, none⟩ (.string p1)).setCell ⟨w.heap.size + 1, 2, none⟩ (.string p2)).drew) := (((HPG.out.set 0 (.string p0)).set 1 (.string p1)).set 2 (.string p2)).drew
                clear x0 x1 x2 d0 d1 d2 f0 f1 f2 HPG
                generalize (((V9.setCell ⟨w.heap.size + 1, 0, none⟩ (.string p0)).setCell ⟨w.heap.size + 1, 1, none⟩ (.string p1)).setCell ⟨w.heap.size + 1, 2, none⟩ (.string p2)).drew = VF at *
                have k0 : VF.cell? ⟨w.heap.size + 1, 0, none⟩ = some (.string p0) := HPF.out.cell 0
                have k1 : VF.cell? ⟨w.heap.size + 1, 1, none⟩ = some (.string p1) := HPF.out.cell 1
                have k2 : VF.cell? ⟨w.heap.size + 1, 2, none⟩ = some (.string p2) := HPF.out.cell 2
                have k3 : VF.cell? ⟨w.heap.size + 1, 3, none⟩ = some (.string pr) := HPF.out.cell 3
                have k4 : VF.cell? ⟨w.heap.size + 1, 4, none⟩ = some (.string bu) := HPF.out.cell 4
                have k5 : VF.cell? ⟨w.heap.size + 1, 5, none⟩ = some (.int .i64 0) := HPF.out.cell 5
                go_wp2_with (refine wpList_store_row rfl 43 (.tmp 2) (.tmp 89) rfl w.heap.size #[.string p0, .string p1, .string p2, .string pr, .string bu, .int .i64 0] rfl rfl 43 #[.string ⟨#[]⟩, .string ⟨#[]⟩, .string ⟨#[]⟩, .string ⟨#[]⟩, .string ⟨#[]⟩, .int .i64 0] HPF.out.z size23 rfl (ones23v _ _ _ _ _ _) ?_)
                simp only [Exit.jump]
                exact bodyPost_ret (results_box rfl _ _ w.heap.size #[.string p0, .string p1, .string p2, .string pr, .string bu, .int .i64 0] rfl (run_loadVar_row _ w.heap.size 43 43 #[.string p0, .string p1, .string p2, .string pr, .string bu, .int .i64 0] (0, 0) _ (setRow_heap _ _ _ _ 43 _ HPF.out.z) Tryz.underlying43 rfl size23)) rfl ⟨by rw [HR.out]; rfl, below_setRow HPF.out.bel (Nat.le_refl _)⟩
        | false =>
          cases hb with
          | true =>
            cases aw with
            | false =>
              as_aux_lemma =>
              have HRf : Hid (parseR s = none) := by unfold Hid; rw [HR.out]; rfl
              go_wp2_with fail
              refine (HAW.out _).mono ?_
              rintro _ V1 ⟨rfl, hb1⟩
              have HQ1 := hidM (HP4.out.next hb1)
              have HG1 := hidM (box_kept HRW4.out hb1)
              clear hb1 c3 c4 c5
              have c3 : V1.cell? ⟨w.heap.size + 1, 3, none⟩ = some (.string pr) := HQ1.out.cell 3
              have c4 : V1.cell? ⟨w.heap.size + 1, 4, none⟩ = some (.string bu) := HQ1.out.cell 4
              have c5 : V1.cell? ⟨w.heap.size + 1, 5, none⟩ = some (.int .i64 0) := HQ1.out.cell 5
              go_wp2
              go_step3
              refine (⟨rfl, ?_⟩ : (0 : Nat) = 0 ∧ _)
              go_wp2_with (refine wpList_store_row rfl 43 (.tmp 2) (.tmp 90) rfl w.heap.size #[.string ⟨#[]⟩, .string ⟨#[]⟩, .string ⟨#[]⟩, .string ⟨#[]⟩, .string ⟨#[]⟩, .int .i64 0] rfl rfl 43 #[.string ⟨#[]⟩, .string ⟨#[]⟩, .string ⟨#[]⟩, .string ⟨#[]⟩, .string ⟨#[]⟩, .int .i64 0] HQ1.out.z size23 rfl ones23 ?_)
              rw [Exit.noGoto_ret]
              exact bodyPost_ret (results_box rfl _ _ w.heap.size _ rfl (run_loadVar_row _ w.heap.size 43 43 _ (0, 0) _ (setRow_heap _ _ _ _ 43 _ HQ1.out.z) Tryz.underlying43 rfl size23)) rfl ⟨by rw [HRf.out]; rfl, below_setRow HQ1.out.bel (Nat.le_refl _)⟩
            | true =>
              cases an with
              | false =>
                as_aux_lemma =>
                have HRf : Hid (parseR s = none) := by unfold Hid; rw [HR.out]; rfl
                go_wp2_with fail
                refine (HAW.out _).mono ?_
                rintro _ V1 ⟨rfl, hb1⟩
                have HQ1 := hidM (HP4.out.next hb1)
                have HG1 := hidM (box_kept HRW4.out hb1)
                clear hb1 c3 c4 c5
                have c3 : V1.cell? ⟨w.heap.size + 1, 3, none⟩ = some (.string pr) := HQ1.out.cell 3
                have c4 : V1.cell? ⟨w.heap.size + 1, 4, none⟩ = some (.string bu) := HQ1.out.cell 4
                have c5 : V1.cell? ⟨w.heap.size + 1, 5, none⟩ = some (.int .i64 0) := HQ1.out.cell 5
                go_wp2_with fail
                refine (HAN.out _).mono ?_
                rintro _ V2 ⟨rfl, hb2⟩
                have HQ2 := hidM (HQ1.out.next hb2)
                have HG2 := hidM (box_kept HG1.out hb2)
                clear hb2 c3 c4 c5
                have c3 : V2.cell? ⟨w.heap.size + 1, 3, none⟩ = some (.string pr) := HQ2.out.cell 3
                have c4 : V2.cell? ⟨w.heap.size + 1, 4, none⟩ = some (.string bu) := HQ2.out.cell 4
                have c5 : V2.cell? ⟨w.heap.size + 1, 5, none⟩ = some (.int .i64 0) := HQ2.out.cell 5
                go_wp2
                go_step3
                refine (⟨rfl, ?_⟩ : (0 : Nat) = 0 ∧ _)
                go_wp2_with (refine wpList_store_row rfl 43 (.tmp 2) (.tmp 90) rfl w.heap.size #[.string ⟨#[]⟩, .string ⟨#[]⟩, .string ⟨#[]⟩, .string ⟨#[]⟩, .string ⟨#[]⟩, .int .i64 0] rfl rfl 43 #[.string ⟨#[]⟩, .string ⟨#[]⟩, .string ⟨#[]⟩, .string ⟨#[]⟩, .string ⟨#[]⟩, .int .i64 0] HQ2.out.z size23 rfl ones23 ?_)
                rw [Exit.noGoto_ret]
                exact bodyPost_ret (results_box rfl _ _ w.heap.size _ rfl (run_loadVar_row _ w.heap.size 43 43 _ (0, 0) _ (setRow_heap _ _ _ _ 43 _ HQ2.out.z) Tryz.underlying43 rfl size23)) rfl ⟨by rw [HRf.out]; rfl, below_setRow HQ2.out.bel (Nat.le_refl _)⟩
              | true =>
                as_aux_lemma =>
                go_wp2_with fail
                refine (HAW.out _).mono ?_
                rintro _ V1 ⟨rfl, hb1⟩
                have HQ1 := hidM (HP4.out.next hb1)
                have HG1 := hidM (box_kept HRW4.out hb1)
                clear hb1 c3 c4 c5
                have c3 : V1.cell? ⟨w.heap.size + 1, 3, none⟩ = some (.string pr) := HQ1.out.cell 3
                have c4 : V1.cell? ⟨w.heap.size + 1, 4, none⟩ = some (.string bu) := HQ1.out.cell 4
                have c5 : V1.cell? ⟨w.heap.size + 1, 5, none⟩ = some (.int .i64 0) := HQ1.out.cell 5
                go_wp2_with fail
                refine (HAN.out _).mono ?_
                rintro _ V2 ⟨rfl, hb2⟩
                have HQ2 := hidM (HQ1.out.next hb2)
                have HG2 := hidM (box_kept HG1.out hb2)
                clear hb2 c3 c4 c5
                have c3 : V2.cell? ⟨w.heap.size + 1, 3, none⟩ = some (.string pr) := HQ2.out.cell 3
                have c4 : V2.cell? ⟨w.heap.size + 1, 4, none⟩ = some (.string bu) := HQ2.out.cell 4
                have c5 : V2.cell? ⟨w.heap.size + 1, 5, none⟩ = some (.int .i64 0) := HQ2.out.cell 5
                obtain ⟨i0, hi, hz0, hz1, hz2⟩ := info_parts info9
                have HOW : Hid ((V2.alloc (.cells #[.string ⟨#[48]⟩, .string ⟨#[48]⟩] 9)).ownsRow (w.heap.size + 2) 9 1 (.slice (some ⟨G, 0, none⟩) 3 3) 3 [.string p0, .string p1, .string p2]) := by
                  refine ⟨rfl, .inr ⟨G, 3, _, rfl, HBG.out, (_root_.Go.heap_alloc_old _ _ (Array.getElem?_eq_some_iff.1 HG2.out).1).trans HG2.out, Nat.le_refl _, by unfold maxLen; decide, rfl, rfl⟩⟩
                have HBA : Hid (Below V2.heap.size V2 (V2.alloc (.cells #[.string ⟨#[48]⟩, .string ⟨#[48]⟩] 9))) := (Below.refl _ _).alloc (Nat.le_refl _) _
                have HQA := hidM (HQ2.out.next HBA.out)
                have hzs : (w.heap.size + 2 : Nat) ≤ (V2.alloc (.cells #[.string ⟨#[48]⟩, .string ⟨#[48]⟩] 9)).heap.size := by
                  have := (Array.getElem?_eq_some_iff.1 HQA.out.v).1
                  omega
                have HZS := hidM hzs
                clear hzs
                go_wp2_with (at_builtin; refine wpList_append_own _ rfl _ _ 47 rfl (w.heap.size + 2) 9 i0 (.string ByteArray.empty) 1 16 Tryz.underlying47 hi hz0 hz1 hz2 rfl (by decide) _ 3 [.string p0, .string p1, .string p2] rfl HOW.out ⟨V2.heap.size, 0, none⟩ 2 2 [.string ⟨#[48]⟩, .string ⟨#[48]⟩] rfl rfl ?qc2 ?qc3 (by unfold maxLen; decide) (by decide) HZS.out ?_)
                case qc2 =>
                  intro j u hj
                  rw [Addr.add_lit, cell_of_row _ _ _ _ 9 (0, 0) (_root_.Go.heap_alloc_new _ _)]
                  rw [← hj]
                  match j with
                  | 0 => rfl
                  | 1 => rfl
                  | j + 2 => simp at hj
                case qc3 =>
                  intro u hu
                  simp only [List.mem_cons, List.not_mem_nil, or_false] at hu
                  rcases hu with rfl | rfl <;> rfl
                intro v' V9 hown hgrow hnil
                have HPG : Hid (PS w #[.string ⟨#[]⟩, .string ⟨#[]⟩, .string ⟨#[]⟩, .string pr, .string bu, .int .i64 0] V9) := HQA.out.grow (Below.refl_grown HZS.out hgrow (by intro j hj; simp [Value.ownBlock] at hj; have := HBG.out; omega))
                rcases hown.2 with ⟨hx, hn0⟩ | ⟨g, cap, cur, rfl, hbase, hbk, h1, h2, h3, h4⟩
                · exact absurd hn0 (by decide)
                have x0 : V9.cell? ⟨g, 0, none⟩ = some (.string p0) := by have := World.ownsRow.cells hown (g := g) rfl 0 (.string p0) rfl; rw [Addr.add_lit] at this; exact this
                have x1 : V9.cell? ⟨g, 1, none⟩ = some (.string p1) := by have := World.ownsRow.cells hown (g := g) rfl 1 (.string p1) rfl; rw [Addr.add_lit] at this; exact this
                have x2 : V9.cell? ⟨g, 2, none⟩ = some (.string p2) := by have := World.ownsRow.cells hown (g := g) rfl 2 (.string p2) rfl; rw [Addr.add_lit] at this; exact this
                have gn1 : g ≠ w.heap.size + 1 := by omega
                have gn2 : w.heap.size + 1 ≠ g := by omega
                have d0 : V9.cell? ⟨w.heap.size + 1, 0, none⟩ = some (.string ⟨#[]⟩) := HPG.out.cell 0
                have d1 : V9.cell? ⟨w.heap.size + 1, 1, none⟩ = some (.string ⟨#[]⟩) := HPG.out.cell 1
                have d2 : V9.cell? ⟨w.heap.size + 1, 2, none⟩ = some (.string ⟨#[]⟩) := HPG.out.cell 2
                have f0 := HPG.out.free 0
                have f1 := HPG.out.free 1
                have f2 := HPG.out.free 2
                clear hown hgrow hnil hbk h1 h2 h3 h4 hbase c3 c4 c5
                go_upto_region 14 with fail
                go_region_held3 (fun w' => w'.cell? ⟨g, 0, none⟩ = V9.cell? ⟨g, 0, none⟩ ∧ w'.cell? ⟨g, 1, none⟩ = V9.cell? ⟨g, 1, none⟩ ∧ w'.cell? ⟨g, 2, none⟩ = V9.cell? ⟨g, 2, none⟩) (go_keep) (fail)
                have HPF : Hid (PS w #[.string p0, .string p1, .string p2, .string pr, .string bu, .int .i64 0] (((V9.setCell ⟨w.heap.size + 1, 0, none⟩ (.string p0)).setCell ⟨w.heap.size + 1, 1, none⟩ (.string p1)).setCell ⟨w.heap.size + 1, 2, none⟩ (.string p2)).drew) := (((HPG.out.set 0 (.string p0)).set 1 (.string p1)).set 2 (.string p2)).drew
                clear x0 x1 x2 d0 d1 d2 f0 f1 f2 HPG
                generalize (((V9.setCell ⟨w.heap.size + 1, 0, none⟩ (.string p0)).setCell ⟨w.heap.size + 1, 1, none⟩ (.string p1)).setCell ⟨w.heap.size + 1, 2, none⟩ (.string p2)).drew = VF at *
                have k0 : VF.cell? ⟨w.heap.size + 1, 0, none⟩ = some (.string p0) := HPF.out.cell 0
                have k1 : VF.cell? ⟨w.heap.size + 1, 1, none⟩ = some (.string p1) := HPF.out.cell 1
                have k2 : VF.cell? ⟨w.heap.size + 1, 2, none⟩ = some (.string p2) := HPF.out.cell 2
                have k3 : VF.cell? ⟨w.heap.size + 1, 3, none⟩ = some (.string pr) := HPF.out.cell 3
                have k4 : VF.cell? ⟨w.heap.size + 1, 4, none⟩ = some (.string bu) := HPF.out.cell 4
                have k5 : VF.cell? ⟨w.heap.size + 1, 5, none⟩ = some (.int .i64 0) := HPF.out.cell 5
                go_wp2_with (refine wpList_store_row rfl 43 (.tmp 2) (.tmp 89) rfl w.heap.size #[.string p0, .string p1, .string p2, .string pr, .string bu, .int .i64 0] rfl rfl 43 #[.string ⟨#[]⟩, .string ⟨#[]⟩, .string ⟨#[]⟩, .string ⟨#[]⟩, .string ⟨#[]⟩, .int .i64 0] HPF.out.z size23 rfl (ones23v _ _ _ _ _ _) ?_)
                simp only [Exit.jump]
                exact bodyPost_ret (results_box rfl _ _ w.heap.size #[.string p0, .string p1, .string p2, .string pr, .string bu, .int .i64 0] rfl (run_loadVar_row _ w.heap.size 43 43 #[.string p0, .string p1, .string p2, .string pr, .string bu, .int .i64 0] (0, 0) _ (setRow_heap _ _ _ _ 43 _ HPF.out.z) Tryz.underlying43 rfl size23)) rfl ⟨by rw [HR.out]; rfl, below_setRow HPF.out.bel (Nat.le_refl _)⟩
          | false =>
            cases an with
            | false =>
              as_aux_lemma =>
              have HRf : Hid (parseR s = none) := by unfold Hid; rw [HR.out]; rfl
              go_wp2_with fail
              refine (HAN.out _).mono ?_
              rintro _ V1 ⟨rfl, hb1⟩
              have HQ1 := hidM (HP4.out.next hb1)
              have HG1 := hidM (box_kept HRW4.out hb1)
              clear hb1 c3 c4 c5
              have c3 : V1.cell? ⟨w.heap.size + 1, 3, none⟩ = some (.string pr) := HQ1.out.cell 3
              have c4 : V1.cell? ⟨w.heap.size + 1, 4, none⟩ = some (.string bu) := HQ1.out.cell 4
              have c5 : V1.cell? ⟨w.heap.size + 1, 5, none⟩ = some (.int .i64 0) := HQ1.out.cell 5
              go_wp2
              go_step3
              refine (⟨rfl, ?_⟩ : (0 : Nat) = 0 ∧ _)
              go_wp2_with (refine wpList_store_row rfl 43 (.tmp 2) (.tmp 90) rfl w.heap.size #[.string ⟨#[]⟩, .string ⟨#[]⟩, .string ⟨#[]⟩, .string ⟨#[]⟩, .string ⟨#[]⟩, .int .i64 0] rfl rfl 43 #[.string ⟨#[]⟩, .string ⟨#[]⟩, .string ⟨#[]⟩, .string ⟨#[]⟩, .string ⟨#[]⟩, .int .i64 0] HQ1.out.z size23 rfl ones23 ?_)
              rw [Exit.noGoto_ret]
              exact bodyPost_ret (results_box rfl _ _ w.heap.size _ rfl (run_loadVar_row _ w.heap.size 43 43 _ (0, 0) _ (setRow_heap _ _ _ _ 43 _ HQ1.out.z) Tryz.underlying43 rfl size23)) rfl ⟨by rw [HRf.out]; rfl, below_setRow HQ1.out.bel (Nat.le_refl _)⟩
            | true =>
              as_aux_lemma =>
              go_wp2_with fail
              refine (HAN.out _).mono ?_
              rintro _ V1 ⟨rfl, hb1⟩
              have HQ1 := hidM (HP4.out.next hb1)
              have HG1 := hidM (box_kept HRW4.out hb1)
              clear hb1 c3 c4 c5
              have c3 : V1.cell? ⟨w.heap.size + 1, 3, none⟩ = some (.string pr) := HQ1.out.cell 3
              have c4 : V1.cell? ⟨w.heap.size + 1, 4, none⟩ = some (.string bu) := HQ1.out.cell 4
              have c5 : V1.cell? ⟨w.heap.size + 1, 5, none⟩ = some (.int .i64 0) := HQ1.out.cell 5
              obtain ⟨i0, hi, hz0, hz1, hz2⟩ := info_parts info9
              have HOW : Hid ((V1.alloc (.cells #[.string ⟨#[48]⟩, .string ⟨#[48]⟩] 9)).ownsRow (w.heap.size + 2) 9 1 (.slice (some ⟨G, 0, none⟩) 3 3) 3 [.string p0, .string p1, .string p2]) := by
                refine ⟨rfl, .inr ⟨G, 3, _, rfl, HBG.out, (_root_.Go.heap_alloc_old _ _ (Array.getElem?_eq_some_iff.1 HG1.out).1).trans HG1.out, Nat.le_refl _, by unfold maxLen; decide, rfl, rfl⟩⟩
              have HBA : Hid (Below V1.heap.size V1 (V1.alloc (.cells #[.string ⟨#[48]⟩, .string ⟨#[48]⟩] 9))) := (Below.refl _ _).alloc (Nat.le_refl _) _
              have HQA := hidM (HQ1.out.next HBA.out)
              have hzs : (w.heap.size + 2 : Nat) ≤ (V1.alloc (.cells #[.string ⟨#[48]⟩, .string ⟨#[48]⟩] 9)).heap.size := by
                have := (Array.getElem?_eq_some_iff.1 HQA.out.v).1
                omega
              have HZS := hidM hzs
              clear hzs
              go_wp2_with (at_builtin; refine wpList_append_own _ rfl _ _ 47 rfl (w.heap.size + 2) 9 i0 (.string ByteArray.empty) 1 16 Tryz.underlying47 hi hz0 hz1 hz2 rfl (by decide) _ 3 [.string p0, .string p1, .string p2] rfl HOW.out ⟨V1.heap.size, 0, none⟩ 2 2 [.string ⟨#[48]⟩, .string ⟨#[48]⟩] rfl rfl ?qc2 ?qc3 (by unfold maxLen; decide) (by decide) HZS.out ?_)
              case qc2 =>
                intro j u hj
                rw [Addr.add_lit, cell_of_row _ _ _ _ 9 (0, 0) (_root_.Go.heap_alloc_new _ _)]
                rw [← hj]
                match j with
                | 0 => rfl
                | 1 => rfl
                | j + 2 => simp at hj
              case qc3 =>
                intro u hu
                simp only [List.mem_cons, List.not_mem_nil, or_false] at hu
                rcases hu with rfl | rfl <;> rfl
              intro v' V9 hown hgrow hnil
              have HPG : Hid (PS w #[.string ⟨#[]⟩, .string ⟨#[]⟩, .string ⟨#[]⟩, .string pr, .string bu, .int .i64 0] V9) := HQA.out.grow (Below.refl_grown HZS.out hgrow (by intro j hj; simp [Value.ownBlock] at hj; have := HBG.out; omega))
              rcases hown.2 with ⟨hx, hn0⟩ | ⟨g, cap, cur, rfl, hbase, hbk, h1, h2, h3, h4⟩
              · exact absurd hn0 (by decide)
              have x0 : V9.cell? ⟨g, 0, none⟩ = some (.string p0) := by have := World.ownsRow.cells hown (g := g) rfl 0 (.string p0) rfl; rw [Addr.add_lit] at this; exact this
              have x1 : V9.cell? ⟨g, 1, none⟩ = some (.string p1) := by have := World.ownsRow.cells hown (g := g) rfl 1 (.string p1) rfl; rw [Addr.add_lit] at this; exact this
              have x2 : V9.cell? ⟨g, 2, none⟩ = some (.string p2) := by have := World.ownsRow.cells hown (g := g) rfl 2 (.string p2) rfl; rw [Addr.add_lit] at this; exact this
              have gn1 : g ≠ w.heap.size + 1 := by omega
              have gn2 : w.heap.size + 1 ≠ g := by omega
              have d0 : V9.cell? ⟨w.heap.size + 1, 0, none⟩ = some (.string ⟨#[]⟩) := HPG.out.cell 0
              have d1 : V9.cell? ⟨w.heap.size + 1, 1, none⟩ = some (.string ⟨#[]⟩) := HPG.out.cell 1
              have d2 : V9.cell? ⟨w.heap.size + 1, 2, none⟩ = some (.string ⟨#[]⟩) := HPG.out.cell 2
              have f0 := HPG.out.free 0
              have f1 := HPG.out.free 1
              have f2 := HPG.out.free 2
              clear hown hgrow hnil hbk h1 h2 h3 h4 hbase c3 c4 c5
              go_upto_region 14 with fail
              go_region_held3 (fun w' => w'.cell? ⟨g, 0, none⟩ = V9.cell? ⟨g, 0, none⟩ ∧ w'.cell? ⟨g, 1, none⟩ = V9.cell? ⟨g, 1, none⟩ ∧ w'.cell? ⟨g, 2, none⟩ = V9.cell? ⟨g, 2, none⟩) (go_keep) (fail)
              have HPF : Hid (PS w #[.string p0, .string p1, .string p2, .string pr, .string bu, .int .i64 0] (((V9.setCell ⟨w.heap.size + 1, 0, none⟩ (.string p0)).setCell ⟨w.heap.size + 1, 1, none⟩ (.string p1)).setCell ⟨w.heap.size + 1, 2, none⟩ (.string p2)).drew) := (((HPG.out.set 0 (.string p0)).set 1 (.string p1)).set 2 (.string p2)).drew
              clear x0 x1 x2 d0 d1 d2 f0 f1 f2 HPG
              generalize (((V9.setCell ⟨w.heap.size + 1, 0, none⟩ (.string p0)).setCell ⟨w.heap.size + 1, 1, none⟩ (.string p1)).setCell ⟨w.heap.size + 1, 2, none⟩ (.string p2)).drew = VF at *
              have k0 : VF.cell? ⟨w.heap.size + 1, 0, none⟩ = some (.string p0) := HPF.out.cell 0
              have k1 : VF.cell? ⟨w.heap.size + 1, 1, none⟩ = some (.string p1) := HPF.out.cell 1
              have k2 : VF.cell? ⟨w.heap.size + 1, 2, none⟩ = some (.string p2) := HPF.out.cell 2
              have k3 : VF.cell? ⟨w.heap.size + 1, 3, none⟩ = some (.string pr) := HPF.out.cell 3
              have k4 : VF.cell? ⟨w.heap.size + 1, 4, none⟩ = some (.string bu) := HPF.out.cell 4
              have k5 : VF.cell? ⟨w.heap.size + 1, 5, none⟩ = some (.int .i64 0) := HPF.out.cell 5
              go_wp2_with (refine wpList_store_row rfl 43 (.tmp 2) (.tmp 89) rfl w.heap.size #[.string p0, .string p1, .string p2, .string pr, .string bu, .int .i64 0] rfl rfl 43 #[.string ⟨#[]⟩, .string ⟨#[]⟩, .string ⟨#[]⟩, .string ⟨#[]⟩, .string ⟨#[]⟩, .int .i64 0] HPF.out.z size23 rfl (ones23v _ _ _ _ _ _) ?_)
              simp only [Exit.jump]
              exact bodyPost_ret (results_box rfl _ _ w.heap.size #[.string p0, .string p1, .string p2, .string pr, .string bu, .int .i64 0] rfl (run_loadVar_row _ w.heap.size 43 43 #[.string p0, .string p1, .string p2, .string pr, .string bu, .int .i64 0] (0, 0) _ (setRow_heap _ _ _ _ 43 _ HPF.out.z) Tryz.underlying43 rfl size23)) rfl ⟨by rw [HR.out]; rfl, below_setRow HPF.out.bel (Nat.le_refl _)⟩
end Go.Proofs.YtmhjdahmmdfbcaaGreatDoor
