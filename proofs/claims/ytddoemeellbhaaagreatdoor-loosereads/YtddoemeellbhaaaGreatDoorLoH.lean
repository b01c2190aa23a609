/-
  Hexadecimal in this seat: Id, Hex, Unhex and the document's.
-/
import Derived.Laws.BitsAllLaws
import Derived.WalkKit
import Derived.WalkSpells
import Derived.WalkLawsBesides
import Derived.Laws.IdiomStrings
import Derived.Deep.QuietTactic
import Derived.BigQuiet
import Derived.Deep.RegionLaw
import Derived.Test.YtddoemeellbhaaaGreatDoorJZlbB
import Derived.Test.YtddoemeellbhaaaGreatDoorJSnapL
namespace Go.Proofs.YtddoemeellbhaaaGreatDoor
open Go.RowKit
set_option maxRecDepth 100000 in
theorem byte_ltT (c : UInt8) : c.toNat < 256 := UInt8.toNat_lt c
def isDigT (c : UInt8) : Bool := (decide (48 ≤ c.toNat) && decide (c.toNat ≤ 57)) || (decide (97 ≤ c.toNat) && decide (c.toNat ≤ 102))
def hexV (c : UInt8) : Nat := if 48 ≤ c.toNat ∧ c.toNat ≤ 57 then c.toNat - 48 else if 97 ≤ c.toNat ∧ c.toNat ≤ 102 then c.toNat - 87 else 0
def hexed (l : List UInt8) : Bool := l.all isDigT && decide (l.length % 2 = 0)
/-- All places below n hold digits. -/
def DigTo (l : List UInt8) (n : Nat) : Prop := ∀ i, i < n → isDigT (l.getD i 0) = true
set_option maxRecDepth 100000 in
theorem digTo_all (l : List UInt8) (h : DigTo l l.length) : l.all isDigT = true := by
  rw [List.all_eq_true]
  intro c hc
  obtain ⟨i, hi, rfl⟩ := List.getElem_of_mem hc
  have := h i hi
  rwa [List.getD_eq_getElem?_getD, List.getElem?_eq_getElem hi] at this
set_option maxRecDepth 100000 in
theorem not_all (l : List UInt8) (i : Nat) (hi : i < l.length) (h : isDigT (l.getD i 0) = false) : l.all isDigT = false := by
  rw [List.all_eq_false]
  refine ⟨l[i], List.getElem_mem hi, ?_⟩
  rw [List.getD_eq_getElem?_getD, List.getElem?_eq_getElem hi] at h
  simpa using h
set_option maxRecDepth 100000 in
theorem getD_at (s : ByteArray) (k : Nat) (h : k < s.size) : s.data.toList.getD k 0 = s[k] := by
  rw [List.getD_eq_getElem?_getD, List.getElem?_eq_getElem (by simpa using h)]
  rfl
set_option maxRecDepth 100000 in
theorem len_size (s : ByteArray) : s.data.toList.length = s.size := by simp
set_option maxRecDepth 100000 in
theorem ret_pair {a b : Int} {k : IntKind} {p q : Bool} (h : a = b) (g : p = q) : Ending.returned (.tuple #[.int k a, .bool p]) = .returned (.tuple #[.int k b, .bool q]) := by rw [h, g]
set_option maxHeartbeats 400000 in
set_option maxRecDepth 100000 in
theorem hexValue_any (c : UInt8) (w : World) :
    Calls Tryz.prog 79 #[.int .u8 (c.toNat : Int)] w fun e w' => e = .returned (.tuple #[.int .u8 (hexV c : Nat), .bool (isDigT c)]) ∧ w' = w := by
  have hc := byte_ltT c
  by_cases h1 : 48 ≤ c.toNat ∧ c.toNat ≤ 57
  · have HV : Hid (hexV c = c.toNat - 48) := by unfold Hid hexV; rw [if_pos h1]
    have HD : Hid (isDigT c = true) := by unfold Hid isDigT; simp [h1]
    obtain ⟨a1, a2⟩ := h1
    generalize c.toNat = n at *
    go_enter Tryz.func79, Tryz.ntmps79
    go_wp2
    go_ret2
    exact ⟨ret_pair (by rw [HV.out]; omega) HD.out.symm, rfl⟩
  · by_cases h2 : 97 ≤ c.toNat ∧ c.toNat ≤ 102
    · have HV : Hid (hexV c = c.toNat - 87) := by unfold Hid hexV; rw [if_neg h1, if_pos h2]
      have HD : Hid (isDigT c = true) := by unfold Hid isDigT; simp [h2]
      obtain ⟨a1, a2⟩ := h2
      clear h1
      generalize c.toNat = n at *
      have g1 : ¬ n ≤ 57 := by omega
      go_enter Tryz.func79, Tryz.ntmps79
      go_wp2
      go_ret2
      exact ⟨ret_pair (by rw [HV.out]; omega) HD.out.symm, rfl⟩
    · have HV : Hid (hexV c = 0) := by unfold Hid hexV; rw [if_neg h1, if_neg h2]
      have HD : Hid (isDigT c = false) := by unfold Hid isDigT; simp; omega
      have hcases : c.toNat < 48 ∨ (57 < c.toNat ∧ c.toNat < 97) ∨ 102 < c.toNat := by omega
      clear h1 h2
      generalize c.toNat = n at *
      rcases hcases with g | ⟨g1, g2⟩ | g
      · have g3 : n < 97 := by omega
        go_enter Tryz.func79, Tryz.ntmps79
        go_wp2
        go_ret2
        exact ⟨ret_pair (by rw [HV.out]; rfl) HD.out.symm, rfl⟩
      · go_enter Tryz.func79, Tryz.ntmps79
        go_wp2
        go_ret2
        exact ⟨ret_pair (by rw [HV.out]; rfl) HD.out.symm, rfl⟩
      · go_enter Tryz.func79, Tryz.ntmps79
        go_wp2
        go_ret2
        exact ⟨ret_pair (by rw [HV.out]; rfl) HD.out.symm, rfl⟩
set_option maxRecDepth 100000 in
theorem ret_bool {p q : Bool} (h : p = q) : Ending.returned (.bool p) = .returned (.bool q) := by rw [h]
def idB (l : List UInt8) : Bool := l.all isDigT && decide (l.length = 40)
set_option maxRecDepth 100000 in
theorem idB_no (l : List UInt8) (i : Nat) (hi : i < l.length) (h : isDigT (l.getD i 0) = false) : idB l = false := by
  unfold idB; rw [not_all l i hi h]; rfl
set_option maxRecDepth 100000 in
theorem idB_yes (l : List UInt8) (hd : DigTo l l.length) (h : l.length = 40) : idB l = true := by
  unfold idB; rw [digTo_all l hd, h]; rfl
set_option maxRecDepth 100000 in
theorem idB_len (l : List UInt8) (h : ¬ l.length = 40) : idB l = false := by
  unfold idB; simp [h]
set_option maxHeartbeats 400000 in
set_option maxRecDepth 100000 in
theorem id_anyT (s : ByteArray) (w : World) (hs : s.size ≤ maxLen) :
    Calls Tryz.prog 41 #[.string s] w fun e w' => e = .returned (.bool (idB s.data.toList)) ∧ w' = w := by
  unfold maxLen at hs
  by_cases h40 : s.size = 40
  · have H40 := hidM h40
    have g1 : ((s.size : Int) != 40) = false := by rw [h40]; rfl
    have i1 : s.size ≤ 40 := by omega
    have i2 : 40 ≤ s.size := by omega
    clear h40
    go_enter Tryz.func41, Tryz.ntmps41
    go_wp2
    go_loop [3, 4, 5] (fun i _ _ => ∃ k : Nat, k ≤ s.size ∧ i = .int .i64 k ∧ DigTo s.data.toList k) (fun i _ _ => s.size - (intOf i).toNat)
    case atStart => exact ⟨0, Nat.zero_le _, rfl, fun i hi => by omega⟩
    case round =>
      obtain ⟨k, hk, rfl, hd⟩ := hrel
      have HD := hidM hd
      clear hd
      by_cases hlt : k < s.size
      · obtain ⟨c, hc⟩ : ∃ c, c = s[k] := ⟨_, rfl⟩
        have HC : Hid (s.data.toList.getD k 0 = c) := by unfold Hid; rw [getD_at s k hlt, hc]
        have hcc : (s[k].toNat : Int) = (c.toNat : Int) := by rw [hc]
        clear hc
        cases hdg : isDigT c
        · have HB := hidM hdg
          go_wp2_with fail
          refine (hexValue_any c w).mono ?_
          rintro e w1 ⟨rfl, rfl⟩
          clear hcc
          go_wp2
          go_ret
          exact ⟨ret_bool (idB_no s.data.toList k (by simpa using hlt) (by rw [HC.out]; exact HB.out)).symm, rfl⟩
        · have HB := hidM hdg
          go_wp2_with fail
          refine (hexValue_any c w).mono ?_
          rintro e w1 ⟨rfl, rfl⟩
          clear hcc
          go_wp2
          go_round
          case rel =>
            refine ⟨k + 1, by omega, by go_num, fun i hi => ?_⟩
            by_cases e : i = k
            · subst e; rw [HC.out]; exact HB.out
            · exact HD.out i (by omega)
          case measure => simp [intOf]; omega
      · go_wp2
        go_ret
        exact ⟨ret_bool (idB_yes s.data.toList (by intro i hi; rw [len_size] at hi; exact HD.out i (by omega)) (by rw [len_size]; exact H40.out)).symm, rfl⟩
  · have g1 : ((s.size : Int) != 40) = true := by simp; omega
    have H40 := hidM h40
    clear h40
    go_enter Tryz.func41, Tryz.ntmps41
    go_wp2
    go_ret
    exact ⟨ret_bool (idB_len s.data.toList (by rw [len_size]; exact H40.out)).symm, rfl⟩
set_option maxRecDepth 100000 in
theorem hexed_no (l : List UInt8) (i : Nat) (hi : i < l.length) (h : isDigT (l.getD i 0) = false) : hexed l = false := by
  unfold hexed; rw [not_all l i hi h]; rfl
set_option maxRecDepth 100000 in
theorem hexed_yes (l : List UInt8) (hd : DigTo l l.length) : hexed l = decide (l.length % 2 = 0) := by
  unfold hexed; rw [digTo_all l hd]; rfl
set_option maxHeartbeats 800000 in
set_option maxRecDepth 100000 in
theorem hexed_any (s : ByteArray) (w : World) (hs : s.size ≤ maxLen) :
    Calls Tryz.prog 45 #[.string s] w fun e w' => e = .returned (.bool (hexed s.data.toList)) ∧ w' = w := by
  unfold maxLen at hs
  go_enter Tryz.func45, Tryz.ntmps45
  go_wp2
  go_loop [3] (fun i => ∃ k : Nat, k ≤ s.size ∧ i = .int .i64 k ∧ DigTo s.data.toList k) (fun i => s.size - (intOf i).toNat)
  case atStart => exact ⟨0, Nat.zero_le _, rfl, fun i hi => by omega⟩
  case round =>
    obtain ⟨k, hk, rfl, hd⟩ := hrel
    have HD := hidM hd
    clear hd
    by_cases hlt : k < s.size
    · have HC : Hid (s.data.toList.getD k 0 = s[k]) := getD_at s k hlt
      have hdg : isDigT s[k] = true ∨ isDigT s[k] = false := by cases isDigT s[k] <;> simp
      have yes : Hid (isDigT s[k] = true → DigTo s.data.toList (k + 1)) := by
        intro h i hi
        by_cases e : i = k
        · subst e; rw [HC.out]; exact h
        · exact HD.out i (by omega)
      have no : Hid (isDigT s[k] = false → hexed s.data.toList = false) := fun h => hexed_no s.data.toList k (by simpa using hlt) (by rw [HC.out]; exact h)
      have HI : Hid (isDigT s[k] = ((decide (48 ≤ s[k].toNat) && decide (s[k].toNat ≤ 57)) || (decide (97 ≤ s[k].toNat) && decide (s[k].toNat ≤ 102)))) := rfl
      clear hdg HC
      by_cases a1 : 48 ≤ s[k].toNat
      · by_cases a2 : s[k].toNat ≤ 57
        · have HY : Hid (DigTo s.data.toList (k + 1)) := yes.out (by rw [HI.out]; simp [a1, a2])
          clear yes no HI
          have d48 : decide ((48 : Int) ≤ (s[k].toNat : Int)) = true := by simp; omega
          have d57 : decide ((s[k].toNat : Int) ≤ (57 : Int)) = true := by simp; omega
          go_wp2
          go_round
          case rel => exact ⟨k + 1, by omega, by go_num, HY.out⟩
          case measure => simp [intOf]; omega
        · by_cases a3 : 97 ≤ s[k].toNat
          · by_cases a4 : s[k].toNat ≤ 102
            · have HY : Hid (DigTo s.data.toList (k + 1)) := yes.out (by rw [HI.out]; simp [a3, a4])
              clear yes no HI
              have d48 : decide ((48 : Int) ≤ (s[k].toNat : Int)) = true := by simp; omega
              have d57 : decide ((s[k].toNat : Int) ≤ (57 : Int)) = false := by simp; omega
              have d97 : decide ((97 : Int) ≤ (s[k].toNat : Int)) = true := by simp; omega
              have d102 : decide ((s[k].toNat : Int) ≤ (102 : Int)) = true := by simp; omega
              go_wp2
              go_round
              case rel => exact ⟨k + 1, by omega, by go_num, HY.out⟩
              case measure => simp [intOf]; omega
            · have HN : Hid (hexed s.data.toList = false) := no.out (by rw [HI.out]; simp; omega)
              clear yes no HI
              have d48 : decide ((48 : Int) ≤ (s[k].toNat : Int)) = true := by simp; omega
              have d57 : decide ((s[k].toNat : Int) ≤ (57 : Int)) = false := by simp; omega
              have d97 : decide ((97 : Int) ≤ (s[k].toNat : Int)) = true := by simp; omega
              have d102 : decide ((s[k].toNat : Int) ≤ (102 : Int)) = false := by simp; omega
              go_wp2
              go_ret
              exact ⟨ret_bool HN.out.symm, rfl⟩
          · have HN : Hid (hexed s.data.toList = false) := no.out (by rw [HI.out]; simp; omega)
            clear yes no HI
            have d48 : decide ((48 : Int) ≤ (s[k].toNat : Int)) = true := by simp; omega
            have d57 : decide ((s[k].toNat : Int) ≤ (57 : Int)) = false := by simp; omega
            have d97 : decide ((97 : Int) ≤ (s[k].toNat : Int)) = false := by simp; omega
            go_wp2
            go_ret
            exact ⟨ret_bool HN.out.symm, rfl⟩
      · have a3 : ¬ 97 ≤ s[k].toNat := by omega
        have HN : Hid (hexed s.data.toList = false) := no.out (by rw [HI.out]; simp; omega)
        clear yes no HI
        have d48 : decide ((48 : Int) ≤ (s[k].toNat : Int)) = false := by simp; omega
        have d97 : decide ((97 : Int) ≤ (s[k].toNat : Int)) = false := by simp; omega
        go_wp2
        go_ret
        exact ⟨ret_bool HN.out.symm, rfl⟩
    · have HF : Hid (hexed s.data.toList = decide (s.size % 2 = 0)) := by
        unfold Hid
        rw [hexed_yes s.data.toList (by intro i hi; rw [len_size] at hi; exact HD.out i (by omega)), len_size]
      go_wp2
      go_ret
      refine ⟨ret_bool ?_, rfl⟩
      rw [HF.out]
      by_cases h : s.size % 2 = 0
      · have : ((s.size : Int) % 2 == 0) = true := by simp; omega
        rw [this]; simp [h]
      · have : ((s.size : Int) % 2 == 0) = false := by simp; omega
        rw [this]; simp [h]
end Go.Proofs.YtddoemeellbhaaaGreatDoor
