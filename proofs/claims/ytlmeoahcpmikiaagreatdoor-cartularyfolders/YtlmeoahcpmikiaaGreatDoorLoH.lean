/-
  Taken over from another program: LoH.
-/
import Derived.Laws.BitsAllLaws
import Derived.WalkKit
import Derived.WalkSpells
import Derived.WalkLawsBesides
import Derived.Laws.IdiomStrings
import Derived.Deep.QuietTactic
import Derived.BigQuiet
import Derived.Deep.RegionLaw
import Derived.Test.YtlmeoahcpmikiaaGreatDoorJZlbB
import Derived.Test.YtlmeoahcpmikiaaGreatDoorJSnapL
namespace Go.Proofs.YtlmeoahcpmikiaaGreatDoor
open Go.RowKit
set_option maxRecDepth 100000 in
theorem byte_ltT (c : UInt8) : c.toNat < 256 := UInt8.toNat_lt c
def digLT : List UInt8 := [48, 49, 50, 51, 52, 53, 54, 55, 56, 57, 97, 98, 99, 100, 101, 102]
def digNT (q : Nat) : UInt8 := digLT.getD q 0
def isDigT (c : UInt8) : Bool := (decide (48 ≤ c.toNat) && decide (c.toNat ≤ 57)) || (decide (97 ≤ c.toNat) && decide (c.toNat ≤ 102))
def hexV (c : UInt8) : Nat := if 48 ≤ c.toNat ∧ c.toNat ≤ 57 then c.toNat - 48 else if 97 ≤ c.toNat ∧ c.toNat ≤ 102 then c.toNat - 87 else 0
set_option maxRecDepth 100000 in
theorem dig_is (q : Nat) (h : q < 16) : isDigT (digNT q) = true ∧ hexV (digNT q) = q := by
  have : ∀ q, q < 16 → isDigT (digNT q) = true ∧ hexV (digNT q) = q := by decide
  exact this q h
def hex2T (c : UInt8) : List UInt8 := [digNT (c.toNat / 16), digNT (c.toNat % 16)]
def hexLT (l : List UInt8) : List UInt8 := l.flatMap hex2T
set_option maxRecDepth 100000 in
theorem hexL_lenT (l : List UInt8) : (hexLT l).length = 2 * l.length := by
  induction l with
  | nil => rfl
  | cons c l ih => show (hex2T c ++ hexLT l).length = _; rw [List.length_append, ih]; simp [hex2T]; omega
def hexed (l : List UInt8) : Bool := l.all isDigT && decide (l.length % 2 = 0)
set_option maxRecDepth 100000 in
theorem hexed_hex (l : List UInt8) : hexed (hexLT l) = true := by
  unfold hexed
  rw [hexL_lenT]
  have : (hexLT l).all isDigT = true := by
    induction l with
    | nil => rfl
    | cons c l ih =>
      have hc := byte_ltT c
      show (digNT (c.toNat / 16) :: digNT (c.toNat % 16) :: hexLT l).all isDigT = true
      rw [List.all_cons, List.all_cons, ih, (dig_is _ (by omega)).1, (dig_is _ (by omega)).1]
      rfl
  rw [this]
  simp
/-- All places below n hold digits. -/
def DigTo (l : List UInt8) (n : Nat) : Prop := ∀ i, i < n → isDigT (l.getD i 0) = true
set_option maxRecDepth 100000 in
theorem digTo_all (l : List UInt8) (h : DigTo l l.length) : l.all isDigT = true := by
  rw [List.all_eq_true]
  intro c hc
  obtain ⟨i, hi, rfl⟩ := List.getElem_of_mem hc
  have := h i hi
  rwa [List.getD_eq_getElem?_getD, List.getElem?_eq_getElem hi] at this
set_option maxRecDepth 100000 in
theorem not_all (l : List UInt8) (i : Nat) (hi : i < l.length) (h : isDigT (l.getD i 0) = false) : l.all isDigT = false := by
  rw [List.all_eq_false]
  refine ⟨l[i], List.getElem_mem hi, ?_⟩
  rw [List.getD_eq_getElem?_getD, List.getElem?_eq_getElem hi] at h
  simpa using h
set_option maxRecDepth 100000 in
theorem getD_at (s : ByteArray) (k : Nat) (h : k < s.size) : s.data.toList.getD k 0 = s[k] := by
  rw [List.getD_eq_getElem?_getD, List.getElem?_eq_getElem (by simpa using h)]
  rfl
set_option maxRecDepth 100000 in
theorem len_size (s : ByteArray) : s.data.toList.length = s.size := by simp
set_option maxRecDepth 100000 in
theorem ret_pair {a b : Int} {k : IntKind} {p q : Bool} (h : a = b) (g : p = q) : Ending.returned (.tuple #[.int k a, .bool p]) = .returned (.tuple #[.int k b, .bool q]) := by rw [h, g]
set_option maxHeartbeats 400000 in
set_option maxRecDepth 100000 in
theorem hexValue_any (c : UInt8) (w : World) :
    Calls Tryz.prog 73 #[.int .u8 (c.toNat : Int)] w fun e w' => e = .returned (.tuple #[.int .u8 (hexV c : Nat), .bool (isDigT c)]) ∧ w' = w := by
  have hc := byte_ltT c
  by_cases h1 : 48 ≤ c.toNat ∧ c.toNat ≤ 57
  · have HV : Hid (hexV c = c.toNat - 48) := by unfold Hid hexV; rw [if_pos h1]
    have HD : Hid (isDigT c = true) := by unfold Hid isDigT; simp [h1]
    obtain ⟨a1, a2⟩ := h1
    generalize c.toNat = n at *
    go_enter Tryz.func73, Tryz.ntmps73
    go_wp2
    go_ret2
    exact ⟨ret_pair (by rw [HV.out]; omega) HD.out.symm, rfl⟩
  · by_cases h2 : 97 ≤ c.toNat ∧ c.toNat ≤ 102
    · have HV : Hid (hexV c = c.toNat - 87) := by unfold Hid hexV; rw [if_neg h1, if_pos h2]
      have HD : Hid (isDigT c = true) := by unfold Hid isDigT; simp [h2]
      obtain ⟨a1, a2⟩ := h2
      clear h1
      generalize c.toNat = n at *
      have g1 : ¬ n ≤ 57 := by omega
      go_enter Tryz.func73, Tryz.ntmps73
      go_wp2
      go_ret2
      exact ⟨ret_pair (by rw [HV.out]; omega) HD.out.symm, rfl⟩
    · have HV : Hid (hexV c = 0) := by unfold Hid hexV; rw [if_neg h1, if_neg h2]
      have HD : Hid (isDigT c = false) := by unfold Hid isDigT; simp; omega
      have hcases : c.toNat < 48 ∨ (57 < c.toNat ∧ c.toNat < 97) ∨ 102 < c.toNat := by omega
      clear h1 h2
      generalize c.toNat = n at *
      rcases hcases with g | ⟨g1, g2⟩ | g
      · have g3 : n < 97 := by omega
        go_enter Tryz.func73, Tryz.ntmps73
        go_wp2
        go_ret2
        exact ⟨ret_pair (by rw [HV.out]; rfl) HD.out.symm, rfl⟩
      · go_enter Tryz.func73, Tryz.ntmps73
        go_wp2
        go_ret2
        exact ⟨ret_pair (by rw [HV.out]; rfl) HD.out.symm, rfl⟩
      · go_enter Tryz.func73, Tryz.ntmps73
        go_wp2
        go_ret2
        exact ⟨ret_pair (by rw [HV.out]; rfl) HD.out.symm, rfl⟩
set_option maxRecDepth 100000 in
theorem ret_bool {p q : Bool} (h : p = q) : Ending.returned (.bool p) = .returned (.bool q) := by rw [h]
def idB (l : List UInt8) : Bool := l.all isDigT && decide (l.length = 40)
set_option maxRecDepth 100000 in
theorem idB_no (l : List UInt8) (i : Nat) (hi : i < l.length) (h : isDigT (l.getD i 0) = false) : idB l = false := by
  unfold idB; rw [not_all l i hi h]; rfl
set_option maxRecDepth 100000 in
theorem idB_yes (l : List UInt8) (hd : DigTo l l.length) (h : l.length = 40) : idB l = true := by
  unfold idB; rw [digTo_all l hd, h]; rfl
set_option maxRecDepth 100000 in
theorem idB_len (l : List UInt8) (h : ¬ l.length = 40) : idB l = false := by
  unfold idB; simp [h]
set_option maxHeartbeats 400000 in
set_option maxRecDepth 100000 in
theorem id_anyT (s : ByteArray) (w : World) (hs : s.size ≤ maxLen) :
    Calls Tryz.prog 47 #[.string s] w fun e w' => e = .returned (.bool (idB s.data.toList)) ∧ w' = w := by
  unfold maxLen at hs
  by_cases h40 : s.size = 40
  · have H40 := hidM h40
    have g1 : ((s.size : Int) != 40) = false := by rw [h40]; rfl
    have i1 : s.size ≤ 40 := by omega
    have i2 : 40 ≤ s.size := by omega
    clear h40
    go_enter Tryz.func47, Tryz.ntmps47
    go_wp2
    go_loop [3, 4, 5] (fun i _ _ => ∃ k : Nat, k ≤ s.size ∧ i = .int .i64 k ∧ DigTo s.data.toList k) (fun i _ _ => s.size - (intOf i).toNat)
    case atStart => exact ⟨0, Nat.zero_le _, rfl, fun i hi => by omega⟩
    case round =>
      obtain ⟨k, hk, rfl, hd⟩ := hrel
      have HD := hidM hd
      clear hd
      by_cases hlt : k < s.size
      · obtain ⟨c, hc⟩ : ∃ c, c = s[k] := ⟨_, rfl⟩
        have HC : Hid (s.data.toList.getD k 0 = c) := by unfold Hid; rw [getD_at s k hlt, hc]
        have hcc : (s[k].toNat : Int) = (c.toNat : Int) := by rw [hc]
        clear hc
        cases hdg : isDigT c
        · have HB := hidM hdg
          go_wp2_with fail
          refine (hexValue_any c w).mono ?_
          rintro e w1 ⟨rfl, rfl⟩
          clear hcc
          go_wp2
          go_ret
          exact ⟨ret_bool (idB_no s.data.toList k (by simpa using hlt) (by rw [HC.out]; exact HB.out)).symm, rfl⟩
        · have HB := hidM hdg
          go_wp2_with fail
          refine (hexValue_any c w).mono ?_
          rintro e w1 ⟨rfl, rfl⟩
          clear hcc
          go_wp2
          go_round
          case rel =>
            refine ⟨k + 1, by omega, by go_num, fun i hi => ?_⟩
            by_cases e : i = k
            · subst e; rw [HC.out]; exact HB.out
            · exact HD.out i (by omega)
          case measure => simp [intOf]; omega
      · go_wp2
        go_ret
        exact ⟨ret_bool (idB_yes s.data.toList (by intro i hi; rw [len_size] at hi; exact HD.out i (by omega)) (by rw [len_size]; exact H40.out)).symm, rfl⟩
  · have g1 : ((s.size : Int) != 40) = true := by simp; omega
    have H40 := hidM h40
    clear h40
    go_enter Tryz.func47, Tryz.ntmps47
    go_wp2
    go_ret
    exact ⟨ret_bool (idB_len s.data.toList (by rw [len_size]; exact H40.out)).symm, rfl⟩
set_option maxRecDepth 100000 in
theorem digit_cases (c : UInt8) (h : isDigT c = true) : (48 ≤ c.toNat ∧ c.toNat ≤ 57 ∧ hexV c = c.toNat - 48) ∨ (97 ≤ c.toNat ∧ c.toNat ≤ 102 ∧ hexV c = c.toNat - 87) := by
  unfold isDigT at h
  unfold hexV
  simp only [Bool.or_eq_true, Bool.and_eq_true, decide_eq_true_eq] at h
  rcases h with ⟨h1, h2⟩ | ⟨h1, h2⟩
  · left; exact ⟨h1, h2, by rw [if_pos ⟨h1, h2⟩]⟩
  · right; exact ⟨h1, h2, by rw [if_neg (by omega), if_pos ⟨h1, h2⟩]⟩
end Go.Proofs.YtlmeoahcpmikiaaGreatDoor
