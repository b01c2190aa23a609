/-
  Walks of the document's words on pseudo-versions: hexadecimal texts, twelve digits, an end, a build.
  Walks of the document's calendar: Days, length, From, Digits; the law's list.
  Walks: the law's list and same, the document's Stamp.
-/
import Derived.Test.YtmhjdahmmdfbcaaGreatDoorJRefC
import Derived.Test.YtmhjdahmmdfbcaaGreatDoorJRefF
import Derived.Lib.ItoaMem
import Derived.Lib.ItoaLen
import Derived.Test.YtmhjdahmmdfbcaaGreatDoorJCalN
namespace Go.Proofs.YtmhjdahmmdfbcaaGreatDoor
open Go.RowKit

theorem not_all (l : List UInt8) (i : Nat) (hi : i < l.length) (h : isHex (l.getD i 0) = false) : l.all isHex = false := by
  rw [List.all_eq_false]
  refine ⟨l[i], List.getElem_mem hi, ?_⟩
  rw [List.getD_eq_getElem?_getD, List.getElem?_eq_getElem hi] at h
  simpa using h

theorem hexed_no (l : List UInt8) (i : Nat) (hi : i < l.length) (h : isHex (l.getD i 0) = false) : hexed l = false := by
  unfold hexed; rw [not_all l i hi h]; rfl

theorem ret_bool {p q : Bool} (h : p = q) : Ending.returned (.bool p) = .returned (.bool q) := by rw [h]

def idB (l : List UInt8) : Bool := l.all isHex && decide (l.length = 40)

set_option maxHeartbeats 800000 in
set_option maxRecDepth 100000 in
theorem hexed_any (s : ByteArray) (w : World) (hs : s.size ≤ maxLen) :
    Calls Tryz.prog 60 #[.string s] w fun e w' => e = .returned (.bool (hexed s.data.toList)) ∧ w' = w := by
  unfold maxLen at hs
  go_enter Tryz.func60, Tryz.ntmps60
  go_wp2
  go_loop [3] (fun i => ∃ k : Nat, k ≤ s.size ∧ i = .int .i64 k ∧ DigTo s.data.toList k) (fun i => s.size - (intOf i).toNat)
  case atStart => exact ⟨0, Nat.zero_le _, rfl, fun i hi => by omega⟩
  case round =>
    obtain ⟨k, hk, rfl, hd⟩ := hrel
    have HD := hidM hd
    clear hd
    by_cases hlt : k < s.size
    · have HC : Hid (s.data.toList.getD k 0 = s[k]) := getD_at s k hlt
      have hdg : isHex s[k] = true ∨ isHex s[k] = false := by cases isHex s[k] <;> simp
      have yes : Hid (isHex s[k] = true → DigTo s.data.toList (k + 1)) := by
        intro h i hi
        by_cases e : i = k
        · subst e; rw [HC.out]; exact h
        · exact HD.out i (by omega)
      have no : Hid (isHex s[k] = false → hexed s.data.toList = false) := fun h => hexed_no s.data.toList k (by simpa using hlt) (by rw [HC.out]; exact h)
      have HI : Hid (isHex s[k] = ((decide (48 ≤ s[k].toNat) && decide (s[k].toNat ≤ 57)) || (decide (97 ≤ s[k].toNat) && decide (s[k].toNat ≤ 102)))) := rfl
      clear hdg HC
      by_cases a1 : 48 ≤ s[k].toNat
      · by_cases a2 : s[k].toNat ≤ 57
        · have HY : Hid (DigTo s.data.toList (k + 1)) := yes.out (by rw [HI.out]; simp [a1, a2])
          clear yes no HI
          have d48 : decide ((48 : Int) ≤ (s[k].toNat : Int)) = true := by simp; omega
          have d57 : decide ((s[k].toNat : Int) ≤ (57 : Int)) = true := by simp; omega
          go_wp2
          go_round
          case rel => exact ⟨k + 1, by omega, by go_num, HY.out⟩
          case measure => simp [intOf]; omega
        · by_cases a3 : 97 ≤ s[k].toNat
          · by_cases a4 : s[k].toNat ≤ 102
            · have HY : Hid (DigTo s.data.toList (k + 1)) := yes.out (by rw [HI.out]; simp [a3, a4])
              clear yes no HI
              have d48 : decide ((48 : Int) ≤ (s[k].toNat : Int)) = true := by simp; omega
              have d57 : decide ((s[k].toNat : Int) ≤ (57 : Int)) = false := by simp; omega
              have d97 : decide ((97 : Int) ≤ (s[k].toNat : Int)) = true := by simp; omega
              have d102 : decide ((s[k].toNat : Int) ≤ (102 : Int)) = true := by simp; omega
              go_wp2
              go_round
              case rel => exact ⟨k + 1, by omega, by go_num, HY.out⟩
              case measure => simp [intOf]; omega
            · have HN : Hid (hexed s.data.toList = false) := no.out (by rw [HI.out]; simp; omega)
              clear yes no HI
              have d48 : decide ((48 : Int) ≤ (s[k].toNat : Int)) = true := by simp; omega
              have d57 : decide ((s[k].toNat : Int) ≤ (57 : Int)) = false := by simp; omega
              have d97 : decide ((97 : Int) ≤ (s[k].toNat : Int)) = true := by simp; omega
              have d102 : decide ((s[k].toNat : Int) ≤ (102 : Int)) = false := by simp; omega
              go_wp2
              go_ret
              exact ⟨ret_bool HN.out.symm, rfl⟩
          · have HN : Hid (hexed s.data.toList = false) := no.out (by rw [HI.out]; simp; omega)
            clear yes no HI
            have d48 : decide ((48 : Int) ≤ (s[k].toNat : Int)) = true := by simp; omega
            have d57 : decide ((s[k].toNat : Int) ≤ (57 : Int)) = false := by simp; omega
            have d97 : decide ((97 : Int) ≤ (s[k].toNat : Int)) = false := by simp; omega
            go_wp2
            go_ret
            exact ⟨ret_bool HN.out.symm, rfl⟩
      · have a3 : ¬ 97 ≤ s[k].toNat := by omega
        have HN : Hid (hexed s.data.toList = false) := no.out (by rw [HI.out]; simp; omega)
        clear yes no HI
        have d48 : decide ((48 : Int) ≤ (s[k].toNat : Int)) = false := by simp; omega
        have d97 : decide ((97 : Int) ≤ (s[k].toNat : Int)) = false := by simp; omega
        go_wp2
        go_ret
        exact ⟨ret_bool HN.out.symm, rfl⟩
    · have HF : Hid (hexed s.data.toList = decide (s.size % 2 = 0)) := by
        unfold Hid
        rw [hexed_yes s.data.toList (by intro i hi; rw [len_size] at hi; exact HD.out i (by omega)), len_size]
      go_wp2
      go_ret
      refine ⟨ret_bool ?_, rfl⟩
      rw [HF.out]
      by_cases h : s.size % 2 = 0
      · have : ((s.size : Int) % 2 == 0) = true := by simp; omega
        rw [this]; simp [h]
      · have : ((s.size : Int) % 2 == 0) = false := by simp; omega
        rw [this]; simp [h]


theorem rrev_any (s : ByteArray) (w : World) : Calls Tryz.prog 29 #[.string s] w fun e w' => e = .returned (.bool (revB s)) ∧ w' = w := by
  by_cases h : s.size = 12
  · have b1 : ((s.size : Int) == 12) = true := by rw [h]; decide
    have HP := hidM (hexed_any s w (by unfold maxLen; omega))
    have HR : Hid (revB s = hexed s.data.toList) := by unfold Hid revB; rw [decide_eq_true h]; rfl
    clear h
    generalize hexed s.data.toList = q at *
    go_enter Tryz.func29, Tryz.ntmps29
    go_wp2_with fail
    refine HP.out.mono ?_
    rintro _ w1 ⟨rfl, hb1⟩
    rw [hb1]
    go_wp2
    go_ret
    exact ⟨by rw [HR.out]; rfl, rfl⟩
  · have b1 : ((s.size : Int) == 12) = false := by simp only [beq_eq_false_iff_ne, ne_eq]; omega
    have HR : Hid (revB s = false) := by unfold Hid revB; rw [decide_eq_false h]; rfl
    clear h
    go_enter Tryz.func29, Tryz.ntmps29
    go_wp2
    go_ret
    exact ⟨by rw [HR.out]; rfl, rfl⟩

theorem suf_three (s : ByteArray) : Lib.hasSuffix s.data.toList [46, 48, 46] = ((s.extract (s.size - 3) s.size).toList == [46, 48, 46]) := by
  rw [Lib.toList_data, ext_tail]
  unfold Lib.hasSuffix
  rw [Bool.eq_iff_iff, List.isSuffixOf_iff_suffix, beq_iff_eq]
  constructor
  · rintro ⟨t, ht⟩
    have hl : s.size = t.length + 3 := by rw [← size_len, ← ht]; simp
    rw [← ht, hl, Nat.add_sub_cancel]
    simp
  · intro hd
    exact ⟨s.data.toList.take (s.size - 3), by rw [← hd, List.take_append_drop]⟩
theorem suf_short (s : ByteArray) (h : s.size < 3) : Lib.hasSuffix s.data.toList [46, 48, 46] = false := by
  unfold Lib.hasSuffix
  rw [Bool.eq_false_iff]
  intro hc
  rw [List.isSuffixOf_iff_suffix] at hc
  obtain ⟨t, ht⟩ := hc
  have : s.size = t.length + 3 := by rw [← size_len, ← ht]; simp
  omega
set_option maxHeartbeats 1000000 in
theorem ends_any (s : ByteArray) (w : World) (hs : s.size ≤ 1000) : Calls Tryz.prog 37 #[.string s, .string ⟨#[46, 48, 46]⟩] w fun e w' => e = .returned (.bool (Lib.hasSuffix s.data.toList [46, 48, 46])) ∧ w' = w := by
  by_cases h : 3 ≤ s.size
  · have g1 : decide ((3 : Int) ≤ (s.size : Int)) = true := by simp; omega
    obtain ⟨z, hz⟩ : ∃ z, s.size = z + 3 := ⟨s.size - 3, by omega⟩
    have HR := hidM (suf_three s)
    rw [show s.size - 3 = z by omega] at HR
    have e1 : (s.size : Int) - 3 = (z : Int) := by omega
    have hz2 : z ≤ s.size := by omega
    clear h hz
    go_enter Tryz.func37, Tryz.ntmps37
    go_wp2
    go_ret
    exact ⟨by rw [HR.out]; rfl, rfl⟩
  · have g1 : decide ((3 : Int) ≤ (s.size : Int)) = false := by simp; omega
    have HR := hidM (suf_short s (by omega))
    clear h
    go_enter Tryz.func37, Tryz.ntmps37
    go_wp2
    go_ret
    exact ⟨by rw [HR.out]; rfl, rfl⟩

def buildB (b : ByteArray) : ByteArray := if b.toList.isEmpty then ⟨#[]⟩ else (⟨#[43]⟩ : ByteArray) ++ b
theorem rbuild_any (a b c d e : ByteArray) (n : Int) (w : World) (hs : e.size ≤ 1000) : Calls Tryz.prog 32 #[.agg #[.string a, .string b, .string c, .string d, .string e, .int .i64 n]] w fun x w' => x = .returned (.string (buildB e)) ∧ Below w.heap.size w w' := by
  have HB : Hid (Below w.heap.size w (w.alloc (.cells #[.string a, .string b, .string c, .string d, .string e, .int .i64 n] 37))) := (Below.refl _ w).alloc (Nat.le_refl _) _
  cases h : e.toList.isEmpty with
  | true =>
    have HR : Hid (buildB e = ⟨#[]⟩) := by unfold Hid buildB; rw [h]; rfl
    go_enter Tryz.func32, Tryz.ntmps32
    go_wp2
    go_ret
    exact ⟨by rw [HR.out]; rfl, HB.out⟩
  | false =>
    have HR : Hid (buildB e = (⟨#[43]⟩ : ByteArray) ++ e) := by unfold Hid buildB; rw [h]; rfl
    go_enter Tryz.func32, Tryz.ntmps32
    go_wp2
    go_ret
    exact ⟨by rw [HR.out]; rfl, HB.out⟩
end Go.Proofs.YtmhjdahmmdfbcaaGreatDoor
namespace Go.Proofs.YtmhjdahmmdfbcaaGreatDoor
open Go.RowKit
set_option maxHeartbeats 1000000 in
set_option maxRecDepth 100000 in
theorem rdays_any (y m : Int) (w : World) :
    Calls Tryz.prog 91 #[.int .i64 y, .int .i64 m] w fun e w' => e = .returned (.int .i64 (daysI y m : Nat)) ∧ Below w.heap.size w w' := by
  by_cases hm : 1 ≤ m ∧ m ≤ 12
  · have hk : m = 1 ∨ m = 2 ∨ m = 3 ∨ m = 4 ∨ m = 5 ∨ m = 6 ∨ m = 7 ∨ m = 8 ∨ m = 9 ∨ m = 10 ∨ m = 11 ∨ m = 12 := by omega
    have HB0 : Hid (Below w.heap.size w (w.alloc (.cells #[.int .i64 31, .int .i64 28, .int .i64 31, .int .i64 30, .int .i64 31, .int .i64 30, .int .i64 31, .int .i64 31, .int .i64 30, .int .i64 31, .int .i64 30, .int .i64 31] 3))) := (Below.refl _ w).alloc (Nat.le_refl _) _
    have HL := hidM (fun V => rleap_any y V)
    have hD : daysI y m = mdN (leapI y) m.toNat := by unfold daysI; rw [if_pos hm]
    rw [hD]
    clear hm hD
    rcases hk with rfl | rfl | rfl | rfl | rfl | rfl | rfl | rfl | rfl | rfl | rfl | rfl
    case inr.inl =>
      generalize leapI y = l at *
      cases l with
      | true =>
        go_enter Tryz.func91, Tryz.ntmps91
        go_wp2_with fail
        refine (HL.out _).mono ?_
        rintro _ _ ⟨rfl, rfl⟩
        go_wp2
        go_ret
        exact ⟨rfl, HB0.out⟩
      | false =>
        go_enter Tryz.func91, Tryz.ntmps91
        go_wp2_with fail
        refine (HL.out _).mono ?_
        rintro _ _ ⟨rfl, rfl⟩
        go_wp2
        go_ret
        exact ⟨rfl, HB0.out⟩
    all_goals
      go_enter Tryz.func91, Tryz.ntmps91
      go_wp2
      go_ret
      exact ⟨rfl, HB0.out⟩
  · have hD : daysI y m = 0 := by unfold daysI; rw [if_neg hm]
    rw [hD]
    by_cases h1' : m < 1
    · have t1 : decide (m < 1) = true := by simp; omega
      go_enter Tryz.func91, Tryz.ntmps91
      go_wp2
      go_ret
      exact ⟨rfl, Below.refl _ _⟩
    · have t1 : decide (m < 1) = false := by simp; omega
      have t2 : decide (12 < m) = true := by simp; omega
      go_enter Tryz.func91, Tryz.ntmps91
      go_wp2
      go_ret
      exact ⟨rfl, Below.refl _ _⟩
set_option maxRecDepth 100000 in
theorem length_any (y : Nat) (w : World) : Calls Tryz.prog 90 #[.int .i64 (y : Int)] w fun e w' => e = .returned (.int .i64 (ylN y : Nat)) ∧ w' = w := by
  have HL := hidM (rleap_any (y : Int) w)
  rw [leap_cast] at HL
  unfold ylN
  generalize leapN y = l at *
  cases l with
  | true =>
    go_enter Tryz.func90, Tryz.ntmps90
    go_wp2_with fail
    refine HL.out.mono ?_
    rintro _ _ ⟨rfl, rfl⟩
    go_wp2
    go_ret
    exact ⟨rfl, rfl⟩
  | false =>
    go_enter Tryz.func90, Tryz.ntmps90
    go_wp2_with fail
    refine HL.out.mono ?_
    rintro _ _ ⟨rfl, rfl⟩
    go_wp2
    go_ret
    exact ⟨rfl, rfl⟩
theorem ahead_cycle (c : Nat) : aheadN (1 + c * 400) = c * 146097 := by
  unfold aheadN
  rw [Nat.add_sub_cancel_left]
  omega
/-- a slice of seven numbers of the call's own -/
def RowQ (w : World) (v0 v1 v2 v3 v4 v5 v6 : Int) (x : Ending) (w' : World) : Prop :=
  ∃ g, x = .returned (.slice (some ⟨g, 0, none⟩) 7 7) ∧ w.heap.size ≤ g ∧ w'.heap[g]? = some (.cells #[.int .i64 v0, .int .i64 v1, .int .i64 v2, .int .i64 v3, .int .i64 v4, .int .i64 v5, .int .i64 v6] 3)
set_option maxHeartbeats 2000000 in
set_option maxRecDepth 100000 in
theorem rfrom_any (t : Int) (T y m d h mi s : Nat) (w : World) (ht : t = (T : Int) - 62135596800) (hd : IsDate T y m d h mi s) :
    Calls Tryz.prog 61 #[.int .i64 t] w fun x w' => RowQ w y m d h mi s (((1 + T / 86400) % 7 : Nat) : Int) x w' ∧ Below w.heap.size w w' := by
  have hlt := hd.lt
  have e1 : t + 62135596800 = (T : Int) := by omega
  have e2 : (T : Int).tdiv 86400 = ((T / 86400 : Nat) : Int) := Int.ofNat_tdiv T 86400
  have e3 : (T : Int).tmod 86400 = ((T % 86400 : Nat) : Int) := tmod_cast T 86400
  have e4 : ((T % 86400 : Nat) : Int).tdiv 3600 = (h : Int) := by rw [hd.h2]; exact Int.ofNat_tdiv _ 3600
  have e5 : ((T % 86400 : Nat) : Int).tdiv 60 = ((T % 86400 / 60 : Nat) : Int) := Int.ofNat_tdiv _ 60
  have e6 : ((T % 86400 / 60 : Nat) : Int).tmod 60 = (mi : Int) := by rw [hd.mi2]; exact tmod_cast _ 60
  have e7 : ((T % 86400 : Nat) : Int).tmod 60 = (s : Int) := by rw [hd.s2]; exact tmod_cast _ 60
  have h24 : h ≤ 23 := by rw [hd.h2]; omega
  have r1 : T % 86400 < 86400 := by omega
  have HD := hidM hd.day
  have hdl := hd.day.lt
  have y1 := hd.day.y1
  have y2 := hd.day.y2
  have m1 := hd.day.m1
  have m2 := hd.day.m2
  have hIY := hd.day.inYear
  have HIM := hidM hd.day.inMonth
  have e8 : (((T / 86400 : Nat) : Int) + 1).tmod 7 = (((1 + T / 86400) % 7 : Nat) : Int) := by
    have := tmod_cast (1 + T / 86400) 7
    rw [← this, Int.add_comm]; rfl
  have e9 : ((T / 86400 : Nat) : Int).tdiv 146097 = ((T / 86400 / 146097 : Nat) : Int) := Int.ofNat_tdiv _ 146097
  have e10 : ((T / 86400 : Nat) : Int).tmod 146097 = ((T / 86400 % 146097 : Nat) : Int) := tmod_cast _ 146097
  clear hd
  generalize hR : T % 86400 = R at *
  generalize hM : R / 60 = M at *
  have m60 : M < 1440 := by omega
  generalize T / 86400 = D at *
  have hK : (1 + D) % 7 ≤ 6 := by omega
  generalize (1 + D) % 7 = K at *
  obtain ⟨c, hc⟩ : ∃ c, c = D / 146097 := ⟨_, rfl⟩
  have hc25 : c ≤ 24 := by omega
  have hcm : D % 146097 = D - c * 146097 := by omega
  have hcl : c * 146097 ≤ D := by omega
  rw [← hc] at e9
  rw [hcm] at e10
  have HY0 : Hid (1 + c * 400 ≤ y) := by
    unfold Hid
    refine Classical.byContradiction fun hn => ?_
    have h1 := ahead_mono (show y + 1 ≤ 1 + c * 400 by omega)
    rw [ahead_cycle] at h1
    omega
  have HCY := hidM (ahead_cycle c)
  have HIY := hidM hIY
  have HLE := hidM (fun (k : Nat) V => length_any k V)
  have HDS : Hid (∀ V, ∀ j : Nat, Calls Tryz.prog 91 #[.int .i64 (y : Int), .int .i64 (j : Int)] V fun e w' => e = .returned (.int .i64 (dmN y j : Nat)) ∧ Below V.heap.size V w') := fun V j => by
    have := rdays_any y j V
    rw [days_cast] at this
    exact this
  clear hc hcm hR hM hIY
  obtain ⟨D0, hD0⟩ : ∃ D0, D0 = D - c * 146097 := ⟨_, rfl⟩
  rw [← hD0] at e10
  have HD0 := hidM hD0
  have d0 : D0 ≤ 4000000 := by omega
  clear hD0 ht
  go_enter Tryz.func61, Tryz.ntmps61
  go_wp2
  go_loopw [3, 6] (fun dv yv wr => ∃ k : Nat, 1 ≤ k ∧ k ≤ y ∧ yv = .int .i64 (k : Int) ∧ dv = .int .i64 ((D - aheadN k : Nat) : Int) ∧ aheadN k ≤ D ∧ w = wr) (fun _ yv _ => y - (intOf yv).toNat)
  case atStart => exact ⟨1 + c * 400, by omega, HY0.out, by go_num, by rw [HCY.out, ← HD0.out], by rw [HCY.out]; exact hcl, rfl⟩
  case round =>
    obtain ⟨k, k1, k2, rfl, rfl, hAk, hwr⟩ := hrel
    subst hwr
    have HLk : Hid (Calls Tryz.prog 90 #[.int .i64 (k : Int)] w fun e w' => e = .returned (.int .i64 (ylN k : Nat)) ∧ w = w') := (HLE.out k w).mono fun e w' g => ⟨g.1, g.2.symm⟩
    have hS := ahead_succ k k1
    have hyl : ylN k ≤ 366 := by unfold ylN; split <;> omega
    by_cases hlt2 : k < y
    · have hM := ahead_mono (show k + 1 ≤ y by omega)
      have hY := HIY.out.1
      rw [hS] at hM
      have HN : Hid (D - aheadN (k + 1) = D - aheadN k - ylN k ∧ aheadN (k + 1) ≤ D) := by
        unfold Hid; rw [hS]; omega
      have gq : ylN k ≤ D - aheadN k := by omega
      have q4 : D - aheadN k ≤ 4000000 := by omega
      generalize D - aheadN k = q at *
      generalize ylN k = l at *
      have gq2 : (l : Int) ≤ (q : Int) := by omega
      clear hS hM hY
      go_wp2_with fail
      refine HLk.out.mono ?_
      rintro _ _ ⟨rfl, rfl⟩
      go_wp2_with fail
      refine HLk.out.mono ?_
      rintro _ _ ⟨rfl, rfl⟩
      go_wp2
      go_roundw
      case rel => exact ⟨k + 1, by omega, by omega, by go_num, by rw [HN.out.1]; go_num, HN.out.2, by first | rfl | trivial⟩
      case measure => simp [intOf]; omega
    · obtain rfl : k = y := by omega
      have hY := HIY.out.2
      rw [hS] at hY
      have gq : D - aheadN k < ylN k := by omega
      have HQE : Hid (mA k m ≤ D - aheadN k ∧ D - aheadN k < mA k (m + 1) ∧ D - aheadN k = mA k m + (d - 1)) := HIM
      generalize hQ : D - aheadN k = q at *
      generalize ylN k = l at *
      have gq2 : ¬ (l : Int) ≤ (q : Int) := by omega
      have gq3 : decide (l ≤ q) = false := by simp; omega
      clear hS hY hQ HIM
      go_wp2_with fail
      refine HLk.out.mono ?_
      rintro _ _ ⟨rfl, rfl⟩
      go_wp2
      go_loopw [3, 7] (fun dv mv wr => ∃ j : Nat, 1 ≤ j ∧ j ≤ m ∧ mv = .int .i64 (j : Int) ∧ dv = .int .i64 ((q - mA k j : Nat) : Int) ∧ Below w.heap.size w wr) (fun _ mv _ => m - (intOf mv).toNat)
      case atStart => exact ⟨1, by decide, m1, rfl, by rw [mA_one]; rfl, Below.refl _ _⟩
      case round =>
        obtain ⟨j, j1, j2, rfl, rfl, hbj⟩ := hrel
        have HBJ := hidM hbj
        clear hbj
        have HDj := hidM (fun V => HDS.out V j)
        have h31 := dm_le k j
        have hI := HQE.out
        have hS := mA_succ k j
        by_cases hj : j < m
        · have hM := mA_mono k (show j + 1 ≤ m by omega)
          rw [hS] at hM
          have hge2 : dmN k j ≤ q - mA k j := by omega
          have HE2 : Hid (q - mA k (j + 1) = q - mA k j - dmN k j) := by unfold Hid; omega
          have q5 : q - mA k j ≤ 366 := by omega
          generalize dmN k j = e at *
          generalize q - mA k j = r at *
          have gr : (e : Int) ≤ (r : Int) := by omega
          clear hI hS hM
          go_wp2_with fail
          refine (HDj.out _).mono ?_
          rintro _ w1 ⟨rfl, hb1⟩
          have HB1 := hidM (HBJ.out.trans (hb1.mono HBJ.out.size))
          clear hb1
          go_wp2_with fail
          refine (HDj.out _).mono ?_
          rintro _ w2 ⟨rfl, hb2⟩
          have HB2 := hidM (HB1.out.trans (hb2.mono HB1.out.size))
          clear hb2
          go_wp2
          go_roundw
          case rel => exact ⟨j + 1, by omega, by omega, by go_num, by rw [HE2.out]; go_num, HB2.out⟩
          case measure => simp [intOf]; omega
        · obtain rfl : j = m := by omega
          have hlt3 : q - mA k j < dmN k j := by omega
          have HE2 : Hid (q - mA k j + 1 = d) := by unfold Hid; have := HD.out.d1; omega
          have q5 : q - mA k j ≤ 366 := by omega
          generalize dmN k j = e at *
          generalize q - mA k j = r at *
          have gr : ¬ (e : Int) ≤ (r : Int) := by omega
          clear hI hS
          go_wp2_with fail
          refine (HDj.out _).mono ?_
          rintro _ w1 ⟨rfl, hb1⟩
          have HB1 := hidM (HBJ.out.trans (hb1.mono HBJ.out.size))
          clear hb1
          go_wp2
          go_ret
          refine ⟨⟨w1.heap.size, rfl, HB1.out.size, ?_⟩, HB1.out.alloc HB1.out.size _⟩
          rw [← HE2.out]
          exact _root_.Go.heap_alloc_new _ _
def digS10 : ByteArray := { data := #[48, 49, 50, 51, 52, 53, 54, 55, 56, 57] }
theorem dig10 : ∀ n, n < 10 → digS10.extract n (n + 1) = ⟨#[dig n]⟩ := by decide
theorem app_one (P : List UInt8) (a : UInt8) : (⟨P.toArray⟩ : ByteArray) ++ ⟨#[a]⟩ = ⟨(P ++ [a]).toArray⟩ := by
  apply ByteArray.ext
  simp [ByteArray.data_append]
set_option maxHeartbeats 1600000 in
set_option maxRecDepth 100000 in
theorem digits_pos (k : Nat) : ∀ (n : Nat) (w : World), n < k → n ≤ 9223372036854775807 →
    Calls Tryz.prog 92 #[.int .i64 (n : Int)] w fun e w' => e = .returned (.string ⟨(Lib.decDigits n).toArray⟩) ∧ ∃ m, w' = w.drewN m := by
  induction k with
  | zero => intro n w h; omega
  | succ k ih =>
    intro n w hk hn
    have g1 : ¬ (n : Int) < 0 := by omega
    by_cases h10 : n < 10
    · have g2 : (n : Int) < 10 := by omega
      have hcut := dig10 n h10
      have hdd := hidM (dd_small h10)
      unfold digS10 at hcut
      generalize dig n = d at *
      go_enter Tryz.func92, Tryz.ntmps92
      go_wp2_with fail
      go_ret
      exact ⟨by rw [hdd.out]; rfl, 0, rfl⟩
    · have g2 : ¬ (n : Int) < 10 := by omega
      obtain ⟨q, hq⟩ : ∃ q, q = n / 10 := ⟨_, rfl⟩
      obtain ⟨r, hr⟩ : ∃ r, r = n % 10 := ⟨_, rfl⟩
      have hr10 : r < 10 := by omega
      have r1 : (n : Int) / 10 = (q : Int) := by omega
      have r2 : (n : Int) % 10 = (r : Int) := by omega
      have hcut := dig10 r hr10
      unfold digS10 at hcut
      have hdd := hidM (dd_big (u := n) (by omega))
      rw [← hq, ← hr] at hdd
      have IH : Hid (∀ w, Calls Tryz.prog 92 #[.int .i64 (q : Int)] w fun e w' => e = .returned (.string ⟨(Lib.decDigits q).toArray⟩) ∧ ∃ m, w' = w.drewN m) := fun w => ih q w (by omega) (by omega)
      clear ih hq hr
      have hlen : (⟨(Lib.decDigits q).toArray⟩ : ByteArray).size ≤ 100 := by
        show (Lib.decDigits q).toArray.size ≤ 100
        rw [List.size_toArray, Lib.decDigits_length]
        have := Lib.nDigits_le20 q (by omega)
        omega
      generalize dig r = d at *
      have HAP := hidM (app_one (Lib.decDigits q) d)
      generalize (⟨(Lib.decDigits q).toArray⟩ : ByteArray) = Q at *
      go_enter Tryz.func92, Tryz.ntmps92
      go_wp2_with fail
      go_quiet ((go_at_call 92; with_reducible exact Calls.quiet_of (IH.out _)))
      go_wp2
      go_ret
      exact ⟨by rw [hdd.out, ← HAP.out]; rfl, nq, rfl⟩
set_option maxHeartbeats 1600000 in
set_option maxRecDepth 100000 in
theorem rdig_any (n wide : Nat) (h1 : n ≤ 9999) (h2 : wide ≤ 4) (w : World) :
    Calls Tryz.prog 62 #[.int .i64 (n : Int), .int .i64 (wide : Int)] w fun e w' => e = .returned (.string ⟨(padL n wide).toArray⟩) ∧ Below w.heap.size w w' := by
  have HI := hidM (digits_pos (n + 1) n w (by omega) (by omega))
  have hl := dd_len n h1
  have HP : Hid (padL n wide = List.replicate (wide - (Lib.decDigits n).length) 48 ++ Lib.decDigits n) := rfl
  generalize Lib.decDigits n = L at *
  go_enter Tryz.func62, Tryz.ntmps62
  go_wp2_with fail
  refine HI.out.mono ?_
  rintro _ _ ⟨rfl, k, rfl⟩
  go_wp2
  go_loopw [5] (fun sv wr => ∃ j : Nat, j ≤ wide - L.length ∧ sv = .string ⟨(List.replicate j 48 ++ L).toArray⟩ ∧ wr = w.drewN k) (fun sv _ => wide - (match sv with | .string s => s.size | _ => 0))
  case atStart => exact ⟨0, Nat.zero_le _, rfl, rfl⟩
  case round =>
    obtain ⟨j, hj, rfl, hwr⟩ := hrel
    subst hwr
    have hs : (⟨(List.replicate j (48 : UInt8) ++ L).toArray⟩ : ByteArray).size = j + L.length := by
      show (List.replicate j (48 : UInt8) ++ L).toArray.size = _
      simp
    have HAP : Hid ((⟨#[48]⟩ : ByteArray) ++ ⟨(List.replicate j (48 : UInt8) ++ L).toArray⟩ = ⟨(List.replicate (j + 1) (48 : UInt8) ++ L).toArray⟩) := by
      unfold Hid; apply ByteArray.ext; simp [ByteArray.data_append, List.replicate_succ]
    have HRE : Hid (j = wide - L.length → (⟨(List.replicate j (48 : UInt8) ++ L).toArray⟩ : ByteArray) = ⟨(padL n wide).toArray⟩) := fun e => by rw [HP.out, e]
    generalize (⟨(List.replicate j (48 : UInt8) ++ L).toArray⟩ : ByteArray) = S at *
    by_cases hlt : j + L.length < wide
    · have g1 : (S.size : Int) < (wide : Int) := by omega
      have hsb : S.size ≤ 8 := by omega
      go_wp2
      go_roundw
      case rel => exact ⟨j + 1, by omega, by rw [← HAP.out], by first | rfl | trivial⟩
      case measure => show wide - ((⟨#[48]⟩ : ByteArray) ++ S).size < wide - S.size; rw [ByteArray.size_append]; show wide - (1 + S.size) < _; omega
    · have g1 : ¬ (S.size : Int) < (wide : Int) := by omega
      have HF := hidM (HRE.out (by omega))
      go_wp2
      go_ret
      exact ⟨by rw [← HF.out]; rfl, below_drewN (Below.refl _ _) _⟩
end Go.Proofs.YtmhjdahmmdfbcaaGreatDoor
namespace Go.Proofs.YtmhjdahmmdfbcaaGreatDoor
open Go.RowKit
theorem row7 {w : World} {b : Nat} {v0 v1 v2 v3 v4 v5 v6 : Int} (h : w.heap[b]? = some (.cells #[.int .i64 v0, .int .i64 v1, .int .i64 v2, .int .i64 v3, .int .i64 v4, .int .i64 v5, .int .i64 v6] 3)) :
    ∀ k, k < 7 → w.cell? ⟨b, k, none⟩ = some (.int .i64 ([v0, v1, v2, v3, v4, v5, v6].getD k 0)) := by
  intro k hk
  rw [cell_of_row _ _ _ _ 3 (0, 0) h]
  have : k = 0 ∨ k = 1 ∨ k = 2 ∨ k = 3 ∨ k = 4 ∨ k = 5 ∨ k = 6 := by omega
  rcases this with rfl | rfl | rfl | rfl | rfl | rfl | rfl <;> rfl
/-- the text of the first k numbers behind the year -/
def preLK (y : Nat) (l : List Nat) (k : Nat) : List UInt8 := d4 y ++ (l.take k).flatMap d2
theorem pre_step (y : Nat) (l : List Nat) (k : Nat) (h : k < l.length) : preLK y l (k + 1) = preLK y l k ++ d2 (l.getD k 0) := by
  unfold preLK
  rw [List.take_add_one, List.getElem?_eq_getElem h, List.flatMap_append, ← List.append_assoc]
  have : l.getD k 0 = l[k] := by rw [List.getD_eq_getElem?_getD, List.getElem?_eq_getElem h]; rfl
  rw [this]
  simp
theorem rdig2 (n : Nat) (h : n < 100) (w : World) : Calls Tryz.prog 62 #[.int .i64 (n : Int), .int .i64 2] w fun e w' => e = .returned (.string (b2 n)) ∧ Below w.heap.size w w' := by
  have := rdig_any n 2 (by omega) (by omega) w
  rw [pad2 n h] at this
  exact this
theorem rdig4 (n : Nat) (h : n < 10000) (w : World) : Calls Tryz.prog 62 #[.int .i64 (n : Int), .int .i64 4] w fun e w' => e = .returned (.string (b4 n)) ∧ Below w.heap.size w w' := by
  have := rdig_any n 4 (by omega) (by omega) w
  rw [pad4 n h] at this
  exact this
set_option maxHeartbeats 2000000 in
set_option maxRecDepth 100000 in
theorem rstamp_any (t : Int) (T y m d h mi s : Nat) (w : World) (ht : t = (T : Int) - 62135596800) (hd : IsDate T y m d h mi s) :
    Calls Tryz.prog 30 #[.int .i64 t] w fun x w' => x = .returned (.string (stampT y m d h mi s)) ∧ Below w.heap.size w w' := by
  have HF := hidM (rfrom_any t T y m d h mi s w ht hd)
  obtain ⟨s1, s2, s3, s4, s5, s6⟩ := hd.small
  have HD4 := hidM (fun V => rdig4 y s1 V)
  have HFIN : Hid ((⟨(preLK y [m, d, h, mi, s] 5).toArray⟩ : ByteArray) = stampT y m d h mi s) := by
    unfold Hid
    apply ByteArray.ext
    apply Array.toList_inj.1
    rw [stamp_list]
    unfold preLK stL
    simp
  have HSM : Hid (∀ k, k < 5 → [m, d, h, mi, s].getD k 0 < 100) := fun k hk => by
    have : k = 0 ∨ k = 1 ∨ k = 2 ∨ k = 3 ∨ k = 4 := by omega
    rcases this with rfl | rfl | rfl | rfl | rfl
    · exact s2
    · exact s3
    · exact s4
    · exact s5
    · exact s6
  have HCL : Hid (∀ (V : World) (g : Nat) (K : Int), V.heap[g]? = some (.cells #[.int .i64 (y : Int), .int .i64 (m : Int), .int .i64 (d : Int), .int .i64 (h : Int), .int .i64 (mi : Int), .int .i64 (s : Int), .int .i64 K] 3) → V.cell? ⟨g, 0, none⟩ = some (.int .i64 (y : Int)) ∧ ∀ k, k < 5 → V.cell? ⟨g, 1 + k, none⟩ = some (.int .i64 ([m, d, h, mi, s].getD k 0 : Nat))) := fun V g K hV => by
    refine ⟨row7 hV 0 (by decide), fun k hk => ?_⟩
    rw [row7 hV (1 + k) (by omega)]
    have : k = 0 ∨ k = 1 ∨ k = 2 ∨ k = 3 ∨ k = 4 := by omega
    rcases this with rfl | rfl | rfl | rfl | rfl <;> rfl
  have HLE : Hid ([m, d, h, mi, s].length = 5) := rfl
  generalize [m, d, h, mi, s] = L at *
  generalize (((1 + T / 86400) % 7 : Nat) : Int) = K at *
  clear ht hd
  go_enter Tryz.func30, Tryz.ntmps30
  go_wp2_with fail
  refine HF.out.mono ?_
  rintro _ w1 ⟨⟨g, rfl, hg, hbx⟩, hb1⟩
  have HB1 := hidM hb1
  have HX1 := hidM hbx
  have c0 := (HCL.out w1 g K hbx).1
  clear hb1 hbx HF hg
  go_wp2_with fail
  refine (HD4.out w1).mono ?_
  rintro _ w2 ⟨rfl, hb2⟩
  have HB2 := hidM (HB1.out.trans (hb2.mono HB1.out.size))
  have HX2 := hidM (box_kept HX1.out hb2)
  clear hb2 c0
  go_wp2
  go_loopw [4, 6, 16] (fun sv _ iv wr => ∃ k : Nat, k ≤ 5 ∧ iv = .int .i64 (k : Int) ∧ sv = .string ⟨(preLK y L k).toArray⟩ ∧ Below w2.heap.size w2 wr) (fun _ _ i _ => 5 - (intOf i).toNat)
  case atStart => exact ⟨0, by decide, rfl, by unfold preLK; simp [b4], Below.refl _ _⟩
  case round =>
    obtain ⟨k, hk, rfl, rfl, hbk⟩ := hrel
    have HBK := hidM hbk
    clear hbk
    by_cases hlt : k < 5
    · have gk : (k : Int) < 5 := by omega
      have hs := HSM.out k hlt
      have c1 := (HCL.out wr g K (box_kept HX2.out HBK.out)).2 k hlt
      have HST := hidM (pre_step y L k (by rw [HLE.out]; exact hlt))
      have hln : (⟨(preLK y L k).toArray⟩ : ByteArray).size ≤ 100 := by
        show (preLK y L k).toArray.size ≤ 100
        rw [List.size_toArray]
        unfold preLK
        rw [List.length_append]
        have : ((L.take k).flatMap d2).length = 2 * (L.take k).length := by
          generalize L.take k = M
          induction M with
          | nil => rfl
          | cons a M ih => rw [List.flatMap_cons, List.length_append, ih]; show 2 + _ = _; rw [List.length_cons]; omega
        rw [this, List.length_take]
        show 4 + _ ≤ _
        omega
      have HD2 := hidM (fun V => rdig2 (L.getD k 0) hs V)
      have HAP : Hid ((⟨(preLK y L k).toArray⟩ : ByteArray) ++ b2 (L.getD k 0) = ⟨(preLK y L (k + 1)).toArray⟩) := by
        unfold Hid
        rw [HST.out]
        apply ByteArray.ext
        simp [b2, ByteArray.data_append]
      have z2 := b2_size (L.getD k 0)
      generalize b2 (L.getD k 0) = X at *
      generalize L.getD k 0 = v at *
      generalize (⟨(preLK y L k).toArray⟩ : ByteArray) = S at *
      go_wp2_with fail
      refine (HD2.out _).mono ?_
      rintro _ w3 ⟨rfl, hb3⟩
      have HB3 := hidM (HBK.out.trans (hb3.mono HBK.out.size))
      clear hb3
      go_wp2
      go_roundw
      case rel => exact ⟨k + 1, by omega, by go_num, by rw [← HAP.out], HB3.out⟩
      case measure => simp [intOf]; omega
    · have gk : ¬ (k : Int) < 5 := by omega
      obtain rfl : k = 5 := by omega
      rw [HFIN.out]
      go_wp2
      go_ret
      exact ⟨rfl, HB2.out.trans (HBK.out.mono HB2.out.size)⟩
end Go.Proofs.YtmhjdahmmdfbcaaGreatDoor
