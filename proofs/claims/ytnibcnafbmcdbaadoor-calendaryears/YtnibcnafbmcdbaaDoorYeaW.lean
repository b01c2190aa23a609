/-
  The law CalendarYears, walked.
-/
import Derived.Test.YtnibcnafbmcdbaaDoorCalG
namespace Go.Proofs.YtnibcnafbmcdbaaDoor
open Go.RowKit

/-- the days ahead of a month of any year -/
def sumI (y : Int) : Nat → Nat
  | 0 => 0
  | m + 1 => sumI y m + daysI y (m : Int)
theorem sum_all (y : Int) : sumI y 14 = if leapI y then 366 else 365 := by
  simp only [sumI]
  unfold daysI
  cases leapI y <;> decide
theorem daysI_in {y : Int} {m : Nat} (h1 : 1 ≤ m) (h2 : m ≤ 12) : 28 ≤ daysI y m ∧ daysI y m ≤ 31 := by
  unfold daysI
  rw [if_pos ⟨by omega, by omega⟩]
  exact ⟨mdN_ge _ _ (by omega) (by omega), mdN_le _ _⟩
theorem daysI_out {y : Int} {m : Nat} (h : m < 1 ∨ 12 < m) : daysI y m = 0 := by
  unfold daysI
  rw [if_neg (by omega)]
theorem new_year (y : Nat) (h1 : 1 ≤ y) (h2 : y ≤ 9999) : IsDay (aheadN y) y 1 1 := ⟨h1, h2, by decide, by decide, by decide, show 1 ≤ 31 by decide, rfl⟩
theorem sec1 (A : Nat) : (((A * 86400 + 0 * 3600 + 0 * 60 + 0 : Nat) : Int) - 62135596800) = (A : Int) * 86400 - 62135596800 := by omega
theorem sec2 (A N : Nat) : ((((A + N) * 86400 + 0 * 3600 + 0 * 60 + 0 : Nat) : Int) - 62135596800) = (A : Int) * 86400 - 62135596800 + 86400 * (N : Int) := by omega
set_option maxHeartbeats 2000000 in
set_option maxRecDepth 100000 in
theorem years_walk (y : Int) (w : World) (hG : GT w) (h0 : -9223372036854775808 ≤ y) (h1 : y ≤ 9223372036854775807) :
    Calls Tryd.prog 6 #[.int .i64 y] w fun x w' => x = .returned (.bool true) ∧ Below w.heap.size w w' := by
  have HG := hidM hG
  clear hG
  go_enter Tryd.func6, Tryd.ntmps6
  go_wp2
  go_loopw [3, 4, 5] (fun nv mv _ wr => ∃ m : Nat, m ≤ 14 ∧ mv = .int .i64 (m : Int) ∧ nv = .int .i64 (sumI y m : Nat) ∧ wr = w) (fun _ m _ _ => 14 - (intOf m).toNat)
  case atStart => exact ⟨0, by decide, rfl, rfl, rfl⟩
  case round =>
    obtain ⟨m, hm, rfl, rfl, hwr⟩ := hrel
    subst hwr
    by_cases hlt : m < 14
    · have g1 : (m : Int) ≤ 13 := by omega
      have HD := hidM (days_any y m wr HG.out)
      have HSU : Hid (sumI y (m + 1) = sumI y m + daysI y (m : Int)) := rfl
      have hsb : sumI y m ≤ 31 * m := by
        clear HSU HD g1 hm
        induction m with
        | zero => exact Nat.zero_le _
        | succ k ih =>
          have := ih (by omega)
          have h3 : daysI y (k : Int) ≤ 31 := by
            by_cases hk : 1 ≤ k ∧ k ≤ 12
            · exact (daysI_in hk.1 hk.2).2
            · rw [daysI_out (by omega)]; decide
          show sumI y k + daysI y (k : Int) ≤ _
          omega
      by_cases hin : 1 ≤ m ∧ m ≤ 12
      · have hr := daysI_in (y := y) hin.1 hin.2
        generalize daysI y (m : Int) = q at *
        generalize sumI y m = S at *
        have t1 : decide ((m : Int) < 1) = false := by simp; omega
        have t2 : decide ((12 : Int) < (m : Int)) = false := by simp; omega
        have t3 : ((q : Int) == 0) = false := by simp; omega
        have t4 : decide ((31 : Int) < (q : Int)) = false := by simp; omega
        have t5 : decide ((0 : Int) < (q : Int)) = true := by simp; omega
        have t6 : decide ((q : Int) < 28) = false := by simp; omega
        go_wp2_with fail
        refine HD.out.mono ?_
        rintro _ _ ⟨rfl, rfl⟩
        go_wp2
        go_roundw
        case rel => exact ⟨m + 1, by omega, by go_num, by rw [HSU.out]; go_num, by first | rfl | trivial⟩
        case measure => simp [intOf]; omega
      · have hz : daysI y (m : Int) = 0 := daysI_out (by omega)
        rw [hz] at HD HSU
        generalize sumI y m = S at *
        have hm2 : m = 0 ∨ m = 13 := by omega
        rcases hm2 with rfl | rfl
        · go_wp2_with fail
          refine HD.out.mono ?_
          rintro _ _ ⟨rfl, rfl⟩
          go_wp2
          go_roundw
          case rel => exact ⟨1, by omega, by go_num, by rw [HSU.out]; go_num, by first | rfl | trivial⟩
          case measure => simp [intOf]
        · go_wp2_with fail
          refine HD.out.mono ?_
          rintro _ _ ⟨rfl, rfl⟩
          go_wp2
          go_roundw
          case rel => exact ⟨14, by omega, by go_num, by rw [HSU.out]; go_num, by first | rfl | trivial⟩
          case measure => simp [intOf]
    · have g1 : ¬ (m : Int) ≤ 13 := by omega
      obtain rfl : m = 14 := by omega
      have HAW := hidM (fun V (hV : GT V) => awake_any V hV)
      obtain ⟨N, hN⟩ : ∃ N, N = sumI y 14 := ⟨_, rfl⟩
      have hv : N = 365 ∨ N = 366 := by rw [hN, sum_all]; split <;> omega
      rw [← hN]
      by_cases hyr : 1 ≤ y ∧ y ≤ 9998
      · as_aux_lemma =>
        obtain ⟨n, rfl⟩ : ∃ n : Nat, y = (n : Int) := ⟨y.toNat, by omega⟩
        have HU1 := hidM (unix_yes (aheadN n) n 1 1 0 0 0 0 wr HG.out (new_year n (by omega) (by omega)) (by decide) (by decide) (by decide))
        have HU2 := hidM (fun V (hV : GT V) => unix_yes (aheadN (n + 1)) (n + 1) 1 1 0 0 0 0 V hV (new_year (n + 1) (by omega) (by omega)) (by decide) (by decide) (by decide))
        have hyl : ylN n = N := by rw [hN, sum_all, leap_cast]; rfl
        rw [ahead_succ n (by omega), hyl] at HU2
        have hA : aheadN n ≤ 3652059 := by have := ahead_mono (show n ≤ 10000 by omega); rw [ahead_last] at this; exact this
        generalize aheadN n = A at *
        have e1 : (((A * 86400 + 0 * 3600 + 0 * 60 + 0 : Nat) : Int) - 62135596800) = (A : Int) * 86400 - 62135596800 := sec1 A
        have e2 : ((((A + N) * 86400 + 0 * 3600 + 0 * 60 + 0 : Nat) : Int) - 62135596800) = (A : Int) * 86400 - 62135596800 + 86400 * (N : Int) := sec2 A N
        rw [e1] at HU1
        rw [e2] at HU2
        clear e1 e2
        obtain ⟨X, hX⟩ : ∃ X : Int, X = (A : Int) * 86400 - 62135596800 := ⟨_, rfl⟩
        rw [← hX] at HU1 HU2
        have x1 : -62135596800 ≤ X := by omega
        have x2 : X ≤ 400000000000 := by omega
        have t1 : decide ((n : Int) < 1) = false := by simp; omega
        have t2 : decide ((9998 : Int) < (n : Int)) = false := by simp; omega
        have n1 : (n : Int) ≤ 9998 := by omega
        have ys : ((N : Int) == 365 || (N : Int) == 366) = true := by rcases hv with h | h <;> simp [h]
        have HU3 : Hid (∀ V, GT V → Calls Tryd.prog 12 #[.agg #[.int .i64 ((n : Int) + 1), .int .i64 1, .int .i64 1, .int .i64 0, .int .i64 0, .int .i64 0, .int .i64 0]] V fun e w' => e = .returned (.tuple #[.int .i64 (X + 86400 * (N : Int)), .int .i64 0]) ∧ Below V.heap.size V w') := HU2.out
        have HU0 : Hid (Calls Tryd.prog 12 #[.agg #[.int .i64 (n : Int), .int .i64 1, .int .i64 1, .int .i64 0, .int .i64 0, .int .i64 0, .int .i64 0]] wr fun e w' => e = .returned (.tuple #[.int .i64 X, .int .i64 0]) ∧ Below wr.heap.size wr w') := HU1.out
        clear hX hyl hN HU1 HU2 hA
        have f1 : (X + 31536000 - X == 31536000) = true := by rw [beq_iff_eq]; omega
        have f2 : (X + 31622400 - X == 31622400) = true := by rw [beq_iff_eq]; omega
        rcases hv with rfl | rfl
        · go_wp2_with fail
          refine HU0.out.mono ?_
          rintro _ w1 ⟨rfl, hb1⟩
          have HB1 := hidM hb1
          clear hb1
          go_wp2_with fail
          refine (HU3.out w1 (HG.out.below HB1.out)).mono ?_
          rintro _ w2 ⟨rfl, hb2⟩
          have HB2 := hidM (HB1.out.trans (hb2.mono HB1.out.size))
          clear hb2
          go_wp2_with fail
          refine (HAW.out w2 (HG.out.below HB2.out)).mono ?_
          rintro _ w3 ⟨rfl, hb3⟩
          have HB3 := hidM (HB2.out.trans (hb3.mono HB2.out.size))
          clear hb3
          go_wp2
          go_ret
          exact ⟨rfl, HB3.out⟩
        · go_wp2_with fail
          refine HU0.out.mono ?_
          rintro _ w1 ⟨rfl, hb1⟩
          have HB1 := hidM hb1
          clear hb1
          go_wp2_with fail
          refine (HU3.out w1 (HG.out.below HB1.out)).mono ?_
          rintro _ w2 ⟨rfl, hb2⟩
          have HB2 := hidM (HB1.out.trans (hb2.mono HB1.out.size))
          clear hb2
          go_wp2_with fail
          refine (HAW.out w2 (HG.out.below HB2.out)).mono ?_
          rintro _ w3 ⟨rfl, hb3⟩
          have HB3 := hidM (HB2.out.trans (hb3.mono HB2.out.size))
          clear hb3
          go_wp2
          go_ret
          exact ⟨rfl, HB3.out⟩
      · as_aux_lemma =>
        by_cases hy1 : y < 1
        · have t1 : decide (y < 1) = true := by simp; omega
          clear hN
          rcases hv with rfl | rfl
          · go_wp2_with fail
            refine (HAW.out wr HG.out).mono ?_
            rintro _ w3 ⟨rfl, hb3⟩
            have HB3 := hidM hb3
            clear hb3
            go_wp2
            go_ret
            exact ⟨rfl, HB3.out⟩
          · go_wp2_with fail
            refine (HAW.out wr HG.out).mono ?_
            rintro _ w3 ⟨rfl, hb3⟩
            have HB3 := hidM hb3
            clear hb3
            go_wp2
            go_ret
            exact ⟨rfl, HB3.out⟩
        · have t1 : decide (y < 1) = false := by simp; omega
          have t2 : decide (9998 < y) = true := by simp; omega
          clear hN
          rcases hv with rfl | rfl
          · go_wp2_with fail
            refine (HAW.out wr HG.out).mono ?_
            rintro _ w3 ⟨rfl, hb3⟩
            have HB3 := hidM hb3
            clear hb3
            go_wp2
            go_ret
            exact ⟨rfl, HB3.out⟩
          · go_wp2_with fail
            refine (HAW.out wr HG.out).mono ?_
            rintro _ w3 ⟨rfl, hb3⟩
            have HB3 := hidM hb3
            clear hb3
            go_wp2
            go_ret
            exact ⟨rfl, HB3.out⟩
end Go.Proofs.YtnibcnafbmcdbaaDoor
