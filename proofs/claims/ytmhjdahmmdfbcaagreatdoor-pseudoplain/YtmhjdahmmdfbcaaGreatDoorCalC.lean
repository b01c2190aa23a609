/-
  Walks of calendar: Unix.
-/
import Derived.Test.YtmhjdahmmdfbcaaGreatDoorCalB
namespace Go.Proofs.YtmhjdahmmdfbcaaGreatDoor
open Go.RowKit
theorem cells7 {w : World} {b : Nat} {v0 v1 v2 v3 v4 v5 v6 : Value} (h : w.heap[b]? = some (.cells #[v0, v1, v2, v3, v4, v5, v6] 111)) :
    w.cell? ⟨b, 0, none⟩ = some v0 ∧ w.cell? ⟨b, 1, none⟩ = some v1 ∧ w.cell? ⟨b, 2, none⟩ = some v2 ∧ w.cell? ⟨b, 3, none⟩ = some v3 ∧ w.cell? ⟨b, 4, none⟩ = some v4 ∧ w.cell? ⟨b, 5, none⟩ = some v5 ∧ w.cell? ⟨b, 6, none⟩ = some v6 := by
  refine ⟨?_, ?_, ?_, ?_, ?_, ?_, ?_⟩ <;> rw [cell_of_row _ _ _ _ 111 (0, 0) h] <;> rfl
set_option maxHeartbeats 1000000 in
set_option maxRecDepth 100000 in
theorem unix_no (y m d h mi s k : Int) (w : World) (hG : GT w) (hn : (dayB y m d && timeB h mi s) = false) :
    Calls Tryz.prog 97 #[.agg #[.int .i64 y, .int .i64 m, .int .i64 d, .int .i64 h, .int .i64 mi, .int .i64 s, .int .i64 k]] w fun e w' => e = .returned (.tuple #[.int .i64 0, .int .i64 1]) ∧ Below w.heap.size w w' := by
  have HB0 : Hid (Below w.heap.size w (w.alloc (.cells #[.int .i64 y, .int .i64 m, .int .i64 d, .int .i64 h, .int .i64 mi, .int .i64 s, .int .i64 k] 111))) := (Below.refl _ w).alloc (Nat.le_refl _) _
  have HG := hidM hG
  have hx := heap_alloc_new w (.cells #[.int .i64 y, .int .i64 m, .int .i64 d, .int .i64 h, .int .i64 mi, .int .i64 s, .int .i64 k] 111)
  have HX := hidM hx
  clear hG hx
  have H1 := hidM (dayThere_any y m d h mi s k _ (HG.out.below HB0.out))
  have H2 := hidM (fun V => timeThere_any y m d h mi s k V)
  generalize dayB y m d = b1 at *
  generalize timeB h mi s = b2 at *
  generalize hW : (w.alloc (.cells #[.int .i64 y, .int .i64 m, .int .i64 d, .int .i64 h, .int .i64 mi, .int .i64 s, .int .i64 k] 111)) = W at *
  cases b1 with
  | false =>
    clear hn H2
    subst hW
    go_enter Tryz.func97, Tryz.ntmps97
    go_wp2_with fail
    refine H1.out.mono ?_
    rintro _ w1 ⟨rfl, hb1⟩
    have HB1 := hidM (HB0.out.trans (hb1.mono HB0.out.size))
    clear hb1
    go_wp2
    go_ret2
    exact ⟨rfl, HB1.out⟩
  | true =>
    obtain rfl : b2 = false := by simpa using hn
    clear hn
    subst hW
    go_enter Tryz.func97, Tryz.ntmps97
    go_wp2_with fail
    refine H1.out.mono ?_
    rintro _ w1 ⟨rfl, hb1⟩
    have HB1 := hidM (HB0.out.trans (hb1.mono HB0.out.size))
    obtain ⟨c0, c1, c2, c3, c4, c5, c6⟩ := cells7 (box_kept HX.out hb1)
    clear hb1
    go_wp2_with fail
    refine (H2.out w1).mono ?_
    rintro _ w2 ⟨rfl, hb2⟩
    have HB2 := hidM (HB1.out.trans (hb2.mono HB1.out.size))
    clear hb2
    go_wp2
    go_ret2
    exact ⟨rfl, HB2.out⟩
theorem day_yes {D y m d : Nat} (h : IsDay D y m d) : dayB (y : Int) (m : Int) (d : Int) = true := by
  unfold dayB
  rw [days_cast]
  have := h.y1; have := h.y2; have := h.d1; have := h.d2
  exact decide_eq_true ⟨by omega, by omega, by omega, by omega⟩
theorem time_yes {h mi s : Nat} (h1 : h < 24) (h2 : mi < 60) (h3 : s < 60) : timeB (h : Int) (mi : Int) (s : Int) = true := by
  unfold timeB
  rw [decide_eq_true ⟨by omega, by omega⟩, decide_eq_true ⟨by omega, by omega⟩, decide_eq_true ⟨by omega, by omega⟩]
  rfl
set_option maxHeartbeats 2000000 in
set_option maxRecDepth 100000 in
theorem unix_yes (D y m d h mi s : Nat) (k : Int) (w : World) (hG : GT w) (hd : IsDay D y m d) (h1 : h < 24) (h2 : mi < 60) (h3 : s < 60) :
    Calls Tryz.prog 97 #[.agg #[.int .i64 (y : Int), .int .i64 (m : Int), .int .i64 (d : Int), .int .i64 (h : Int), .int .i64 (mi : Int), .int .i64 (s : Int), .int .i64 k]] w fun e w' => e = .returned (.tuple #[.int .i64 (((D * 86400 + h * 3600 + mi * 60 + s : Nat) : Int) - 62135596800), .int .i64 0]) ∧ Below w.heap.size w w' := by
  have HB0 : Hid (Below w.heap.size w (w.alloc (.cells #[.int .i64 (y : Int), .int .i64 (m : Int), .int .i64 (d : Int), .int .i64 (h : Int), .int .i64 (mi : Int), .int .i64 (s : Int), .int .i64 k] 111))) := (Below.refl _ w).alloc (Nat.le_refl _) _
  have HG := hidM hG
  have HX := hidM (heap_alloc_new w (.cells #[.int .i64 (y : Int), .int .i64 (m : Int), .int .i64 (d : Int), .int .i64 (h : Int), .int .i64 (mi : Int), .int .i64 (s : Int), .int .i64 k] 111))
  have H1 := hidM (dayThere_any y m d h mi s k _ (HG.out.below HB0.out))
  have H2 := hidM (fun V => timeThere_any y m d h mi s k V)
  rw [day_yes hd] at H1
  rw [time_yes h1 h2 h3] at H2
  have HA := hidM (fun V => ahead_any y V hd.y1 (by have := hd.y2; omega))
  have HDY := hidM hd
  have HDL := hidM hd.lt
  have a1 : aheadN y ≤ D := hd.inYear.1
  have HIN := hidM hd.inMonth
  have d31 : d ≤ 31 := Nat.le_trans hd.d2 (dm_le _ _)
  have d1 := hd.d1
  have m1 := hd.m1
  have m2 := hd.m2
  have y1 := hd.y1
  have y2 := hd.y2
  have HDS : Hid (∀ V, GT V → ∀ j : Nat, Calls Tryz.prog 121 #[.int .i64 (y : Int), .int .i64 (j : Int)] V fun e w' => e = .returned (.int .i64 (dmN y j : Nat)) ∧ w' = V) := fun V hV j => by
    have := days_any y j V hV
    rw [days_cast] at this
    exact this
  have aN : aheadN y ≤ 3652058 := by have := hd.lt; omega
  obtain ⟨A, hA⟩ : ∃ A, A = aheadN y := ⟨_, rfl⟩
  have HAE := hidM hA
  rw [← hA] at HA a1 aN HIN
  clear hG hd hA
  go_enter Tryz.func97, Tryz.ntmps97
  go_wp2_with fail
  refine H1.out.mono ?_
  rintro _ w1 ⟨rfl, hb1⟩
  have HB1 := hidM (HB0.out.trans (hb1.mono HB0.out.size))
  have HX1 := hidM (box_kept HX.out hb1)
  obtain ⟨c0, c1, c2, c3, c4, c5, c6⟩ := cells7 HX1.out
  clear hb1 H1 HB0 HX
  go_wp2_with fail
  refine (H2.out w1).mono ?_
  rintro _ w2 ⟨rfl, hb2⟩
  have HB2 := hidM (HB1.out.trans (hb2.mono HB1.out.size))
  have HX2 := hidM (box_kept HX1.out hb2)
  clear c0 c1 c2 c3 c4 c5 c6
  obtain ⟨c0, c1, c2, c3, c4, c5, c6⟩ := cells7 HX2.out
  have HG2 := hidM (HG.out.below HB2.out)
  clear hb2 H2 HB1 HX1
  have HA2 : Hid (∀ n, Calls Tryz.prog 120 #[.int .i64 (y : Int)] (w2.drewN n) fun e w' => e = .returned (.int .i64 (A : Int)) ∧ w' = w2.drewN n) := fun n => HA.out _
  go_wp2
  go_quiet ((go_at_call 120; exact Calls.quiet_of_same (HA2.out _)))
  go_wp2
  go_loopw [4, 5] (fun dv iv wr => ∃ j : Nat, 1 ≤ j ∧ j ≤ m ∧ iv = .int .i64 (j : Int) ∧ dv = .int .i64 ((A + (d - 1) + mA y j : Nat) : Int) ∧ wr = w2.drewN nq) (fun _ i _ => m - (intOf i).toNat)
  case atStart => exact ⟨1, by decide, m1, rfl, by rw [mA_one]; go_num, rfl⟩
  case round =>
    obtain ⟨j, j1, j2, rfl, rfl, hwr⟩ := hrel
    subst hwr
    have HMO := hidM (mA_mono y (show j ≤ m by exact j2))
    by_cases hlt : j < m
    · have gj : (j : Int) < (m : Int) := by omega
      have hM := HMO.out
      have hS := mA_succ y j
      have hI := HIN.out
      have hD := HDL.out
      have hx31 := dm_le y j
      have HJ := hidM (HDS.out (w2.drewN nq) (HG2.out.below (below_drewN (Below.refl _ _) _)) j)
      generalize dmN y j = q at *
      have hb : mA y j ≤ 400 := by
        have := HMO.out
        have := HIN.out
        have h5 := mA_mono y (show j ≤ 13 by omega)
        rw [mA_year] at h5
        unfold ylN at h5
        split at h5 <;> omega
      generalize hR : mA y j = R at *
      have HS := hidM hS
      clear hM hS hI hD HMO hR
      go_wp2_with fail
      refine HJ.out.mono ?_
      rintro _ _ ⟨rfl, rfl⟩
      go_wp2
      go_roundw
      case rel => exact ⟨j + 1, by omega, by omega, by go_num, by rw [HS.out]; go_num, by first | rfl | trivial⟩
      case measure => simp [intOf]; omega
    · have gj : ¬ (j : Int) < (m : Int) := by omega
      obtain rfl : j = m := by omega
      have hI := HIN.out
      have hD := HDL.out
      have e1 : A + (d - 1) + mA y j = D := by omega
      rw [e1]
      clear HIN HMO e1 hI
      go_wp2
      go_ret2
      exact ⟨by go_num, below_drewN HB2.out _⟩
end Go.Proofs.YtmhjdahmmdfbcaaGreatDoor
