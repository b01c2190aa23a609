/-
  Walks of calendar: dayThere, timeThere.
-/
import Derived.Test.YtmhjdahmmdfbcaaGreatDoorCalA
namespace Go.Proofs.YtmhjdahmmdfbcaaGreatDoor
open Go.RowKit
/-- is there such a day -/
def dayB (y m d : Int) : Bool := decide (1 ≤ y ∧ y ≤ 9999 ∧ 1 ≤ d ∧ d ≤ (daysI y m : Nat))
def timeB (h mi s : Int) : Bool := decide (0 ≤ h ∧ h < 24) && decide (0 ≤ mi ∧ mi < 60) && decide (0 ≤ s ∧ s < 60)
set_option maxHeartbeats 1000000 in
set_option maxRecDepth 100000 in
theorem dayThere_any (y m d h mi s k : Int) (w : World) (hG : GT w) :
    Calls Tryz.prog 118 #[.agg #[.int .i64 y, .int .i64 m, .int .i64 d, .int .i64 h, .int .i64 mi, .int .i64 s, .int .i64 k]] w fun e w' => e = .returned (.bool (dayB y m d)) ∧ Below w.heap.size w w' := by
  have HB0 : Hid (Below w.heap.size w (w.alloc (.cells #[.int .i64 y, .int .i64 m, .int .i64 d, .int .i64 h, .int .i64 mi, .int .i64 s, .int .i64 k] 111))) := (Below.refl _ w).alloc (Nat.le_refl _) _
  have HG := hidM (hG.below HB0.out)
  have HD : Hid (∀ n, Calls Tryz.prog 121 #[.int .i64 y, .int .i64 m] ((w.alloc (.cells #[.int .i64 y, .int .i64 m, .int .i64 d, .int .i64 h, .int .i64 mi, .int .i64 s, .int .i64 k] 111)).drewN n) fun e w' => e = .returned (.int .i64 (daysI y m : Nat)) ∧ w' = (w.alloc (.cells #[.int .i64 y, .int .i64 m, .int .i64 d, .int .i64 h, .int .i64 mi, .int .i64 s, .int .i64 k] 111)).drewN n) := fun n => days_any y m _ (HG.out.below (below_drewN (Below.refl _ _) n))
  clear hG
  by_cases h1 : 1 ≤ y
  · have b1 : decide (1 ≤ y) = true := by simpa using h1
    by_cases h2 : y ≤ 9999
    · have b2 : decide (y ≤ 9999) = true := by simpa using h2
      by_cases h3 : 1 ≤ d
      · have b3 : decide (1 ≤ d) = true := by simpa using h3
        have hr : dayB y m d = decide (d ≤ (daysI y m : Nat)) := by unfold dayB; simp [h1, h2, h3]
        rw [hr]
        go_enter Tryz.func118, Tryz.ntmps118
        go_wp2
        go_quiet ((go_at_call 121; exact Calls.quiet_of_same (HD.out _)))
        go_wp2
        go_ret
        exact ⟨rfl, below_drewN HB0.out _⟩
      · have b3 : decide (1 ≤ d) = false := by simpa using h3
        have hr : dayB y m d = false := by unfold dayB; simp [h3]
        rw [hr]
        go_enter Tryz.func118, Tryz.ntmps118
        go_wp2
        go_quiet (fail)
        go_wp2
        go_ret
        exact ⟨rfl, below_drewN HB0.out _⟩
    · have b2 : decide (y ≤ 9999) = false := by simpa using h2
      have hr : dayB y m d = false := by unfold dayB; simp [h2]
      rw [hr]
      go_enter Tryz.func118, Tryz.ntmps118
      go_wp2
      go_quiet (fail)
      go_wp2
      go_ret
      exact ⟨rfl, below_drewN HB0.out _⟩
  · have b1 : decide (1 ≤ y) = false := by simpa using h1
    have hr : dayB y m d = false := by unfold dayB; simp [h1]
    rw [hr]
    go_enter Tryz.func118, Tryz.ntmps118
    go_wp2
    go_quiet (fail)
    go_wp2
    go_ret
    exact ⟨rfl, below_drewN HB0.out _⟩
set_option maxHeartbeats 1000000 in
set_option maxRecDepth 100000 in
theorem timeThere_any (y m d h mi s k : Int) (w : World) :
    Calls Tryz.prog 119 #[.agg #[.int .i64 y, .int .i64 m, .int .i64 d, .int .i64 h, .int .i64 mi, .int .i64 s, .int .i64 k]] w fun e w' => e = .returned (.bool (timeB h mi s)) ∧ Below w.heap.size w w' := by
  have HB0 : Hid (Below w.heap.size w (w.alloc (.cells #[.int .i64 y, .int .i64 m, .int .i64 d, .int .i64 h, .int .i64 mi, .int .i64 s, .int .i64 k] 111))) := (Below.refl _ w).alloc (Nat.le_refl _) _
  have H1 := hidM (fun V => below_any h 24 V)
  have H2 := hidM (fun V => below_any mi 60 V)
  have H3 := hidM (fun V => below_any s 60 V)
  unfold timeB
  generalize decide (0 ≤ h ∧ h < 24) = b1 at *
  generalize decide (0 ≤ mi ∧ mi < 60) = b2 at *
  generalize decide (0 ≤ s ∧ s < 60) = b3 at *
  cases b1 with
  | false =>
    go_enter Tryz.func119, Tryz.ntmps119
    go_wp2_with fail
    refine (H1.out _).mono ?_
    rintro _ _ ⟨rfl, rfl⟩
    go_wp2
    go_ret
    exact ⟨rfl, HB0.out⟩
  | true =>
    cases b2 with
    | false =>
      go_enter Tryz.func119, Tryz.ntmps119
      go_wp2_with fail
      refine (H1.out _).mono ?_
      rintro _ _ ⟨rfl, rfl⟩
      go_wp2_with fail
      refine (H2.out _).mono ?_
      rintro _ _ ⟨rfl, rfl⟩
      go_wp2
      go_ret
      exact ⟨rfl, HB0.out⟩
    | true =>
      go_enter Tryz.func119, Tryz.ntmps119
      go_wp2_with fail
      refine (H1.out _).mono ?_
      rintro _ _ ⟨rfl, rfl⟩
      go_wp2_with fail
      refine (H2.out _).mono ?_
      rintro _ _ ⟨rfl, rfl⟩
      go_wp2_with fail
      refine (H3.out _).mono ?_
      rintro _ _ ⟨rfl, rfl⟩
      go_wp2
      go_ret
      exact ⟨rfl, HB0.out⟩
end Go.Proofs.YtmhjdahmmdfbcaaGreatDoor
