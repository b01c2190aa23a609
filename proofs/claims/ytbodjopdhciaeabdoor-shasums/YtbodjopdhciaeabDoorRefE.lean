/-
  Walks of the document's constants of SHA-256: mul, under.
-/
import Derived.Test.YtbodjopdhciaeabDoorRefC
namespace Go.Proofs.YtbodjopdhciaeabDoor
open Go.RowKit

/-- The high half of a product, as the document's answer reckons it. -/
def mulM (al bl bh : Int) : Int := IntKind.u64.wrap (IntKind.u64.wrap (al * bh) + IntKind.u64.wrap (al * bl) / 4294967296)
def mulH (a b : Int) : Int :=
  IntKind.u64.wrap (IntKind.u64.wrap (IntKind.u64.wrap (a / 4294967296 * (b / 4294967296)) + mulM (bits .and .u64 a 4294967295) (bits .and .u64 b 4294967295) (b / 4294967296) / 4294967296) +
    IntKind.u64.wrap (IntKind.u64.wrap (a / 4294967296 * bits .and .u64 b 4294967295) + bits .and .u64 (mulM (bits .and .u64 a 4294967295) (bits .and .u64 b 4294967295) (b / 4294967296)) 4294967295) / 4294967296)
def mulL (a b : Int) : Int := IntKind.u64.wrap (a * b)

set_option maxHeartbeats 800000 in
theorem mul_any (a b : Int) (w : World) :
    Calls Tryd.prog 56 #[.int .u64 a, .int .u64 b] w fun e w' => e = .returned (.tuple #[.int .u64 (mulH a b), .int .u64 (mulL a b)]) ∧ w' = w := by
  go_enter Tryd.func56, Tryd.ntmps56
  go_wp2
  go_ret2
  exact ⟨rfl, rfl⟩

/-- Is y^n at most p * 2^(32 n), as the document's answer reckons it. -/
def under2 (y p : Int) : Bool := decide (mulH y y < p) || (mulH y y == p && mulL y y == 0)
def under3s (y : Int) : Int := IntKind.u64.wrap (mulL (mulH y y) y + mulH (mulL y y) y)
def under3c (y : Int) : Int := if under3s y < mulL (mulH y y) y then IntKind.u64.wrap (mulH (mulH y y) y + 1) else mulH (mulH y y) y
def under3f (c s b p q : Int) : Bool :=
  if 0 < c then decide (c < p) || (p == c && decide (s < q))
  else decide (s < q) || (s == q && b == 0)
def under3 (y p : Int) : Bool := under3f (under3c y) (under3s y) (mulL (mulL y y) y) (p / 4294967296) (IntKind.u64.wrap (p * 4294967296))

set_option maxHeartbeats 800000 in
theorem under2_any (y p : Int) (w : World) :
    Calls Tryd.prog 49 #[.int .i64 2, .int .u64 y, .int .u64 p] w fun e w' => e = .returned (.bool (under2 y p)) ∧ w' = w := by
  have HU : Hid (under2 y p = (decide (mulH y y < p) || (mulH y y == p && mulL y y == 0))) := rfl
  have HM := hidM (mul_any y y)
  generalize under2 y p = u at *
  generalize mulH y y = h at *
  generalize mulL y y = l at *
  go_enter Tryd.func49, Tryd.ntmps49
  go_wp2_with fail
  refine (HM.out _).mono ?_
  rintro _ w1 ⟨rfl, rfl⟩
  go_wp2
  all_goals go_ret
  all_goals refine ⟨?_, rfl⟩
  all_goals rw [HU.out]
  all_goals simp_all

set_option maxHeartbeats 1600000 in
theorem under3_any (y p : Int) (w : World) :
    Calls Tryd.prog 49 #[.int .i64 3, .int .u64 y, .int .u64 p] w fun e w' => e = .returned (.bool (under3 y p)) ∧ w' = w := by
  have HU : Hid (under3 y p = under3f (under3c y) (under3s y) (mulL (mulL y y) y) (p / 4294967296) (IntKind.u64.wrap (p * 4294967296))) := rfl
  have HC : Hid (under3c y = if under3s y < mulL (mulH y y) y then IntKind.u64.wrap (mulH (mulH y y) y + 1) else mulH (mulH y y) y) := rfl
  have hS : IntKind.u64.wrap (mulL (mulH y y) y + mulH (mulL y y) y) = under3s y := rfl
  have HM := hidM (mul_any y y)
  generalize under3 y p = u at *
  generalize under3c y = c' at *
  generalize under3s y = s at *
  generalize mulH y y = h at *
  generalize mulL y y = l at *
  have HMA := hidM (mul_any l y)
  have HMC := hidM (mul_any h y)
  generalize mulH l y = a at *
  generalize mulL l y = b at *
  generalize mulH h y = c at *
  generalize mulL h y = d at *
  go_enter Tryd.func49, Tryd.ntmps49
  go_wp2_with fail
  refine (HM.out _).mono ?_
  rintro _ w1 ⟨rfl, rfl⟩
  go_wp2_with fail
  refine (HMA.out _).mono ?_
  rintro _ w2 ⟨rfl, rfl⟩
  go_wp2_with fail
  refine (HMC.out _).mono ?_
  rintro _ w3 ⟨rfl, rfl⟩
  by_cases hsd : s < d
  · have e1 : IntKind.u64.wrap (c + 1) = c' := by rw [HC.out, if_pos hsd]
    by_cases h0 : 0 < c'
    · have HU2 : Hid (u = (decide (c' < p / 4294967296) || (p / 4294967296 == c' && decide (s < IntKind.u64.wrap (p * 4294967296))))) := by unfold Hid; rw [HU.out, under3f, if_pos h0]
      clear HU HC
      go_wp2
      all_goals go_ret
      all_goals refine ⟨?_, rfl⟩
      all_goals rw [HU2.out]
      all_goals simp_all
    · have HU2 : Hid (u = (decide (s < IntKind.u64.wrap (p * 4294967296)) || (s == IntKind.u64.wrap (p * 4294967296) && b == 0))) := by unfold Hid; rw [HU.out, under3f, if_neg h0]
      clear HU HC
      go_wp2
      all_goals go_ret
      all_goals refine ⟨?_, rfl⟩
      all_goals rw [HU2.out]
      all_goals simp_all
  · obtain rfl : c' = c := by rw [HC.out, if_neg hsd]
    by_cases h0 : 0 < c'
    · have HU2 : Hid (u = (decide (c' < p / 4294967296) || (p / 4294967296 == c' && decide (s < IntKind.u64.wrap (p * 4294967296))))) := by unfold Hid; rw [HU.out, under3f, if_pos h0]
      clear HU HC
      go_wp2
      all_goals go_ret
      all_goals refine ⟨?_, rfl⟩
      all_goals rw [HU2.out]
      all_goals simp_all
    · have HU2 : Hid (u = (decide (s < IntKind.u64.wrap (p * 4294967296)) || (s == IntKind.u64.wrap (p * 4294967296) && b == 0))) := by unfold Hid; rw [HU.out, under3f, if_neg h0]
      clear HU HC
      go_wp2
      all_goals go_ret
      all_goals refine ⟨?_, rfl⟩
      all_goals rw [HU2.out]
      all_goals simp_all

end Go.Proofs.YtbodjopdhciaeabDoor
