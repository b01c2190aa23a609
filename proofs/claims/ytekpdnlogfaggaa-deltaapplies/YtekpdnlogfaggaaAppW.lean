/-
  DeltaApplies.
-/
import Derived.Test.YtekpdnlogfaggaaRefC
namespace Go.Proofs.Ytekpdnlogfaggaa
open Go.RowKit

set_option maxHeartbeats 2000000 in
set_option maxRecDepth 20000 in
theorem applies_walk (base d : ByteArray) (most : Int) (w : World) :
    Calls Try.prog 3 #[.string base, .string d, .int .i64 most] w fun e w' => e = .returned (.bool true) ∧ Below w.heap.size w w' := by
  have hb := fewL_size base 2000
  have hd := fewL_size d 500
  go_enter Try.func3, Try.ntmps3
  go_wp2_with fail
  refine (few_any base 2000 w (by decide)).mono ?_
  rintro e w1 ⟨rfl, hw1⟩
  rw [hw1]
  clear hw1
  go_wp2_with fail
  refine (few_any d 500 w (by decide)).mono ?_
  rintro e w1 ⟨rfl, hw1⟩
  rw [hw1]
  clear hw1
  generalize fewL base 2000 = B at *
  generalize fewL d 500 = D at *
  go_wp2_with fail
  refine (apply_any B D most w (by omega) (by omega)).mono ?_
  rintro e w1 ⟨rfl, hB1⟩
  go_wp2_with fail
  refine (rapply_any B D most w1 (by omega) (by omega)).mono ?_
  rintro e w2 ⟨rfl, hB2⟩
  have HB2 := hidM (hB1.trans (hB2.mono hB1.size))
  clear hB1 hB2
  go_wp2_with fail
  refine (sizes_any D w2 (by omega)).mono ?_
  rintro e w3 ⟨rfl, hB3⟩
  have HB3 := hidM (HB2.out.trans (hB3.mono HB2.out.size))
  clear hB3 HB2
  go_wp2_with fail
  refine (rsizes_any D w3 (by omega)).mono ?_
  rintro e w4 ⟨rfl, hw4⟩
  rw [hw4]
  clear hw4
  generalize apL B D most = q at *
  generalize sizesL D = r at *
  obtain ⟨o, f⟩ := q
  obtain ⟨a, b, c, g⟩ := r
  go_wp2_with fail
  refine (awake_any w3).mono ?_
  rintro e w5 ⟨rfl, hB5⟩
  have HB5 := hidM (HB3.out.trans (hB5.mono HB3.out.size))
  clear hB5 HB3
  go_wp2
  go_ret
  exact ⟨rfl, HB5.out⟩
end Go.Proofs.Ytekpdnlogfaggaa
