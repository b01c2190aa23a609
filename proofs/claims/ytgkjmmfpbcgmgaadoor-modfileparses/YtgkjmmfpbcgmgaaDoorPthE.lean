/-
  Module files: what the document fixes.
-/
import Derived.Test.YtgkjmmfpbcgmgaaDoorPthD
namespace Go.Proofs.YtgkjmmfpbcgmgaaDoor
open Go.RowKit

theorem mod_one : modL [109, 111, 100, 117, 108, 101, 32, 101, 120, 97, 109, 112, 108, 101, 46, 99, 111, 109, 47, 97, 32, 47, 47, 32, 120, 10] = ([101, 120, 97, 109, 112, 108, 101, 46, 99, 111, 109, 47, 97], 0, 0) := by decide +kernel
theorem mod_two : modL [10, 34, 120, 10] = ([], 2, 3) := by decide +kernel
set_option maxHeartbeats 1000000 in
theorem awake_any (w : World) : Calls Tryd.prog 13 #[] w fun e w' => e = .returned (.bool true) ∧ Below w.heap.size w w' := by
  have H1 : Hid (∀ V, Calls Tryd.prog 11 #[.string ⟨#[109, 111, 100, 117, 108, 101, 32, 101, 120, 97, 109, 112, 108, 101, 46, 99, 111, 109, 47, 97, 32, 47, 47, 32, 120, 10]⟩] V fun e w' => e = .returned (.tuple #[.string ⟨#[101, 120, 97, 109, 112, 108, 101, 46, 99, 111, 109, 47, 97]⟩, .int .i64 0, .int .i64 0]) ∧ Below V.heap.size V w') := by
    intro V
    have h := module_any ⟨#[109, 111, 100, 117, 108, 101, 32, 101, 120, 97, 109, 112, 108, 101, 46, 99, 111, 109, 47, 97, 32, 47, 47, 32, 120, 10]⟩ V (by decide)
    unfold ModQ at h
    rw [mod_one] at h
    exact h
  have H2 : Hid (∀ V, Calls Tryd.prog 11 #[.string ⟨#[10, 34, 120, 10]⟩] V fun e w' => e = .returned (.tuple #[.string ⟨#[]⟩, .int .i64 2, .int .i64 3]) ∧ Below V.heap.size V w') := by
    intro V
    have h := module_any ⟨#[10, 34, 120, 10]⟩ V (by decide)
    unfold ModQ at h
    rw [mod_two] at h
    exact h
  go_enter Tryd.func13, Tryd.ntmps13
  go_wp2_with fail
  refine (H1.out _).mono ?_
  rintro _ w1 ⟨rfl, hb1⟩
  go_wp2_with fail
  refine (H2.out _).mono ?_
  rintro _ w2 ⟨rfl, hb2⟩
  go_wp2
  go_ret
  exact ⟨rfl, hb1.trans (hb2.mono hb1.size)⟩
end Go.Proofs.YtgkjmmfpbcgmgaaDoor
