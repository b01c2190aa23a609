/-
  Walks of tree: a mode's text.
-/
import Derived.Test.YtccohagdfpcplaaDoorTreA
namespace Go.Proofs.YtccohagdfpcplaaDoor
open Go.RowKit

theorem bytes_ext {a b : ByteArray} (h : a.data.toList = b.data.toList) : a = b := by
  cases a
  cases b
  simp only at h
  rw [Array.toList_inj.1 h]
theorem bytes_ne {a b : ByteArray} (h : a ≠ b) : (a.toList == b.toList) = false := by
  refine beq_false_of_ne fun e => h (bytes_ext ?_)
  rw [← Go.ByteArray.toList_eq, ← Go.ByteArray.toList_eq, e]
theorem modeI_range : ∀ i : Fin 5, -9223372036854775808 ≤ modeI i.val ∧ modeI i.val ≤ 9223372036854775807 := by decide
/-- the mode that is written so -/
def modeR (l : List UInt8) : Option Int := modesL.find? fun m => octZ m == l
theorem modeR_some {l : List UInt8} {k : Nat} (hk : k < 5) (h : octZ (modeI k) = l) : modeR l = some (modeI k) := by
  have hm : modeI k ∈ modesL := by
    have : ∀ i : Fin 5, modeI i.val ∈ modesL := by decide
    exact this ⟨k, hk⟩
  unfold modeR
  cases hf : modesL.find? (fun m => octZ m == l) with
  | none => exact absurd (List.find?_eq_none.1 hf _ hm) (by simp [h])
  | some m =>
    have := List.find?_some hf
    simp only [beq_iff_eq] at this
    rw [octZ_inj (this.trans h.symm)]
theorem modeR_none {l : List UInt8} (h : ∀ k, k < 5 → octZ (modeI k) ≠ l) : modeR l = none := by
  unfold modeR
  rw [List.find?_eq_none]
  intro m hm
  have h1 := h 0 (by decide); have h2 := h 1 (by decide); have h3 := h 2 (by decide); have h4 := h 3 (by decide); have h5 := h 4 (by decide)
  simp only [modesL, List.mem_cons, List.not_mem_nil, or_false] at hm
  simp only [beq_iff_eq]
  rcases hm with rfl | rfl | rfl | rfl | rfl
  · exact h1
  · exact h2
  · exact h3
  · exact h4
  · exact h5
set_option maxHeartbeats 1000000 in
set_option maxRecDepth 100000 in
theorem modeOf_any (T : ByteArray) (w : World) (hG : GT w) :
    Calls Tryd.prog 42 #[.string T] w fun e w' => e = .returned (.tuple #[.int .i64 ((modeR T.data.toList).getD 0), .bool (modeR T.data.toList).isSome]) ∧ Below w.heap.size w w' := by
  have HG := hidM hG
  clear hG
  go_enter Tryd.func42, Tryd.ntmps42
  go_wp2
  go_loopw [4, 5] (fun _ iv wr => ∃ k : Nat, k ≤ 5 ∧ iv = .int .i64 (k : Int) ∧ (∀ j, j < k → octZ (modeI j) ≠ T.data.toList) ∧ Below w.heap.size w wr) (fun _ i _ => 5 - (intOf i).toNat)
  case atStart => exact ⟨0, by decide, rfl, fun j hj => by omega, Below.refl _ _⟩
  case round =>
    obtain ⟨k, hk, rfl, hno, hb⟩ := hrel
    have HNO := hidM hno
    have HB := hidM hb
    have HG1 := hidM (HG.out.below hb)
    clear hno hb
    by_cases hlt : k < 5
    · have g5 : (k : Int) < 5 := by omega
      have cm := HG1.out.md k hlt
      obtain ⟨m, hm⟩ : ∃ m, m = modeI k := ⟨_, rfl⟩
      rw [← hm] at cm
      have HM := hidM hm
      have hr := modeI_range ⟨k, hlt⟩
      simp only at hr
      rw [← hm] at hr
      have HW := hidM (written_any m wr HG1.out hr.1 hr.2)
      clear hm hr
      go_wp2_with fail
      refine HW.out.mono ?_
      rintro _ w1 ⟨rfl, hb1⟩
      have HB1 : Hid (Below w.heap.size w w1) := HB.out.trans (hb1.mono HB.out.size)
      have cm1 : w1.cell? ⟨0, k, none⟩ = some (.int .i64 m) := by rw [HM.out]; exact (HG1.out.below hb1).md k hlt
      clear hb1 HW cm
      generalize hO : (⟨(octZ m).toArray⟩ : ByteArray) = O at *
      have HO := hidM hO
      clear hO
      by_cases hc : O = T
      · have HR : Hid (modeR T.data.toList = some m) := by
          rw [HM.out]
          refine modeR_some hlt ?_
          rw [← HM.out, ← hc, ← HO.out]
        go_wp2
        go_ret2
        exact ⟨by rw [HR.out]; rfl, HB1.out⟩
      · have hcb := bytes_ne hc
        have HNX : Hid (∀ j, j < k + 1 → octZ (modeI j) ≠ T.data.toList) := fun j hj e => by
          rcases Nat.lt_or_ge j k with h | h
          · exact HNO.out j h e
          · obtain rfl : j = k := by omega
            exact hc (bytes_ext (by rw [← HO.out, HM.out]; exact e))
        clear hc
        go_wp2
        exact ⟨⟨k + 1, by omega, by go_num, HNX.out, HB1.out⟩, by simp [intOf]; omega⟩
    · have g5 : ¬ (k : Int) < 5 := by omega
      have HR : Hid (modeR T.data.toList = none) := modeR_none fun j hj => HNO.out j (by omega)
      go_wp2
      go_ret2
      exact ⟨by rw [HR.out]; rfl, HB.out⟩
end Go.Proofs.YtccohagdfpcplaaDoor
