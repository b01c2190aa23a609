/-
  The document's Check, Text and Id.
-/
import Derived.Test.YtolohndbbnbfbaaDoorRDecA
import Derived.Test.YtolohndbbnbfbaaDoorRefX
namespace Go.Proofs.YtolohndbbnbfbaaDoor
open Go.RowKit

set_option maxHeartbeats 1600000 in
theorem rcheck_any (k : Int) (d : ByteArray) (w : World) :
    Calls Tryd.prog 30 #[.agg #[.int .i64 k, .string d]] w fun e w' => e = .returned (.int .i64 (checkE k d.size : Nat)) ∧ Below w.heap.size w w' := by
  have HB : Hid (Below w.heap.size w (w.alloc (.cells #[.int .i64 k, .string d] 52))) := (Below.refl _ _).alloc (Nat.le_refl _) _
  have HG : Hid ((w.alloc (.cells #[.int .i64 k, .string d] 52)).heap[w.heap.size]? = some (.cells #[.int .i64 k, .string d] 52 (0, 0))) := heap_alloc_new w _
  have HZ : Hid (w.heap.size < (w.alloc (.cells #[.int .i64 k, .string d] 52)).heap.size) := by unfold Hid; simp
  go_enter Tryd.func30, Tryd.ntmps30
  go_wp2_with fail
  generalize w.alloc (.cells #[.int .i64 k, .string d] 52) = W at *
  refine (rname_any k W).mono ?_
  rintro _ w1 ⟨rfl, hb1⟩
  have HG1 : w1.heap[w.heap.size]? = some (.cells #[.int .i64 k, .string d] 52 (0, 0)) := (hb1.block _ HZ.out).trans HG.out
  have hc1 : w1.cell? ⟨w.heap.size, 1, none⟩ = some (.string d) := by rw [cell_of_row w1 _ 1 _ 52 (0, 0) HG1]; rfl
  have HB1 := hidM (two_le HB.out hb1 HB.out.size)
  clear hb1 HG1
  have HE : Hid (checkE k d.size = if nameL k = [] then 10 else if 65000 < d.size then 2 else 0) := rfl
  by_cases h1 : nameL k = []
  · have e1 : (⟨(nameL k).toArray⟩ : ByteArray) = ⟨#[]⟩ := by rw [h1]
    rw [if_pos h1] at HE
    rw [e1]
    clear h1 e1
    go_wp2
    go_ret
    exact ⟨by rw [HE.out]; rfl, HB1.out⟩
  · rw [if_neg h1] at HE
    have e1 : (nameL k).isEmpty = false := by cases h : nameL k <;> simp_all
    clear h1
    generalize nameL k = L at *
    by_cases h2 : 65000 < d.size
    · rw [if_pos h2] at HE
      have g2 : decide ((65000 : Int) < (d.size : Int)) = true := by simp; omega
      go_wp2
      go_ret
      exact ⟨by rw [HE.out]; rfl, HB1.out⟩
    · rw [if_neg h2] at HE
      have g2 : decide ((65000 : Int) < (d.size : Int)) = false := by simp; omega
      go_wp2
      go_ret
      exact ⟨by rw [HE.out]; rfl, HB1.out⟩

set_option maxHeartbeats 3200000 in
theorem rtext_any (k : Int) (d : ByteArray) (w : World) (hd : d.size ≤ 65000) :
    Calls Tryd.prog 36 #[.agg #[.int .i64 k, .string d]] w fun e w' => e = .returned (.string ⟨(encL k d.data.toList).toArray⟩) ∧ Below w.heap.size w w' := by
  have HB : Hid (Below w.heap.size w (w.alloc (.cells #[.int .i64 k, .string d] 52))) := (Below.refl _ _).alloc (Nat.le_refl _) _
  have HG : Hid ((w.alloc (.cells #[.int .i64 k, .string d] 52)).heap[w.heap.size]? = some (.cells #[.int .i64 k, .string d] 52 (0, 0))) := heap_alloc_new w _
  have HLT : Hid (w.heap.size < (w.alloc (.cells #[.int .i64 k, .string d] 52)).heap.size) := by unfold Hid; simp
  go_enter Tryd.func36, Tryd.ntmps36
  go_wp2_with fail
  generalize w.alloc (.cells #[.int .i64 k, .string d] 52) = w1 at *
  have hd0 : w1.cell? ⟨w.heap.size, 0, none⟩ = some (.int .i64 k) := by rw [cell_of_row w1 _ 0 _ 52 (0, 0) HG.out]; rfl
  have hd1 : w1.cell? ⟨w.heap.size, 1, none⟩ = some (.string d) := by rw [cell_of_row w1 _ 1 _ 52 (0, 0) HG.out]; rfl
  have HS : Hid (w1.cell? ⟨w.heap.size, 0, none⟩ = some (.int .i64 k) ∧ w1.cell? ⟨w.heap.size, 1, none⟩ = some (.string d)) := ⟨hd0, hd1⟩
  have HNM : Hid (∀ V, DrewOf w1 V → Calls Tryd.prog 34 #[.int .i64 k] V fun e w' => e = .returned (.string ⟨(nameL k).toArray⟩) ∧ Below w1.heap.size w1 w') := fun V hV => (rname_any k V).mono fun e w' h => ⟨h.1, hV.below h.2⟩
  have HIT : Hid (∀ V, Calls Tryd.prog 43 #[.int .i64 (d.size : Int)] V fun e w' => e = .returned (.string ⟨(Lib.itoa (d.size : Int)).toArray⟩) ∧ ∃ m, w' = V.drewN m) := fun V => digits_any _ V (by omega) (by omega)
  have hl1 : (⟨(nameL k).toArray⟩ : ByteArray).size ≤ 6 := by
    show (nameL k).toArray.size ≤ 6
    rw [List.size_toArray]; exact nameL_len k
  have hl2 : (⟨(Lib.itoa (d.size : Int)).toArray⟩ : ByteArray).size ≤ 21 := by
    show (Lib.itoa (d.size : Int)).toArray.size ≤ 21
    rw [List.size_toArray]; exact Lib.itoa_length_le _ (by omega) (by omega)
  have HFIN : Hid ((⟨(nameL k).toArray⟩ : ByteArray) ++ ⟨#[32]⟩ ++ ⟨(Lib.itoa (d.size : Int)).toArray⟩ ++ ⟨#[0]⟩ ++ d = ⟨(encL k d.data.toList).toArray⟩) := by
    unfold Hid encL; apply ByteArray.ext; simp [ByteArray.data_append]
  generalize (⟨(nameL k).toArray⟩ : ByteArray) = A at *
  generalize (⟨(Lib.itoa (d.size : Int)).toArray⟩ : ByteArray) = I at *
  clear HG
  have q1 : ¬ 9223372036854775807 < A.size + 1 := by omega
  have q2 : ¬ 9223372036854775807 < A.size + 1 + I.size := by omega
  have q3 : ¬ 9223372036854775807 < A.size + 1 + I.size + 1 := by omega
  have q4 : ¬ 9223372036854775807 < A.size + 1 + I.size + 1 + d.size := by omega
  go_wp2_with fail
  go_region_held3 (fun w' => w'.cell? ⟨w.heap.size, 0, none⟩ = some (.int .i64 k) ∧ w'.cell? ⟨w.heap.size, 1, none⟩ = some (.string d)) (first | exact keepE hb2 HLT.out HS.out | go_keep)
    (first
      | (go_at_call 34; with_reducible refine (HNM.out _ (by repeat (first | exact DrewOf.self _ | apply DrewOf.drew | apply DrewOf.drewN))).mono ?_; rintro e w2 ⟨rfl, hb2⟩)
      | (go_at_call 43; with_reducible refine (HIT.out _).mono ?_; rintro e w3 ⟨rfl, m3, rfl⟩))
  all_goals (go_wp2; go_ret; exact ⟨by rw [← HFIN.out]; rfl, below_drewN (HB.out.trans (hb2.mono (Nat.le_of_lt HLT.out))) _⟩)
end Go.Proofs.YtolohndbbnbfbaaDoor
