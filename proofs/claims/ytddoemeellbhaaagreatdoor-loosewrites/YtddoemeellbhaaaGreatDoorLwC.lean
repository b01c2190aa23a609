/-
  The law LooseWrites, walked.
-/
import Derived.Test.YtddoemeellbhaaaGreatDoorLwB
import Derived.Test.YtddoemeellbhaaaGreatDoorJZwW
namespace Go.Proofs.YtddoemeellbhaaaGreatDoor
open Go.RowKit
set_option maxHeartbeats 8000000 in
set_option maxRecDepth 100000 in
theorem lwrites_no (v : Value) (k : Int) (d : ByteArray) (w : World) (hG : LG w) (hc : checkE k (fewBI d 1000).size ≠ 0) :
    Calls Tryz.prog 4 #[.agg #[.int .i64 k, .string d], v] w fun e w' => e = .returned (.bool true) ∧ Below w.heap.size w w' := by
  have HFW := hidM (fun V => fewF_any d 1000 V)
  generalize fewBI d 1000 = D at *
  have HG := hidM hG
  have HWR := hidM (fun V (hV : LG V) => lwrite_no k D V hV hc)
  have HCK := hidM (fun V => rcheck_any k D V)
  have HAW := hidM (fun V => lawake_any V)
  generalize checkE k D.size = er at *
  have b1 : ((er : Int) == 0) = false := by simp only [beq_eq_false_iff_ne, ne_eq]; omega
  clear hG hc
  go_enter Tryz.func4, Tryz.ntmps4
  go_wp2_with fail
  refine (HFW.out _).mono ?_
  rintro _ w9 ⟨rfl, h9⟩
  rw [h9]
  clear h9 w9 HFW
  have HE0 : Hid ((w.alloc (.cells #[.int .i64 k, .string D] 32)).heap[w.heap.size]? = some (.cells #[.int .i64 k, .string D] 32 (0, 0))) := heap_alloc_new w _
  have HB0 : Hid (Below w.heap.size w (w.alloc (.cells #[.int .i64 k, .string D] 32))) := (Below.refl _ w).alloc (Nat.le_refl _) _
  have HG0 := hidM (HG.out.below HB0.out)
  go_wp2_with fail
  generalize w.alloc (.cells #[.int .i64 k, .string D] 32) = W0 at *
  refine (HWR.out _ HG0.out).mono ?_
  rintro _ w1 ⟨rfl, hb1⟩
  have HE1 := hidM (box_keptL HE0.out hb1)
  have HB1 := hidM (HB0.out.trans (hb1.mono HB0.out.size))
  have HG1 := hidM (HG0.out.below hb1)
  have HE2 : Hid ((w1.alloc (.cells #[.string ⟨#[]⟩, .string ⟨#[]⟩] 48)).heap[w.heap.size]? = some (.cells #[.int .i64 k, .string D] 32 (0, 0))) := (heap_alloc_old _ _ (Array.getElem?_eq_some_iff.1 HE1.out).1).trans HE1.out
  have HF2 : Hid ((w1.alloc (.cells #[.string ⟨#[]⟩, .string ⟨#[]⟩] 48)).heap[w1.heap.size]? = some (.cells #[.string ⟨#[]⟩, .string ⟨#[]⟩] 48 (0, 0))) := heap_alloc_new _ _
  have HB2 : Hid (Below w.heap.size w (w1.alloc (.cells #[.string ⟨#[]⟩, .string ⟨#[]⟩] 48))) := HB1.out.alloc HB1.out.size _
  have HG2 : Hid (LG (w1.alloc (.cells #[.string ⟨#[]⟩, .string ⟨#[]⟩] 48))) := HG1.out.below ((Below.refl _ w1).alloc (Nat.le_refl _) _)
  clear hb1 HE0 HE1 HB0 HB1 HG0 HG1 HWR HG
  have c0 : (w1.alloc (.cells #[.string ⟨#[]⟩, .string ⟨#[]⟩] 48)).cell? ⟨w.heap.size, 0, none⟩ = some (.int .i64 k) := by rw [cell_of_row _ _ _ _ 32 (0, 0) HE2.out]; rfl
  have c1 : (w1.alloc (.cells #[.string ⟨#[]⟩, .string ⟨#[]⟩] 48)).cell? ⟨w.heap.size, 1, none⟩ = some (.string D) := by rw [cell_of_row _ _ _ _ 32 (0, 0) HE2.out]; rfl
  have c2 : True := trivial
  have c3 : True := trivial
  unfold filV
  go_wp2_with fail
  obtain ⟨PB, hPB⟩ : ∃ PB : ByteArray, PB = ⟨#[]⟩ := ⟨_, rfl⟩
  obtain ⟨X, hX⟩ : ∃ X : ByteArray, X = ⟨#[]⟩ := ⟨_, rfl⟩
  generalize w1.alloc (.cells #[.string ⟨#[]⟩, .string ⟨#[]⟩] 48) = W1 at *
  generalize w1.heap.size = A at *
  refine (HCK.out _).mono ?_
  rintro _ w3 ⟨rfl, hb3⟩
  have HE3 := hidM (box_keptL HE2.out hb3)
  have HF3 := hidM (box_keptL HF2.out hb3)
  have HB3 := hidM (HB2.out.trans (hb3.mono HB2.out.size))
  have HG3 := hidM (HG2.out.below hb3)
  clear hb3 HE2 HF2 HB2 HG2 c0 c1 c2 c3 hPB hX PB X
  have c0 : w3.cell? ⟨w.heap.size, 0, none⟩ = some (.int .i64 k) := by rw [cell_of_row _ _ _ _ 32 (0, 0) HE3.out]; rfl
  have c1 : w3.cell? ⟨w.heap.size, 1, none⟩ = some (.string D) := by rw [cell_of_row _ _ _ _ 32 (0, 0) HE3.out]; rfl
  have c2 : w3.cell? ⟨A, 0, none⟩ = some (.string ⟨#[]⟩) := by rw [cell_of_row _ _ _ _ 48 (0, 0) HF3.out]; rfl
  have c3 : w3.cell? ⟨A, 1, none⟩ = some (.string ⟨#[]⟩) := by rw [cell_of_row _ _ _ _ 48 (0, 0) HF3.out]; rfl
  go_wp2_with fail
  refine (HAW.out _).mono ?_
  rintro _ w4 ⟨rfl, hb4⟩
  have HE4 := hidM (box_keptL HE3.out hb4)
  have HF4 := hidM (box_keptL HF3.out hb4)
  have HB4 := hidM (HB3.out.trans (hb4.mono HB3.out.size))
  have HG4 := hidM (HG3.out.below hb4)
  clear hb4 HE3 HF3 HB3 HG3 c0 c1 c2 c3
  have c0 : w4.cell? ⟨w.heap.size, 0, none⟩ = some (.int .i64 k) := by rw [cell_of_row _ _ _ _ 32 (0, 0) HE4.out]; rfl
  have c1 : w4.cell? ⟨w.heap.size, 1, none⟩ = some (.string D) := by rw [cell_of_row _ _ _ _ 32 (0, 0) HE4.out]; rfl
  have c2 : w4.cell? ⟨A, 0, none⟩ = some (.string ⟨#[]⟩) := by rw [cell_of_row _ _ _ _ 48 (0, 0) HF4.out]; rfl
  have c3 : w4.cell? ⟨A, 1, none⟩ = some (.string ⟨#[]⟩) := by rw [cell_of_row _ _ _ _ 48 (0, 0) HF4.out]; rfl
  go_wp2_with fail
  refine (HCK.out _).mono ?_
  rintro _ w5 ⟨rfl, hb5⟩
  have HE5 := hidM (box_keptL HE4.out hb5)
  have HF5 := hidM (box_keptL HF4.out hb5)
  have HB5 := hidM (HB4.out.trans (hb5.mono HB4.out.size))
  have HG5 := hidM (HG4.out.below hb5)
  clear hb5 HE4 HF4 HB4 HG4 c0 c1 c2 c3
  have c0 : w5.cell? ⟨w.heap.size, 0, none⟩ = some (.int .i64 k) := by rw [cell_of_row _ _ _ _ 32 (0, 0) HE5.out]; rfl
  have c1 : w5.cell? ⟨w.heap.size, 1, none⟩ = some (.string D) := by rw [cell_of_row _ _ _ _ 32 (0, 0) HE5.out]; rfl
  have c2 : w5.cell? ⟨A, 0, none⟩ = some (.string ⟨#[]⟩) := by rw [cell_of_row _ _ _ _ 48 (0, 0) HF5.out]; rfl
  have c3 : w5.cell? ⟨A, 1, none⟩ = some (.string ⟨#[]⟩) := by rw [cell_of_row _ _ _ _ 48 (0, 0) HF5.out]; rfl
  have b2 : ((er : Int) == (er : Int)) = true := by simp
  go_wp2
  go_ret
  exact ⟨by first | rfl | simp, HB5.out⟩
end Go.Proofs.YtddoemeellbhaaaGreatDoor
