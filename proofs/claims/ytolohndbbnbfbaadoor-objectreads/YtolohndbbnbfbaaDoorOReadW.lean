/-
  ObjectReads: the walk.
-/
import Derived.Test.YtolohndbbnbfbaaDoorRDecB
namespace Go.Proofs.YtolohndbbnbfbaaDoor
open Go.RowKit

set_option maxHeartbeats 6400000 in
theorem reads_walk (s u : ByteArray) (w : World) (hs : s.size ≤ 9223372036854775807) (hL : LaidAt w) :
    Calls Tryd.prog 8 #[.string s, .string u] w fun e w' => e = .returned (.bool true) ∧ Below w.heap.size w w' := by
  have HL := hidM hL
  have HD := hidM (fun W h => decode_any s W hs h)
  have HRD := hidM (fun W => rdecode_any s W hs)
  generalize (decR s.data.toList).1 = k at *
  generalize (decR s.data.toList).2.1.toArray = D at *
  generalize (decR s.data.toList).2.2 = E at *
  clear hL
  go_enter Tryd.func8, Tryd.ntmps8
  go_wp2_with fail
  refine (HD.out _ HL.out.names).mono ?_
  rintro _ w1 ⟨rfl, hb1⟩
  have HB1 := hidM hb1
  have HL1 := hidM (HL.out.below hb1)
  clear hb1
  go_wp2_with fail
  refine (HRD.out _).mono ?_
  rintro _ w2 ⟨rfl, hb2⟩
  have HG1 : Hid (w2.heap[w1.heap.size]? = some (.cells #[.int .i64 (k : Int), .string ⟨D⟩] 52 (0, 0))) := by
    unfold Hid
    rw [hb2.block w1.heap.size (by simp)]
    exact heap_alloc_new w1 _
  have hz2 : w1.heap.size < w2.heap.size := by
    have := hb2.size
    simp at this; omega
  have hw1 : w.heap.size ≤ w1.heap.size := HB1.out.size
  have HB2 : Hid (Below w.heap.size w w2) := by
    have h1 : Below w.heap.size w (w1.alloc (.cells #[.int .i64 (k : Int), .string ⟨D⟩] 52)) := HB1.out.alloc hw1 _
    exact two_le h1 hb2 h1.size
  have HL2 := hidM (HL.out.below HB2.out)
  clear hb2 HL1 HD HRD
  go_wp2_with fail
  have HG2 : Hid ((w2.alloc (.cells #[.int .i64 (k : Int), .string ⟨D⟩] 52)).heap[w1.heap.size]? = some (.cells #[.int .i64 (k : Int), .string ⟨D⟩] 52 (0, 0))) := by
    unfold Hid; rw [heap_alloc_old w2 _ hz2]; exact HG1.out
  have HG3 : Hid ((w2.alloc (.cells #[.int .i64 (k : Int), .string ⟨D⟩] 52)).heap[w2.heap.size]? = some (.cells #[.int .i64 (k : Int), .string ⟨D⟩] 52 (0, 0))) := heap_alloc_new w2 _
  have HB3 : Hid (Below w.heap.size w (w2.alloc (.cells #[.int .i64 (k : Int), .string ⟨D⟩] 52))) := HB2.out.alloc HB2.out.size _
  have HL3 := hidM (HL.out.below HB3.out)
  have HZ3 : Hid (w2.heap.size < (w2.alloc (.cells #[.int .i64 (k : Int), .string ⟨D⟩] 52)).heap.size) := by unfold Hid; simp
  generalize w2.alloc (.cells #[.int .i64 (k : Int), .string ⟨D⟩] 52) = V at *
  refine (number_any u _).mono ?_
  rintro _ w3 ⟨rfl, rfl⟩
  have HNV : Hid ((numT u.data.toList = true ∧ numR u.data.toList = (numV u.data.toList : Int)) ∨ (numT u.data.toList = false ∧ numR u.data.toList = -1 ∧ numV u.data.toList = 0)) := by
    by_cases h : NumOk u.data.toList
    · exact .inl ⟨numT_yes h, by rw [numR_yes h, numV_yes h]⟩
    · exact .inr ⟨numT_no h, numR_no h, numV_no h⟩
  have HRN := hidM (fun W => rnumber_any u W)
  have HKA := hidM (fun W h => kind_any u W h)
  have HRK := hidM (fun W => rkind_any u W)
  generalize numT u.data.toList = T at *
  generalize numV u.data.toList = n at *
  generalize numR u.data.toList = m at *
  generalize kindL u.data.toList = c at *
  go_wp2_with fail
  refine (HRN.out _).mono ?_
  rintro _ w4 ⟨rfl, rfl⟩
  go_wp2_with fail
  refine (awake_any _ HL3.out).mono ?_
  rintro _ w5 ⟨rfl, hb5⟩
  have HG5 : Hid (w5.heap[w1.heap.size]? = some (.cells #[.int .i64 (k : Int), .string ⟨D⟩] 52 (0, 0))) := (hb5.block _ (Nat.lt_trans hz2 HZ3.out)).trans HG2.out
  have HG6 : Hid (w5.heap[w2.heap.size]? = some (.cells #[.int .i64 (k : Int), .string ⟨D⟩] 52 (0, 0))) := (hb5.block _ HZ3.out).trans HG3.out
  have HB5 := hidM (two_le HB3.out hb5 HB3.out.size)
  have HL5 := hidM (HL3.out.below hb5)
  clear hb5 HG1 HG2 HG3 HB3 HL3 HZ3 HL2 HB2 HRN
  have x0 : w5.cell? ⟨w1.heap.size, 0, none⟩ = some (.int .i64 (k : Int)) := by rw [cell_of_row w5 _ 0 _ 52 (0, 0) HG5.out]; rfl
  have x1 : w5.cell? ⟨w1.heap.size, 1, none⟩ = some (.string ⟨D⟩) := by rw [cell_of_row w5 _ 1 _ 52 (0, 0) HG5.out]; rfl
  have y0 : w5.cell? ⟨w2.heap.size, 0, none⟩ = some (.int .i64 (k : Int)) := by rw [cell_of_row w5 _ 0 _ 52 (0, 0) HG6.out]; rfl
  have y1 : w5.cell? ⟨w2.heap.size, 1, none⟩ = some (.string ⟨D⟩) := by rw [cell_of_row w5 _ 1 _ 52 (0, 0) HG6.out]; rfl
  rcases HNV.out with ⟨rfl, rfl⟩ | ⟨rfl, rfl, rfl⟩
  · have gm : decide ((0 : Int) ≤ (n : Int)) = true := by simp
    go_wp2_with fail
    refine (HKA.out _ HL5.out.names).mono ?_
    rintro _ w6 ⟨rfl, rfl⟩
    go_wp2_with fail
    refine (HRK.out _).mono ?_
    rintro _ w7 ⟨rfl, hb7⟩
    have HB7 := hidM (two_le HB5.out hb7 HB5.out.size)
    clear hb7
    go_wp2_with fail
    go_ret
    exact ⟨rfl, HB7.out⟩
  · go_wp2_with fail
    refine (HKA.out _ HL5.out.names).mono ?_
    rintro _ w6 ⟨rfl, rfl⟩
    go_wp2_with fail
    refine (HRK.out _).mono ?_
    rintro _ w7 ⟨rfl, hb7⟩
    have HB7 := hidM (two_le HB5.out hb7 HB5.out.size)
    clear hb7
    go_wp2_with fail
    go_ret
    exact ⟨rfl, HB7.out⟩
end Go.Proofs.YtolohndbbnbfbaaDoor
