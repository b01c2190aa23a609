/-
  ObjectApart: the walk.
-/
import Derived.Test.YtolohndbbnbfbaaDoorRDecB
import Derived.Test.YtolohndbbnbfbaaDoorEncM
namespace Go.Proofs.YtolohndbbnbfbaaDoor
open Go.RowKit

/-- what stands behind the comparison: Decode, and Encode of what it gives -/
theorem enc_back (s : ByteArray) (h : (decR s.data.toList).2.2 = 0) : (⟨(encT ((decR s.data.toList).1 : Nat) (decR s.data.toList).2.1).toArray⟩ : ByteArray) = s ∧ checkE ((decR s.data.toList).1 : Nat) (decR s.data.toList).2.1.length = 0 := by
  obtain ⟨h1, h2, h3⟩ := enc_dec _ h
  have hc : checkE ((decR s.data.toList).1 : Nat) (decR s.data.toList).2.1.length = 0 := checkE_zero.2 ⟨h2, h3⟩
  refine ⟨?_, hc⟩
  unfold encT
  rw [if_pos hc, h1]
theorem encode_back (s : ByteArray) (h : (decR s.data.toList).2.2 = 0) (W : World) (hl : LaidAt W) :
    Calls Tryd.prog 28 #[.agg #[.int .i64 ((decR s.data.toList).1 : Nat), .string ⟨(decR s.data.toList).2.1.toArray⟩]] W fun e w' => e = .returned (.tuple #[.string s, .int .i64 0]) ∧ Below W.heap.size W w' := by
  obtain ⟨hx, hc⟩ := enc_back s h
  refine (encode_any _ _ W hl).mono fun e w' ⟨he, hb⟩ => ⟨?_, hb⟩
  rw [he]
  show Ending.returned (.tuple #[.string ⟨(encT ((decR s.data.toList).1 : Nat) (decR s.data.toList).2.1).toArray⟩, .int .i64 (checkE ((decR s.data.toList).1 : Nat) (decR s.data.toList).2.1.toArray.size : Nat)]) = _
  rw [hx, List.size_toArray, hc]
  rfl
theorem enc_same (k1 k2 : Int) (d1 d2 : List UInt8) (h1 : checkE k1 d1.length = 0) (h2 : checkE k2 d2.length = 0) (h : encT k1 d1 = encT k2 d2) : k1 = k2 ∧ d1 = d2 := by
  obtain ⟨a1, b1⟩ := checkE_zero.1 h1
  obtain ⟨a2, b2⟩ := checkE_zero.1 h2
  unfold encT at h
  rw [if_pos h1, if_pos h2] at h
  have e1 := dec_enc k1 d1 a1 b1
  have e2 := dec_enc k2 d2 a2 b2
  rw [h, e2] at e1
  have p1 := (kind_name k1 a1).2
  have p2 := (kind_name k2 a2).2
  have q1 := congrArg (·.1) e1
  have q2 := congrArg (·.2.1) e1
  simp only at q1 q2
  exact ⟨by omega, q2.symm⟩

set_option maxHeartbeats 6400000 in
theorem apart_none1 (k1 k2 : Int) (d1 d2 s : ByteArray) (w : World) (hs : s.size ≤ 9223372036854775807) (hL : LaidAt w) (h : checkE k1 d1.size ≠ 0) :
    Calls Tryd.prog 9 #[.agg #[.int .i64 k1, .string d1], .agg #[.int .i64 k2, .string d2], .string s] w fun e w' => e = .returned (.bool true) ∧ Below w.heap.size w w' := by
  have HL := hidM hL
  have HE1 := hidM (fun W h => encode_any k1 d1 W h)
  have HE2 := hidM (fun W h => encode_any k2 d2 W h)
  have HD := hidM (fun W h => decode_any s W hs h)
  have HER := hidM (dec_err s.data.toList)
  have HE3 := hidM (encode_back s)
  have ge : (((checkE k1 d1.size : Nat) : Int) == 0) = false := beq_false_of_ne (by omega)
  clear hL
  go_enter Tryd.func9, Tryd.ntmps9
  go_wp2_with fail
  have HB0 : Hid (Below w.heap.size w ((w.alloc (.cells #[.int .i64 k1, .string d1] 52)).alloc (.cells #[.int .i64 k2, .string d2] 52))) := ((Below.refl _ _).alloc (Nat.le_refl _) _).alloc (by simp) _
  have HGA : Hid (((w.alloc (.cells #[.int .i64 k1, .string d1] 52)).alloc (.cells #[.int .i64 k2, .string d2] 52)).heap[w.heap.size]? = some (.cells #[.int .i64 k1, .string d1] 52 (0, 0))) := by
    unfold Hid; rw [heap_alloc_old _ _ (by simp)]; exact heap_alloc_new w _
  have HGB : Hid (((w.alloc (.cells #[.int .i64 k1, .string d1] 52)).alloc (.cells #[.int .i64 k2, .string d2] 52)).heap[w.heap.size + 1]? = some (.cells #[.int .i64 k2, .string d2] 52 (0, 0))) := heap_alloc2_new w _ _
  have HZ0 : Hid (w.heap.size + 1 < ((w.alloc (.cells #[.int .i64 k1, .string d1] 52)).alloc (.cells #[.int .i64 k2, .string d2] 52)).heap.size) := by unfold Hid; simp
  generalize (w.alloc (.cells #[.int .i64 k1, .string d1] 52)).alloc (.cells #[.int .i64 k2, .string d2] 52) = W at *
  have HL0 := hidM (HL.out.below HB0.out)
  refine (HE1.out _ HL0.out).mono ?_
  rintro _ w1 ⟨rfl, hb1⟩
  have HB1 := hidM (two_le HB0.out hb1 HB0.out.size)
  have HGA1 : Hid (w1.heap[w.heap.size]? = some (.cells #[.int .i64 k1, .string d1] 52 (0, 0))) := (hb1.block _ (by have := HZ0.out; omega)).trans HGA.out
  have HGB1 : Hid (w1.heap[w.heap.size + 1]? = some (.cells #[.int .i64 k2, .string d2] 52 (0, 0))) := (hb1.block _ HZ0.out).trans HGB.out
  have HZ1 : Hid (w.heap.size + 1 < w1.heap.size) := Nat.lt_of_lt_of_le HZ0.out hb1.size
  have HL1 := hidM (HL.out.below HB1.out)
  clear hb1 HGA HGB HZ0 HB0 HL0
  have y0 : w1.cell? ⟨w.heap.size + 1, 0, none⟩ = some (.int .i64 k2) := by rw [cell_of_row w1 _ 0 _ 52 (0, 0) HGB1.out]; rfl
  have y1 : w1.cell? ⟨w.heap.size + 1, 1, none⟩ = some (.string d2) := by rw [cell_of_row w1 _ 1 _ 52 (0, 0) HGB1.out]; rfl
  go_wp2_with fail
  clear y0 y1
  refine (HE2.out _ HL1.out).mono ?_
  rintro _ w2 ⟨rfl, hb2⟩
  have HB2 := hidM (two_le HB1.out hb2 HB1.out.size)
  have HGA2 : Hid (w2.heap[w.heap.size]? = some (.cells #[.int .i64 k1, .string d1] 52 (0, 0))) := (hb2.block _ (by have := HZ1.out; omega)).trans HGA1.out
  have HGB2 : Hid (w2.heap[w.heap.size + 1]? = some (.cells #[.int .i64 k2, .string d2] 52 (0, 0))) := (hb2.block _ HZ1.out).trans HGB1.out
  have HL2 := hidM (HL.out.below HB2.out)
  clear hb2 HGA1 HGB1 HZ1 HB1 HL1 HE1 HE2
  have x0 : w2.cell? ⟨w.heap.size, 0, none⟩ = some (.int .i64 k1) := by rw [cell_of_row w2 _ 0 _ 52 (0, 0) HGA2.out]; rfl
  have x1 : w2.cell? ⟨w.heap.size, 1, none⟩ = some (.string d1) := by rw [cell_of_row w2 _ 1 _ 52 (0, 0) HGA2.out]; rfl
  have y0 : w2.cell? ⟨w.heap.size + 1, 0, none⟩ = some (.int .i64 k2) := by rw [cell_of_row w2 _ 0 _ 52 (0, 0) HGB2.out]; rfl
  have y1 : w2.cell? ⟨w.heap.size + 1, 1, none⟩ = some (.string d2) := by rw [cell_of_row w2 _ 1 _ 52 (0, 0) HGB2.out]; rfl
  go_wp2_with fail
  refine (HD.out _ HL2.out.names).mono ?_
  rintro _ w3 ⟨rfl, hb3⟩
  have HB3 := hidM (two_le HB2.out hb3 HB2.out.size)
  have HL3 := hidM (HL.out.below HB3.out)
  clear hb3 HGA2 HGB2 x0 x1 y0 y1 HD HL2 HB2
  generalize (decR s.data.toList).1 = k at *
  generalize (decR s.data.toList).2.2 = E at *
  generalize hDl : (decR s.data.toList).2.1 = dl at *
  by_cases hE : E = 0
  · subst hE
    have HE4 := hidM (HE3.out rfl)
    clear HE3 HER
    generalize (⟨dl.toArray⟩ : ByteArray) = D at *
    go_wp2_with fail
    have HB4 : Hid (Below w.heap.size w (w3.alloc (.cells #[.int .i64 (k : Int), .string D] 52))) := HB3.out.alloc HB3.out.size _
    generalize w3.alloc (.cells #[.int .i64 (k : Int), .string D] 52) = V at *
    have HL4 := hidM (HL.out.below HB4.out)
    refine (HE4.out _ HL4.out).mono ?_
    rintro _ w4 ⟨rfl, hb4⟩
    have HB5 := hidM (two_le HB4.out hb4 HB4.out.size)
    have HL5 := hidM (HL.out.below HB5.out)
    clear hb4
    go_wp2_with fail
    refine (awake_any _ HL5.out).mono ?_
    rintro _ w5 ⟨rfl, hb5⟩
    have HB6 := hidM (two_le HB5.out hb5 HB5.out.size)
    clear hb5
    go_wp2_with fail
    go_ret
    exact ⟨rfl, HB6.out⟩
  · obtain ⟨rfl, rfl⟩ := HER.out hE
    have gE : ((E : Int) == 0) = false := beq_false_of_ne (by omega)
    clear HER HE3
    go_wp2_with fail
    have HB4 : Hid (Below w.heap.size w (w3.alloc (.cells #[.int .i64 0, .string ⟨#[]⟩] 52))) := HB3.out.alloc HB3.out.size _
    have HG4 : Hid ((w3.alloc (.cells #[.int .i64 0, .string ⟨#[]⟩] 52)).heap[w3.heap.size]? = some (.cells #[.int .i64 0, .string ⟨#[]⟩] 52 (0, 0))) := heap_alloc_new w3 _
    have HZ4 : Hid (w3.heap.size < (w3.alloc (.cells #[.int .i64 0, .string ⟨#[]⟩] 52)).heap.size) := by unfold Hid; simp
    generalize w3.alloc (.cells #[.int .i64 0, .string ⟨#[]⟩] 52) = V at *
    have HL4 := hidM (HL.out.below HB4.out)
    refine (awake_any _ HL4.out).mono ?_
    rintro _ w5 ⟨rfl, hb5⟩
    have HG5 : w5.heap[w3.heap.size]? = some (.cells #[.int .i64 0, .string ⟨#[]⟩] 52 (0, 0)) := (hb5.block _ HZ4.out).trans HG4.out
    have z0 : w5.cell? ⟨w3.heap.size, 0, none⟩ = some (.int .i64 0) := by rw [cell_of_row w5 _ 0 _ 52 (0, 0) HG5]; rfl
    have z1 : w5.cell? ⟨w3.heap.size, 1, none⟩ = some (.string ⟨#[]⟩) := by rw [cell_of_row w5 _ 1 _ 52 (0, 0) HG5]; rfl
    have HB6 := hidM (two_le HB4.out hb5 HB4.out.size)
    clear hb5 HG5 HG4
    go_wp2_with fail
    go_ret
    exact ⟨rfl, HB6.out⟩

set_option maxHeartbeats 6400000 in
theorem apart_none2 (k1 k2 : Int) (d1 d2 s : ByteArray) (w : World) (hs : s.size ≤ 9223372036854775807) (hL : LaidAt w) (h1 : checkE k1 d1.size = 0) (h : checkE k2 d2.size ≠ 0) :
    Calls Tryd.prog 9 #[.agg #[.int .i64 k1, .string d1], .agg #[.int .i64 k2, .string d2], .string s] w fun e w' => e = .returned (.bool true) ∧ Below w.heap.size w w' := by
  have HL := hidM hL
  have HE1 := hidM (fun W h => encode_any k1 d1 W h)
  have HE2 := hidM (fun W h => encode_any k2 d2 W h)
  have HD := hidM (fun W h => decode_any s W hs h)
  have HER := hidM (dec_err s.data.toList)
  have HE3 := hidM (encode_back s)
  have ge : (((checkE k2 d2.size : Nat) : Int) == 0) = false := beq_false_of_ne (by omega)
  clear hL
  go_enter Tryd.func9, Tryd.ntmps9
  go_wp2_with fail
  have HB0 : Hid (Below w.heap.size w ((w.alloc (.cells #[.int .i64 k1, .string d1] 52)).alloc (.cells #[.int .i64 k2, .string d2] 52))) := ((Below.refl _ _).alloc (Nat.le_refl _) _).alloc (by simp) _
  have HGA : Hid (((w.alloc (.cells #[.int .i64 k1, .string d1] 52)).alloc (.cells #[.int .i64 k2, .string d2] 52)).heap[w.heap.size]? = some (.cells #[.int .i64 k1, .string d1] 52 (0, 0))) := by
    unfold Hid; rw [heap_alloc_old _ _ (by simp)]; exact heap_alloc_new w _
  have HGB : Hid (((w.alloc (.cells #[.int .i64 k1, .string d1] 52)).alloc (.cells #[.int .i64 k2, .string d2] 52)).heap[w.heap.size + 1]? = some (.cells #[.int .i64 k2, .string d2] 52 (0, 0))) := heap_alloc2_new w _ _
  have HZ0 : Hid (w.heap.size + 1 < ((w.alloc (.cells #[.int .i64 k1, .string d1] 52)).alloc (.cells #[.int .i64 k2, .string d2] 52)).heap.size) := by unfold Hid; simp
  generalize (w.alloc (.cells #[.int .i64 k1, .string d1] 52)).alloc (.cells #[.int .i64 k2, .string d2] 52) = W at *
  have HL0 := hidM (HL.out.below HB0.out)
  refine (HE1.out _ HL0.out).mono ?_
  rintro _ w1 ⟨rfl, hb1⟩
  have HB1 := hidM (two_le HB0.out hb1 HB0.out.size)
  have HGA1 : Hid (w1.heap[w.heap.size]? = some (.cells #[.int .i64 k1, .string d1] 52 (0, 0))) := (hb1.block _ (by have := HZ0.out; omega)).trans HGA.out
  have HGB1 : Hid (w1.heap[w.heap.size + 1]? = some (.cells #[.int .i64 k2, .string d2] 52 (0, 0))) := (hb1.block _ HZ0.out).trans HGB.out
  have HZ1 : Hid (w.heap.size + 1 < w1.heap.size) := Nat.lt_of_lt_of_le HZ0.out hb1.size
  have HL1 := hidM (HL.out.below HB1.out)
  clear hb1 HGA HGB HZ0 HB0 HL0
  have y0 : w1.cell? ⟨w.heap.size + 1, 0, none⟩ = some (.int .i64 k2) := by rw [cell_of_row w1 _ 0 _ 52 (0, 0) HGB1.out]; rfl
  have y1 : w1.cell? ⟨w.heap.size + 1, 1, none⟩ = some (.string d2) := by rw [cell_of_row w1 _ 1 _ 52 (0, 0) HGB1.out]; rfl
  go_wp2_with fail
  clear y0 y1
  refine (HE2.out _ HL1.out).mono ?_
  rintro _ w2 ⟨rfl, hb2⟩
  have HB2 := hidM (two_le HB1.out hb2 HB1.out.size)
  have HGA2 : Hid (w2.heap[w.heap.size]? = some (.cells #[.int .i64 k1, .string d1] 52 (0, 0))) := (hb2.block _ (by have := HZ1.out; omega)).trans HGA1.out
  have HGB2 : Hid (w2.heap[w.heap.size + 1]? = some (.cells #[.int .i64 k2, .string d2] 52 (0, 0))) := (hb2.block _ HZ1.out).trans HGB1.out
  have HL2 := hidM (HL.out.below HB2.out)
  clear hb2 HGA1 HGB1 HZ1 HB1 HL1 HE1 HE2
  have x0 : w2.cell? ⟨w.heap.size, 0, none⟩ = some (.int .i64 k1) := by rw [cell_of_row w2 _ 0 _ 52 (0, 0) HGA2.out]; rfl
  have x1 : w2.cell? ⟨w.heap.size, 1, none⟩ = some (.string d1) := by rw [cell_of_row w2 _ 1 _ 52 (0, 0) HGA2.out]; rfl
  have y0 : w2.cell? ⟨w.heap.size + 1, 0, none⟩ = some (.int .i64 k2) := by rw [cell_of_row w2 _ 0 _ 52 (0, 0) HGB2.out]; rfl
  have y1 : w2.cell? ⟨w.heap.size + 1, 1, none⟩ = some (.string d2) := by rw [cell_of_row w2 _ 1 _ 52 (0, 0) HGB2.out]; rfl
  go_wp2_with fail
  refine (HD.out _ HL2.out.names).mono ?_
  rintro _ w3 ⟨rfl, hb3⟩
  have HB3 := hidM (two_le HB2.out hb3 HB2.out.size)
  have HL3 := hidM (HL.out.below HB3.out)
  clear hb3 HGA2 HGB2 x0 x1 y0 y1 HD HL2 HB2
  generalize (decR s.data.toList).1 = k at *
  generalize (decR s.data.toList).2.2 = E at *
  generalize hDl : (decR s.data.toList).2.1 = dl at *
  by_cases hE : E = 0
  · subst hE
    have HE4 := hidM (HE3.out rfl)
    clear HE3 HER
    generalize (⟨dl.toArray⟩ : ByteArray) = D at *
    go_wp2_with fail
    have HB4 : Hid (Below w.heap.size w (w3.alloc (.cells #[.int .i64 (k : Int), .string D] 52))) := HB3.out.alloc HB3.out.size _
    generalize w3.alloc (.cells #[.int .i64 (k : Int), .string D] 52) = V at *
    have HL4 := hidM (HL.out.below HB4.out)
    refine (HE4.out _ HL4.out).mono ?_
    rintro _ w4 ⟨rfl, hb4⟩
    have HB5 := hidM (two_le HB4.out hb4 HB4.out.size)
    have HL5 := hidM (HL.out.below HB5.out)
    clear hb4
    go_wp2_with fail
    refine (awake_any _ HL5.out).mono ?_
    rintro _ w5 ⟨rfl, hb5⟩
    have HB6 := hidM (two_le HB5.out hb5 HB5.out.size)
    clear hb5
    go_wp2_with fail
    go_ret
    exact ⟨rfl, HB6.out⟩
  · obtain ⟨rfl, rfl⟩ := HER.out hE
    have gE : ((E : Int) == 0) = false := beq_false_of_ne (by omega)
    clear HER HE3
    go_wp2_with fail
    have HB4 : Hid (Below w.heap.size w (w3.alloc (.cells #[.int .i64 0, .string ⟨#[]⟩] 52))) := HB3.out.alloc HB3.out.size _
    have HG4 : Hid ((w3.alloc (.cells #[.int .i64 0, .string ⟨#[]⟩] 52)).heap[w3.heap.size]? = some (.cells #[.int .i64 0, .string ⟨#[]⟩] 52 (0, 0))) := heap_alloc_new w3 _
    have HZ4 : Hid (w3.heap.size < (w3.alloc (.cells #[.int .i64 0, .string ⟨#[]⟩] 52)).heap.size) := by unfold Hid; simp
    generalize w3.alloc (.cells #[.int .i64 0, .string ⟨#[]⟩] 52) = V at *
    have HL4 := hidM (HL.out.below HB4.out)
    refine (awake_any _ HL4.out).mono ?_
    rintro _ w5 ⟨rfl, hb5⟩
    have HG5 : w5.heap[w3.heap.size]? = some (.cells #[.int .i64 0, .string ⟨#[]⟩] 52 (0, 0)) := (hb5.block _ HZ4.out).trans HG4.out
    have z0 : w5.cell? ⟨w3.heap.size, 0, none⟩ = some (.int .i64 0) := by rw [cell_of_row w5 _ 0 _ 52 (0, 0) HG5]; rfl
    have z1 : w5.cell? ⟨w3.heap.size, 1, none⟩ = some (.string ⟨#[]⟩) := by rw [cell_of_row w5 _ 1 _ 52 (0, 0) HG5]; rfl
    have HB6 := hidM (two_le HB4.out hb5 HB4.out.size)
    clear hb5 HG5 HG4
    go_wp2_with fail
    go_ret
    exact ⟨rfl, HB6.out⟩

set_option maxHeartbeats 6400000 in
theorem apart_kinds (k1 k2 : Int) (d1 d2 s : ByteArray) (w : World) (hs : s.size ≤ 9223372036854775807) (hL : LaidAt w) (h1 : checkE k1 d1.size = 0) (h2 : checkE k2 d2.size = 0) (hx : (encT k1 d1.data.toList == encT k2 d2.data.toList) = false) (hk : (k1 == k2) = false) :
    Calls Tryd.prog 9 #[.agg #[.int .i64 k1, .string d1], .agg #[.int .i64 k2, .string d2], .string s] w fun e w' => e = .returned (.bool true) ∧ Below w.heap.size w w' := by
  have HL := hidM hL
  have HE1 := hidM (fun W h => encode_any k1 d1 W h)
  have HE2 := hidM (fun W h => encode_any k2 d2 W h)
  have HD := hidM (fun W h => decode_any s W hs h)
  have HER := hidM (dec_err s.data.toList)
  have HE3 := hidM (encode_back s)

  clear hL
  go_enter Tryd.func9, Tryd.ntmps9
  go_wp2_with fail
  have HB0 : Hid (Below w.heap.size w ((w.alloc (.cells #[.int .i64 k1, .string d1] 52)).alloc (.cells #[.int .i64 k2, .string d2] 52))) := ((Below.refl _ _).alloc (Nat.le_refl _) _).alloc (by simp) _
  have HGA : Hid (((w.alloc (.cells #[.int .i64 k1, .string d1] 52)).alloc (.cells #[.int .i64 k2, .string d2] 52)).heap[w.heap.size]? = some (.cells #[.int .i64 k1, .string d1] 52 (0, 0))) := by
    unfold Hid; rw [heap_alloc_old _ _ (by simp)]; exact heap_alloc_new w _
  have HGB : Hid (((w.alloc (.cells #[.int .i64 k1, .string d1] 52)).alloc (.cells #[.int .i64 k2, .string d2] 52)).heap[w.heap.size + 1]? = some (.cells #[.int .i64 k2, .string d2] 52 (0, 0))) := heap_alloc2_new w _ _
  have HZ0 : Hid (w.heap.size + 1 < ((w.alloc (.cells #[.int .i64 k1, .string d1] 52)).alloc (.cells #[.int .i64 k2, .string d2] 52)).heap.size) := by unfold Hid; simp
  generalize (w.alloc (.cells #[.int .i64 k1, .string d1] 52)).alloc (.cells #[.int .i64 k2, .string d2] 52) = W at *
  have HL0 := hidM (HL.out.below HB0.out)
  refine (HE1.out _ HL0.out).mono ?_
  rintro _ w1 ⟨rfl, hb1⟩
  have HB1 := hidM (two_le HB0.out hb1 HB0.out.size)
  have HGA1 : Hid (w1.heap[w.heap.size]? = some (.cells #[.int .i64 k1, .string d1] 52 (0, 0))) := (hb1.block _ (by have := HZ0.out; omega)).trans HGA.out
  have HGB1 : Hid (w1.heap[w.heap.size + 1]? = some (.cells #[.int .i64 k2, .string d2] 52 (0, 0))) := (hb1.block _ HZ0.out).trans HGB.out
  have HZ1 : Hid (w.heap.size + 1 < w1.heap.size) := Nat.lt_of_lt_of_le HZ0.out hb1.size
  have HL1 := hidM (HL.out.below HB1.out)
  clear hb1 HGA HGB HZ0 HB0 HL0
  have y0 : w1.cell? ⟨w.heap.size + 1, 0, none⟩ = some (.int .i64 k2) := by rw [cell_of_row w1 _ 0 _ 52 (0, 0) HGB1.out]; rfl
  have y1 : w1.cell? ⟨w.heap.size + 1, 1, none⟩ = some (.string d2) := by rw [cell_of_row w1 _ 1 _ 52 (0, 0) HGB1.out]; rfl
  go_wp2_with fail
  clear y0 y1
  refine (HE2.out _ HL1.out).mono ?_
  rintro _ w2 ⟨rfl, hb2⟩
  have HB2 := hidM (two_le HB1.out hb2 HB1.out.size)
  have HGA2 : Hid (w2.heap[w.heap.size]? = some (.cells #[.int .i64 k1, .string d1] 52 (0, 0))) := (hb2.block _ (by have := HZ1.out; omega)).trans HGA1.out
  have HGB2 : Hid (w2.heap[w.heap.size + 1]? = some (.cells #[.int .i64 k2, .string d2] 52 (0, 0))) := (hb2.block _ HZ1.out).trans HGB1.out
  have HL2 := hidM (HL.out.below HB2.out)
  clear hb2 HGA1 HGB1 HZ1 HB1 HL1 HE1 HE2
  have x0 : w2.cell? ⟨w.heap.size, 0, none⟩ = some (.int .i64 k1) := by rw [cell_of_row w2 _ 0 _ 52 (0, 0) HGA2.out]; rfl
  have x1 : w2.cell? ⟨w.heap.size, 1, none⟩ = some (.string d1) := by rw [cell_of_row w2 _ 1 _ 52 (0, 0) HGA2.out]; rfl
  have y0 : w2.cell? ⟨w.heap.size + 1, 0, none⟩ = some (.int .i64 k2) := by rw [cell_of_row w2 _ 0 _ 52 (0, 0) HGB2.out]; rfl
  have y1 : w2.cell? ⟨w.heap.size + 1, 1, none⟩ = some (.string d2) := by rw [cell_of_row w2 _ 1 _ 52 (0, 0) HGB2.out]; rfl
  go_wp2_with fail
  refine (HD.out _ HL2.out.names).mono ?_
  rintro _ w3 ⟨rfl, hb3⟩
  have HB3 := hidM (two_le HB2.out hb3 HB2.out.size)
  have HL3 := hidM (HL.out.below HB3.out)
  clear hb3 HGA2 HGB2 x0 x1 y0 y1 HD HL2 HB2
  generalize (decR s.data.toList).1 = k at *
  generalize (decR s.data.toList).2.2 = E at *
  generalize hDl : (decR s.data.toList).2.1 = dl at *
  by_cases hE : E = 0
  · subst hE
    have HE4 := hidM (HE3.out rfl)
    clear HE3 HER
    generalize (⟨dl.toArray⟩ : ByteArray) = D at *
    go_wp2_with fail
    have HB4 : Hid (Below w.heap.size w (w3.alloc (.cells #[.int .i64 (k : Int), .string D] 52))) := HB3.out.alloc HB3.out.size _
    generalize w3.alloc (.cells #[.int .i64 (k : Int), .string D] 52) = V at *
    have HL4 := hidM (HL.out.below HB4.out)
    refine (HE4.out _ HL4.out).mono ?_
    rintro _ w4 ⟨rfl, hb4⟩
    have HB5 := hidM (two_le HB4.out hb4 HB4.out.size)
    have HL5 := hidM (HL.out.below HB5.out)
    clear hb4
    go_wp2_with fail
    refine (awake_any _ HL5.out).mono ?_
    rintro _ w5 ⟨rfl, hb5⟩
    have HB6 := hidM (two_le HB5.out hb5 HB5.out.size)
    clear hb5
    go_wp2_with fail
    go_ret
    exact ⟨rfl, HB6.out⟩
  · obtain ⟨rfl, rfl⟩ := HER.out hE
    have gE : ((E : Int) == 0) = false := beq_false_of_ne (by omega)
    clear HER HE3
    go_wp2_with fail
    have HB4 : Hid (Below w.heap.size w (w3.alloc (.cells #[.int .i64 0, .string ⟨#[]⟩] 52))) := HB3.out.alloc HB3.out.size _
    have HG4 : Hid ((w3.alloc (.cells #[.int .i64 0, .string ⟨#[]⟩] 52)).heap[w3.heap.size]? = some (.cells #[.int .i64 0, .string ⟨#[]⟩] 52 (0, 0))) := heap_alloc_new w3 _
    have HZ4 : Hid (w3.heap.size < (w3.alloc (.cells #[.int .i64 0, .string ⟨#[]⟩] 52)).heap.size) := by unfold Hid; simp
    generalize w3.alloc (.cells #[.int .i64 0, .string ⟨#[]⟩] 52) = V at *
    have HL4 := hidM (HL.out.below HB4.out)
    refine (awake_any _ HL4.out).mono ?_
    rintro _ w5 ⟨rfl, hb5⟩
    have HG5 : w5.heap[w3.heap.size]? = some (.cells #[.int .i64 0, .string ⟨#[]⟩] 52 (0, 0)) := (hb5.block _ HZ4.out).trans HG4.out
    have z0 : w5.cell? ⟨w3.heap.size, 0, none⟩ = some (.int .i64 0) := by rw [cell_of_row w5 _ 0 _ 52 (0, 0) HG5]; rfl
    have z1 : w5.cell? ⟨w3.heap.size, 1, none⟩ = some (.string ⟨#[]⟩) := by rw [cell_of_row w5 _ 1 _ 52 (0, 0) HG5]; rfl
    have HB6 := hidM (two_le HB4.out hb5 HB4.out.size)
    clear hb5 HG5 HG4
    go_wp2_with fail
    go_ret
    exact ⟨rfl, HB6.out⟩

set_option maxHeartbeats 6400000 in
theorem apart_data (k1 : Int) (d1 d2 s : ByteArray) (w : World) (hs : s.size ≤ 9223372036854775807) (hL : LaidAt w) (h1 : checkE k1 d1.size = 0) (h2 : checkE k1 d2.size = 0) (hx : (encT k1 d1.data.toList == encT k1 d2.data.toList) = false) (hd : (d1.toList == d2.toList) = false) :
    Calls Tryd.prog 9 #[.agg #[.int .i64 k1, .string d1], .agg #[.int .i64 k1, .string d2], .string s] w fun e w' => e = .returned (.bool true) ∧ Below w.heap.size w w' := by
  have HL := hidM hL
  have HE1 := hidM (fun W h => encode_any k1 d1 W h)
  have HE2 := hidM (fun W h => encode_any k1 d2 W h)
  have HD := hidM (fun W h => decode_any s W hs h)
  have HER := hidM (dec_err s.data.toList)
  have HE3 := hidM (encode_back s)

  clear hL
  go_enter Tryd.func9, Tryd.ntmps9
  go_wp2_with fail
  have HB0 : Hid (Below w.heap.size w ((w.alloc (.cells #[.int .i64 k1, .string d1] 52)).alloc (.cells #[.int .i64 k1, .string d2] 52))) := ((Below.refl _ _).alloc (Nat.le_refl _) _).alloc (by simp) _
  have HGA : Hid (((w.alloc (.cells #[.int .i64 k1, .string d1] 52)).alloc (.cells #[.int .i64 k1, .string d2] 52)).heap[w.heap.size]? = some (.cells #[.int .i64 k1, .string d1] 52 (0, 0))) := by
    unfold Hid; rw [heap_alloc_old _ _ (by simp)]; exact heap_alloc_new w _
  have HGB : Hid (((w.alloc (.cells #[.int .i64 k1, .string d1] 52)).alloc (.cells #[.int .i64 k1, .string d2] 52)).heap[w.heap.size + 1]? = some (.cells #[.int .i64 k1, .string d2] 52 (0, 0))) := heap_alloc2_new w _ _
  have HZ0 : Hid (w.heap.size + 1 < ((w.alloc (.cells #[.int .i64 k1, .string d1] 52)).alloc (.cells #[.int .i64 k1, .string d2] 52)).heap.size) := by unfold Hid; simp
  generalize (w.alloc (.cells #[.int .i64 k1, .string d1] 52)).alloc (.cells #[.int .i64 k1, .string d2] 52) = W at *
  have HL0 := hidM (HL.out.below HB0.out)
  refine (HE1.out _ HL0.out).mono ?_
  rintro _ w1 ⟨rfl, hb1⟩
  have HB1 := hidM (two_le HB0.out hb1 HB0.out.size)
  have HGA1 : Hid (w1.heap[w.heap.size]? = some (.cells #[.int .i64 k1, .string d1] 52 (0, 0))) := (hb1.block _ (by have := HZ0.out; omega)).trans HGA.out
  have HGB1 : Hid (w1.heap[w.heap.size + 1]? = some (.cells #[.int .i64 k1, .string d2] 52 (0, 0))) := (hb1.block _ HZ0.out).trans HGB.out
  have HZ1 : Hid (w.heap.size + 1 < w1.heap.size) := Nat.lt_of_lt_of_le HZ0.out hb1.size
  have HL1 := hidM (HL.out.below HB1.out)
  clear hb1 HGA HGB HZ0 HB0 HL0
  have y0 : w1.cell? ⟨w.heap.size + 1, 0, none⟩ = some (.int .i64 k1) := by rw [cell_of_row w1 _ 0 _ 52 (0, 0) HGB1.out]; rfl
  have y1 : w1.cell? ⟨w.heap.size + 1, 1, none⟩ = some (.string d2) := by rw [cell_of_row w1 _ 1 _ 52 (0, 0) HGB1.out]; rfl
  go_wp2_with fail
  clear y0 y1
  refine (HE2.out _ HL1.out).mono ?_
  rintro _ w2 ⟨rfl, hb2⟩
  have HB2 := hidM (two_le HB1.out hb2 HB1.out.size)
  have HGA2 : Hid (w2.heap[w.heap.size]? = some (.cells #[.int .i64 k1, .string d1] 52 (0, 0))) := (hb2.block _ (by have := HZ1.out; omega)).trans HGA1.out
  have HGB2 : Hid (w2.heap[w.heap.size + 1]? = some (.cells #[.int .i64 k1, .string d2] 52 (0, 0))) := (hb2.block _ HZ1.out).trans HGB1.out
  have HL2 := hidM (HL.out.below HB2.out)
  clear hb2 HGA1 HGB1 HZ1 HB1 HL1 HE1 HE2
  have x0 : w2.cell? ⟨w.heap.size, 0, none⟩ = some (.int .i64 k1) := by rw [cell_of_row w2 _ 0 _ 52 (0, 0) HGA2.out]; rfl
  have x1 : w2.cell? ⟨w.heap.size, 1, none⟩ = some (.string d1) := by rw [cell_of_row w2 _ 1 _ 52 (0, 0) HGA2.out]; rfl
  have y0 : w2.cell? ⟨w.heap.size + 1, 0, none⟩ = some (.int .i64 k1) := by rw [cell_of_row w2 _ 0 _ 52 (0, 0) HGB2.out]; rfl
  have y1 : w2.cell? ⟨w.heap.size + 1, 1, none⟩ = some (.string d2) := by rw [cell_of_row w2 _ 1 _ 52 (0, 0) HGB2.out]; rfl
  go_wp2_with fail
  refine (HD.out _ HL2.out.names).mono ?_
  rintro _ w3 ⟨rfl, hb3⟩
  have HB3 := hidM (two_le HB2.out hb3 HB2.out.size)
  have HL3 := hidM (HL.out.below HB3.out)
  clear hb3 HGA2 HGB2 x0 x1 y0 y1 HD HL2 HB2
  generalize (decR s.data.toList).1 = k at *
  generalize (decR s.data.toList).2.2 = E at *
  generalize hDl : (decR s.data.toList).2.1 = dl at *
  by_cases hE : E = 0
  · subst hE
    have HE4 := hidM (HE3.out rfl)
    clear HE3 HER
    generalize (⟨dl.toArray⟩ : ByteArray) = D at *
    go_wp2_with fail
    have HB4 : Hid (Below w.heap.size w (w3.alloc (.cells #[.int .i64 (k : Int), .string D] 52))) := HB3.out.alloc HB3.out.size _
    generalize w3.alloc (.cells #[.int .i64 (k : Int), .string D] 52) = V at *
    have HL4 := hidM (HL.out.below HB4.out)
    refine (HE4.out _ HL4.out).mono ?_
    rintro _ w4 ⟨rfl, hb4⟩
    have HB5 := hidM (two_le HB4.out hb4 HB4.out.size)
    have HL5 := hidM (HL.out.below HB5.out)
    clear hb4
    go_wp2_with fail
    refine (awake_any _ HL5.out).mono ?_
    rintro _ w5 ⟨rfl, hb5⟩
    have HB6 := hidM (two_le HB5.out hb5 HB5.out.size)
    clear hb5
    go_wp2_with fail
    go_ret
    exact ⟨rfl, HB6.out⟩
  · obtain ⟨rfl, rfl⟩ := HER.out hE
    have gE : ((E : Int) == 0) = false := beq_false_of_ne (by omega)
    clear HER HE3
    go_wp2_with fail
    have HB4 : Hid (Below w.heap.size w (w3.alloc (.cells #[.int .i64 0, .string ⟨#[]⟩] 52))) := HB3.out.alloc HB3.out.size _
    have HG4 : Hid ((w3.alloc (.cells #[.int .i64 0, .string ⟨#[]⟩] 52)).heap[w3.heap.size]? = some (.cells #[.int .i64 0, .string ⟨#[]⟩] 52 (0, 0))) := heap_alloc_new w3 _
    have HZ4 : Hid (w3.heap.size < (w3.alloc (.cells #[.int .i64 0, .string ⟨#[]⟩] 52)).heap.size) := by unfold Hid; simp
    generalize w3.alloc (.cells #[.int .i64 0, .string ⟨#[]⟩] 52) = V at *
    have HL4 := hidM (HL.out.below HB4.out)
    refine (awake_any _ HL4.out).mono ?_
    rintro _ w5 ⟨rfl, hb5⟩
    have HG5 : w5.heap[w3.heap.size]? = some (.cells #[.int .i64 0, .string ⟨#[]⟩] 52 (0, 0)) := (hb5.block _ HZ4.out).trans HG4.out
    have z0 : w5.cell? ⟨w3.heap.size, 0, none⟩ = some (.int .i64 0) := by rw [cell_of_row w5 _ 0 _ 52 (0, 0) HG5]; rfl
    have z1 : w5.cell? ⟨w3.heap.size, 1, none⟩ = some (.string ⟨#[]⟩) := by rw [cell_of_row w5 _ 1 _ 52 (0, 0) HG5]; rfl
    have HB6 := hidM (two_le HB4.out hb5 HB4.out.size)
    clear hb5 HG5 HG4
    go_wp2_with fail
    go_ret
    exact ⟨rfl, HB6.out⟩

set_option maxHeartbeats 6400000 in
theorem apart_same (k1 : Int) (d1 s : ByteArray) (w : World) (hs : s.size ≤ 9223372036854775807) (hL : LaidAt w) (h1 : checkE k1 d1.size = 0) :
    Calls Tryd.prog 9 #[.agg #[.int .i64 k1, .string d1], .agg #[.int .i64 k1, .string d1], .string s] w fun e w' => e = .returned (.bool true) ∧ Below w.heap.size w w' := by
  have HL := hidM hL
  have HE1 := hidM (fun W h => encode_any k1 d1 W h)
  have HE2 := hidM (fun W h => encode_any k1 d1 W h)
  have HD := hidM (fun W h => decode_any s W hs h)
  have HER := hidM (dec_err s.data.toList)
  have HE3 := hidM (encode_back s)

  clear hL
  go_enter Tryd.func9, Tryd.ntmps9
  go_wp2_with fail
  have HB0 : Hid (Below w.heap.size w ((w.alloc (.cells #[.int .i64 k1, .string d1] 52)).alloc (.cells #[.int .i64 k1, .string d1] 52))) := ((Below.refl _ _).alloc (Nat.le_refl _) _).alloc (by simp) _
  have HGA : Hid (((w.alloc (.cells #[.int .i64 k1, .string d1] 52)).alloc (.cells #[.int .i64 k1, .string d1] 52)).heap[w.heap.size]? = some (.cells #[.int .i64 k1, .string d1] 52 (0, 0))) := by
    unfold Hid; rw [heap_alloc_old _ _ (by simp)]; exact heap_alloc_new w _
  have HGB : Hid (((w.alloc (.cells #[.int .i64 k1, .string d1] 52)).alloc (.cells #[.int .i64 k1, .string d1] 52)).heap[w.heap.size + 1]? = some (.cells #[.int .i64 k1, .string d1] 52 (0, 0))) := heap_alloc2_new w _ _
  have HZ0 : Hid (w.heap.size + 1 < ((w.alloc (.cells #[.int .i64 k1, .string d1] 52)).alloc (.cells #[.int .i64 k1, .string d1] 52)).heap.size) := by unfold Hid; simp
  generalize (w.alloc (.cells #[.int .i64 k1, .string d1] 52)).alloc (.cells #[.int .i64 k1, .string d1] 52) = W at *
  have HL0 := hidM (HL.out.below HB0.out)
  refine (HE1.out _ HL0.out).mono ?_
  rintro _ w1 ⟨rfl, hb1⟩
  have HB1 := hidM (two_le HB0.out hb1 HB0.out.size)
  have HGA1 : Hid (w1.heap[w.heap.size]? = some (.cells #[.int .i64 k1, .string d1] 52 (0, 0))) := (hb1.block _ (by have := HZ0.out; omega)).trans HGA.out
  have HGB1 : Hid (w1.heap[w.heap.size + 1]? = some (.cells #[.int .i64 k1, .string d1] 52 (0, 0))) := (hb1.block _ HZ0.out).trans HGB.out
  have HZ1 : Hid (w.heap.size + 1 < w1.heap.size) := Nat.lt_of_lt_of_le HZ0.out hb1.size
  have HL1 := hidM (HL.out.below HB1.out)
  clear hb1 HGA HGB HZ0 HB0 HL0
  have y0 : w1.cell? ⟨w.heap.size + 1, 0, none⟩ = some (.int .i64 k1) := by rw [cell_of_row w1 _ 0 _ 52 (0, 0) HGB1.out]; rfl
  have y1 : w1.cell? ⟨w.heap.size + 1, 1, none⟩ = some (.string d1) := by rw [cell_of_row w1 _ 1 _ 52 (0, 0) HGB1.out]; rfl
  go_wp2_with fail
  clear y0 y1
  refine (HE2.out _ HL1.out).mono ?_
  rintro _ w2 ⟨rfl, hb2⟩
  have HB2 := hidM (two_le HB1.out hb2 HB1.out.size)
  have HGA2 : Hid (w2.heap[w.heap.size]? = some (.cells #[.int .i64 k1, .string d1] 52 (0, 0))) := (hb2.block _ (by have := HZ1.out; omega)).trans HGA1.out
  have HGB2 : Hid (w2.heap[w.heap.size + 1]? = some (.cells #[.int .i64 k1, .string d1] 52 (0, 0))) := (hb2.block _ HZ1.out).trans HGB1.out
  have HL2 := hidM (HL.out.below HB2.out)
  clear hb2 HGA1 HGB1 HZ1 HB1 HL1 HE1 HE2
  have x0 : w2.cell? ⟨w.heap.size, 0, none⟩ = some (.int .i64 k1) := by rw [cell_of_row w2 _ 0 _ 52 (0, 0) HGA2.out]; rfl
  have x1 : w2.cell? ⟨w.heap.size, 1, none⟩ = some (.string d1) := by rw [cell_of_row w2 _ 1 _ 52 (0, 0) HGA2.out]; rfl
  have y0 : w2.cell? ⟨w.heap.size + 1, 0, none⟩ = some (.int .i64 k1) := by rw [cell_of_row w2 _ 0 _ 52 (0, 0) HGB2.out]; rfl
  have y1 : w2.cell? ⟨w.heap.size + 1, 1, none⟩ = some (.string d1) := by rw [cell_of_row w2 _ 1 _ 52 (0, 0) HGB2.out]; rfl
  go_wp2_with fail
  refine (HD.out _ HL2.out.names).mono ?_
  rintro _ w3 ⟨rfl, hb3⟩
  have HB3 := hidM (two_le HB2.out hb3 HB2.out.size)
  have HL3 := hidM (HL.out.below HB3.out)
  clear hb3 HGA2 HGB2 x0 x1 y0 y1 HD HL2 HB2
  generalize (decR s.data.toList).1 = k at *
  generalize (decR s.data.toList).2.2 = E at *
  generalize hDl : (decR s.data.toList).2.1 = dl at *
  by_cases hE : E = 0
  · subst hE
    have HE4 := hidM (HE3.out rfl)
    clear HE3 HER
    generalize (⟨dl.toArray⟩ : ByteArray) = D at *
    go_wp2_with fail
    have HB4 : Hid (Below w.heap.size w (w3.alloc (.cells #[.int .i64 (k : Int), .string D] 52))) := HB3.out.alloc HB3.out.size _
    generalize w3.alloc (.cells #[.int .i64 (k : Int), .string D] 52) = V at *
    have HL4 := hidM (HL.out.below HB4.out)
    refine (HE4.out _ HL4.out).mono ?_
    rintro _ w4 ⟨rfl, hb4⟩
    have HB5 := hidM (two_le HB4.out hb4 HB4.out.size)
    have HL5 := hidM (HL.out.below HB5.out)
    clear hb4
    go_wp2_with fail
    refine (awake_any _ HL5.out).mono ?_
    rintro _ w5 ⟨rfl, hb5⟩
    have HB6 := hidM (two_le HB5.out hb5 HB5.out.size)
    clear hb5
    go_wp2_with fail
    go_ret
    exact ⟨rfl, HB6.out⟩
  · obtain ⟨rfl, rfl⟩ := HER.out hE
    have gE : ((E : Int) == 0) = false := beq_false_of_ne (by omega)
    clear HER HE3
    go_wp2_with fail
    have HB4 : Hid (Below w.heap.size w (w3.alloc (.cells #[.int .i64 0, .string ⟨#[]⟩] 52))) := HB3.out.alloc HB3.out.size _
    have HG4 : Hid ((w3.alloc (.cells #[.int .i64 0, .string ⟨#[]⟩] 52)).heap[w3.heap.size]? = some (.cells #[.int .i64 0, .string ⟨#[]⟩] 52 (0, 0))) := heap_alloc_new w3 _
    have HZ4 : Hid (w3.heap.size < (w3.alloc (.cells #[.int .i64 0, .string ⟨#[]⟩] 52)).heap.size) := by unfold Hid; simp
    generalize w3.alloc (.cells #[.int .i64 0, .string ⟨#[]⟩] 52) = V at *
    have HL4 := hidM (HL.out.below HB4.out)
    refine (awake_any _ HL4.out).mono ?_
    rintro _ w5 ⟨rfl, hb5⟩
    have HG5 : w5.heap[w3.heap.size]? = some (.cells #[.int .i64 0, .string ⟨#[]⟩] 52 (0, 0)) := (hb5.block _ HZ4.out).trans HG4.out
    have z0 : w5.cell? ⟨w3.heap.size, 0, none⟩ = some (.int .i64 0) := by rw [cell_of_row w5 _ 0 _ 52 (0, 0) HG5]; rfl
    have z1 : w5.cell? ⟨w3.heap.size, 1, none⟩ = some (.string ⟨#[]⟩) := by rw [cell_of_row w5 _ 1 _ 52 (0, 0) HG5]; rfl
    have HB6 := hidM (two_le HB4.out hb5 HB4.out.size)
    clear hb5 HG5 HG4
    go_wp2_with fail
    go_ret
    exact ⟨rfl, HB6.out⟩

theorem apart_walk (k1 k2 : Int) (d1 d2 s : ByteArray) (w : World) (hs : s.size ≤ 9223372036854775807) (hL : LaidAt w) :
    Calls Tryd.prog 9 #[.agg #[.int .i64 k1, .string d1], .agg #[.int .i64 k2, .string d2], .string s] w fun e w' => e = .returned (.bool true) ∧ Below w.heap.size w w' := by
  have l1 : d1.data.toList.length = d1.size := by simp
  have l2 : d2.data.toList.length = d2.size := by simp
  by_cases h1 : checkE k1 d1.size = 0
  · by_cases h2 : checkE k2 d2.size = 0
    · by_cases hk : k1 = k2
      · by_cases hd : d1 = d2
        · subst hk hd; exact apart_same k1 d1 s w hs hL h1
        · have hl : d1.data.toList ≠ d2.data.toList := fun h => hd (by rw [ba_of h])
          subst hk
          refine apart_data k1 d1 d2 s w hs hL h1 h2 (beq_false_of_ne fun h => hl (enc_same k1 k1 _ _ (by rw [l1]; exact h1) (by rw [l2]; exact h2) h).2) ?_
          rw [ByteArray.toList_eq, ByteArray.toList_eq]
          exact beq_false_of_ne hl
      · exact apart_kinds k1 k2 d1 d2 s w hs hL h1 h2 (beq_false_of_ne fun h => hk (enc_same k1 k2 _ _ (by rw [l1]; exact h1) (by rw [l2]; exact h2) h).1) (beq_false_of_ne hk)
    · exact apart_none2 k1 k2 d1 d2 s w hs hL h1 h2
  · exact apart_none1 k1 k2 d1 d2 s w hs hL h1
end Go.Proofs.YtolohndbbnbfbaaDoor
