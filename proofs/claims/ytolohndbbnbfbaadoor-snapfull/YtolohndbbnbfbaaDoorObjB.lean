/-
  An object's name; the law's own look whether the program answers at all.
-/
import Derived.Test.YtolohndbbnbfbaaDoorObjA
namespace Go.Proofs.YtolohndbbnbfbaaDoor
open Go.RowKit

set_option maxHeartbeats 3200000 in
theorem id_no (k : Int) (d : ByteArray) (w : World) (hL : LaidAt w) (h : checkE k d.size ≠ 0) :
    Calls Tryd.prog 29 #[.agg #[.int .i64 k, .string d]] w fun e w' => e = .returned (.tuple #[.string ⟨#[]⟩, .int .i64 (checkE k d.size : Nat)]) ∧ Below w.heap.size w w' := by
  have g : ¬ ((checkE k d.size : Nat) : Int) = 0 := by omega
  have g' : (((checkE k d.size : Nat) : Int) == 0) = false := beq_false_of_ne g
  have HB : Hid (Below w.heap.size w (w.alloc (.cells #[.int .i64 k, .string d] 52))) := (Below.refl _ _).alloc (Nat.le_refl _) _
  have HN := hidM (hL.below HB.out)
  have hlt : Hid (w.heap.size < (w.alloc (.cells #[.int .i64 k, .string d] 52)).heap.size) := by unfold Hid; simp
  clear hL
  go_enter Tryd.func29, Tryd.ntmps29
  go_wp2_with fail
  generalize w.alloc (.cells #[.int .i64 k, .string d] 52) = W at *
  refine (encode_no k d W HN.out h).mono ?_
  rintro _ w1 ⟨rfl, hb1⟩
  have HB1 := hidM (HB.out.trans (hb1.mono (Nat.le_of_lt hlt.out)))
  clear hb1 hlt HN HB
  go_wp2
  go_ret2
  exact ⟨rfl, HB1.out⟩

theorem two_le {a b c : World} {B : Nat} (h : Below B a b) (hb : Below b.heap.size b c) (hB : B ≤ b.heap.size) : Below B a c := h.trans (hb.mono hB)

set_option maxHeartbeats 3200000 in
theorem id_yes (k : Int) (d : ByteArray) (w : World) (hL : LaidAt w) (h : checkE k d.size = 0) :
    Calls Tryd.prog 29 #[.agg #[.int .i64 k, .string d]] w fun e w' => e = .returned (.tuple #[.string ⟨(hexL (sha1L (encL k d.data.toList))).toArray⟩, .int .i64 0]) ∧ Below w.heap.size w w' := by
  have h' := checkE_zero.1 h
  have HB : Hid (Below w.heap.size w (w.alloc (.cells #[.int .i64 k, .string d] 52))) := (Below.refl _ _).alloc (Nat.le_refl _) _
  have HN := hidM (hL.below HB.out)
  have hlt : Hid (w.heap.size < (w.alloc (.cells #[.int .i64 k, .string d] 52)).heap.size) := by unfold Hid; simp
  have HS : Hid ((⟨(encL k d.data.toList).toArray⟩ : ByteArray).size ≤ 549755813888) := by
    unfold Hid
    show (encL k d.data.toList).toArray.size ≤ _
    rw [List.size_toArray]
    have := encT_len k d.data.toList
    unfold encT at this
    rw [if_pos (by simpa using h)] at this
    omega
  clear hL
  go_enter Tryd.func29, Tryd.ntmps29
  go_wp2_with fail
  generalize w.alloc (.cells #[.int .i64 k, .string d] 52) = W at *
  refine (encode_yes k d W HN.out h'.1 h'.2).mono ?_
  rintro _ w1 ⟨rfl, hb1⟩
  have HB1 := hidM (HB.out.trans (hb1.mono (Nat.le_of_lt hlt.out)))
  have HZ1 : Hid (w.heap.size ≤ w1.heap.size) := Nat.le_trans (Nat.le_of_lt hlt.out) hb1.size
  clear hb1 hlt HN HB h h'
  have HD : Hid ((⟨(encL k d.data.toList).toArray⟩ : ByteArray).data.toList = encL k d.data.toList) := rfl
  generalize (⟨(encL k d.data.toList).toArray⟩ : ByteArray) = T at *
  go_wp2_with fail
  refine (once1_any T w1 HS.out).mono ?_
  rintro _ w2 ⟨rfl, hb2⟩
  have HB2 := hidM (two_le HB1.out hb2 HZ1.out)
  have HZ2 : Hid (w.heap.size ≤ w2.heap.size) := Nat.le_trans HZ1.out hb2.size
  have HS2 : Hid ((⟨(sha1L T.data.toList).toArray⟩ : ByteArray).size ≤ 1048576) := by
    unfold Hid; show (sha1L T.data.toList).toArray.size ≤ _; rw [List.size_toArray, sha1L_len]; decide
  have HD2 : Hid ((⟨(sha1L T.data.toList).toArray⟩ : ByteArray).data.toList = sha1L (encL k d.data.toList)) := by unfold Hid; rw [HD.out]
  clear hb2
  generalize (⟨(sha1L T.data.toList).toArray⟩ : ByteArray) = S at *
  go_wp2_with fail
  refine (hex_any S w2 HS2.out).mono ?_
  rintro _ w3 ⟨rfl, hb3⟩
  have HB3 := hidM (two_le HB2.out hb3 HZ2.out)
  clear hb3
  rw [HD2.out]
  go_wp2
  go_ret2
  exact ⟨rfl, HB3.out⟩

theorem id_any (k : Int) (d : ByteArray) (w : World) (hL : LaidAt w) :
    Calls Tryd.prog 29 #[.agg #[.int .i64 k, .string d]] w fun e w' => e = .returned (.tuple #[.string ⟨(idT k d.data.toList).toArray⟩, .int .i64 (checkE k d.size : Nat)]) ∧ Below w.heap.size w w' := by
  have hl : d.data.toList.length = d.size := by simp
  by_cases h : checkE k d.size = 0
  · refine (id_yes k d w hL h).mono fun e w' ⟨he, hb⟩ => ⟨?_, hb⟩
    rw [he, h]; unfold idT; rw [if_pos (by rw [hl]; exact h)]; rfl
  · refine (id_no k d w hL h).mono fun e w' ⟨he, hb⟩ => ⟨?_, hb⟩
    rw [he]; unfold idT; rw [if_neg (by rw [hl]; exact h)]

def emptyId : List UInt8 := [101, 54, 57, 100, 101, 50, 57, 98, 98, 50, 100, 49, 100, 54, 52, 51, 52, 98, 56, 98, 50, 57, 97, 101, 55, 55, 53, 97, 100, 56, 99, 50, 101, 52, 56, 99, 53, 51, 57, 49]
theorem blob_zero : checkE 3 0 = 0 := by decide
theorem blob_text : encL 3 [] = [98, 108, 111, 98, 32, 48, 0] := by
  unfold encL
  rw [show Lib.itoa ((([] : List UInt8).length : Nat) : Int) = [48] by simp [Lib.itoa, Lib.decDigits_one (i := 0) (by decide)]]
  decide
theorem blob_sum : hexL (sha1L [98, 108, 111, 98, 32, 48, 0]) = emptyId := by decide +kernel
theorem empty_id : idT 3 [] = emptyId := by
  unfold idT
  rw [if_pos (show checkE 3 ([] : List UInt8).length = 0 from blob_zero), blob_text, blob_sum]

set_option maxHeartbeats 3200000 in
theorem awake_any (w : World) (hL : LaidAt w) :
    Calls Tryd.prog 31 #[] w fun e w' => e = .returned (.bool true) ∧ Below w.heap.size w w' := by
  have HL := hidM hL
  clear hL
  go_enter Tryd.func31, Tryd.ntmps31
  go_wp2_with fail
  refine (id_any 3 ⟨#[]⟩ w HL.out).mono ?_
  rintro _ w1 ⟨rfl, hb1⟩
  have HB1 := hidM hb1
  clear hb1
  rw [show idT 3 (⟨#[]⟩ : ByteArray).data.toList = emptyId from empty_id, show checkE 3 (⟨#[]⟩ : ByteArray).size = 0 from blob_zero]
  unfold emptyId
  go_wp2
  go_ret
  exact ⟨rfl, HB1.out⟩
end Go.Proofs.YtolohndbbnbfbaaDoor
