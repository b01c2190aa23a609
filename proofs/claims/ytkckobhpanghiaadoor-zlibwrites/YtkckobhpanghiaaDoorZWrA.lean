/-
  Walks of zlib: Write; a frame is read within other bytes.
-/
import Derived.Test.YtkckobhpanghiaaDoorWriW
namespace Go.Proofs.YtkckobhpanghiaaDoor
open Go.RowKit

/-- a frame: head, a stream that tells s, the sum -/
def FrameOf (x s : List UInt8) : Prop := ∃ Z, Tells Z s ∧ Z.length ≤ 5 + s.length ∧ x = [120, 1] ++ Z ++ zsum s
theorem zsum_len (s : List UInt8) : (zsum s).length = 4 := by unfold zsum; rw [bigL_len]
set_option maxHeartbeats 1000000 in
set_option maxRecDepth 100000 in
theorem zwrite_any (s : ByteArray) (w : World) (hs : s.size ≤ 65535) :
    Calls Tryd.prog 26 #[.string s] w fun e w' => (∃ X : ByteArray, e = .returned (.string X) ∧ FrameOf X.data.toList s.data.toList ∧ X.size ≤ 11 + s.size ∧ 6 ≤ X.size) ∧ Below w.heap.size w w' := by
  have HLEN : Hid (s.data.toList.length = s.size) := Array.length_toList
  go_enter Tryd.func26, Tryd.ntmps26
  go_wp2_with fail
  refine (deflate_any s w hs).mono ?_
  rintro _ w1 ⟨⟨Z, rfl, hT, hzs⟩, hb1⟩
  have HB1 := hidM hb1
  have HT := hidM hT
  clear hb1 hT
  go_wp2_with fail
  refine (sumOf_any s w1 (by unfold maxLen; omega)).mono ?_
  rintro _ w2 ⟨rfl, hb2⟩
  have HB2 : Hid (Below w.heap.size w w2) := HB1.out.trans (hb2.mono HB1.out.size)
  clear hb2
  generalize hY : (⟨(zsum s.data.toList).toArray⟩ : ByteArray) = Y at *
  have HY : Hid (Y.data.toList = zsum s.data.toList) := by unfold Hid; rw [← hY]
  have hys : Y.size = 4 := by
    have : Y.data.toList.length = Y.size := Array.length_toList
    rw [← this, HY.out, zsum_len]
  have HYS := hidM hys
  have hys2 : Y.size ≤ 4 := by omega
  clear hY hys
  generalize hQ : (⟨#[120, 1]⟩ ++ Z : ByteArray) = Q at *
  have HQ : Hid (Q.data.toList = [120, 1] ++ Z.data.toList) := by unfold Hid; rw [← hQ, str_add]
  have HQS : Hid (Q.size = 2 + Z.size) := by unfold Hid; rw [← hQ, ByteArray.size_append]; rfl
  have hqs : Q.size ≤ 70002 := by have := HQS.out; omega
  clear hQ
  have hZl : Z.data.toList.length = Z.size := Array.length_toList
  have HF : Hid (FrameOf (Q ++ Y : ByteArray).data.toList s.data.toList) := ⟨Z.data.toList, HT.out, by rw [hZl, HLEN.out]; exact hzs, by rw [str_add, HQ.out, HY.out]⟩
  have HFS : Hid ((Q ++ Y : ByteArray).size ≤ 11 + s.size ∧ 6 ≤ (Q ++ Y : ByteArray).size) := by
    unfold Hid
    rw [ByteArray.size_append, HQS.out, HYS.out]
    omega
  clear hZl
  go_wp2
  go_ret
  exact ⟨⟨_, rfl, HF.out, HFS.out.1, HFS.out.2⟩, HB2.out⟩
/-- reading a frame within other bytes -/
theorem frame_read {front x s back : List UInt8} (h : FrameOf x s) {M : Nat} {r : List UInt8 × Nat × Nat} (hM : s.length ≤ M) (hM2 : M ≤ 65536) (hq : ZQ (front ++ (x ++ back)) (front.length : Int) (M : Int) r) : r = (s, x.length, 0) := by
  obtain ⟨Z, hT, _, rfl⟩ := h
  obtain ⟨t, ht, hrun⟩ := hT.app (zsum s ++ back)
  have hz := zsum_len s
  have hdrop : ∀ k, (front ++ (([120, 1] ++ Z ++ zsum s) ++ back)).drop (front.length + k) = (([120, 1] ++ Z ++ zsum s) ++ back).drop k := fun k => by rw [List.drop_append, List.drop_of_length_le (by omega), List.nil_append, show front.length + k - front.length = k by omega]
  have hlen : (front ++ (([120, 1] ++ Z ++ zsum s) ++ back)).length = front.length + (2 + Z.length + 4 + back.length) := by
    simp only [List.length_append, List.length_cons, List.length_nil, hz]
  have hg : ∀ k, (front ++ (([120, 1] ++ Z ++ zsum s) ++ back)).getD (front.length + k) 0 = (([120, 1] ++ Z ++ zsum s) ++ back).getD k 0 := fun k => by
    rw [List.getD_eq_getElem?_getD, List.getD_eq_getElem?_getD, List.getElem?_append_right (by omega), show front.length + k - front.length = k by omega]
  have h := ZQ.good (A := front.length) (M := M) (t := t) (o := s) hq (by omega) hM2
    (by have h0 := hg 0; have h1 := hg 1; rw [Nat.add_zero] at h0; rw [h0, h1]; exact (by decide +kernel : headB (UInt8.toNat 120) (UInt8.toNat 1) = true))
    (by
      rw [hdrop 2]
      have : ([120, 1] ++ Z ++ zsum s ++ back).drop 2 = Z ++ (zsum s ++ back) := by simp [List.append_assoc]
      rw [this]
      exact hrun M hM)
    (by omega)
    (by
      rw [ht, show front.length + 2 + Z.length = front.length + (2 + Z.length) by omega, hdrop]
      have : ([120, 1] ++ Z ++ zsum s ++ back).drop (2 + Z.length) = zsum s ++ back := by
        rw [List.append_assoc, List.drop_append, List.drop_of_length_le (by simp; omega), List.nil_append]
        simp only [List.length_append, List.length_cons, List.length_nil]
        rw [show 2 + Z.length - (0 + 1 + 1 + Z.length) = 0 by omega, List.drop_zero]
      rw [this, List.take_append_of_le_length (by omega), List.take_of_length_le (by omega)])
  rw [h, ht]
  simp only [List.length_append, List.length_cons, List.length_nil, hz]
  rw [show 0 + 1 + 1 + Z.length + 4 = Z.length + 6 by omega]
end Go.Proofs.YtkckobhpanghiaaDoor
