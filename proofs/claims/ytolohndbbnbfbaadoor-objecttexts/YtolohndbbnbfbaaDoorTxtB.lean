/-
  ObjectTexts: the walk.
-/
import Derived.Test.YtolohndbbnbfbaaDoorTxtA
import Derived.Test.YtolohndbbnbfbaaDoorEncM
namespace Go.Proofs.YtolohndbbnbfbaaDoor
open Go.RowKit

theorem encL_len (k : Int) (d : List UInt8) (hd : d.length ≤ 65000) : (encL k d).length ≤ 65100 := by
  unfold encL
  have h1 := nameL_len k
  have h2 := Lib.itoa_length_le (d.length : Nat) (by omega) (by omega)
  simp only [List.length_append, List.length_cons, List.length_nil]
  omega
set_option maxHeartbeats 3200000 in
theorem rid_any (k : Int) (d : ByteArray) (w : World) (hd : d.size ≤ 65000) :
    Calls Tryd.prog 37 #[.agg #[.int .i64 k, .string d]] w fun e w' => e = .returned (.string ⟨(hexL (sha1L (encL k d.data.toList))).toArray⟩) ∧ Below w.heap.size w w' := by
  have HB : Hid (Below w.heap.size w (w.alloc (.cells #[.int .i64 k, .string d] 52))) := (Below.refl _ _).alloc (Nat.le_refl _) _
  have HTX := hidM (fun W => rtext_any k d W hd)
  have HS : Hid ((⟨(encL k d.data.toList).toArray⟩ : ByteArray).size ≤ 1000000) := by
    unfold Hid
    show (encL k d.data.toList).toArray.size ≤ _
    rw [List.size_toArray]
    have := encL_len k d.data.toList (by simpa using hd)
    omega
  have HSS := hidM (fun W => rsum1_any ⟨(encL k d.data.toList).toArray⟩ W HS.out)
  have HH2 : Hid ((⟨(sha1L (⟨(encL k d.data.toList).toArray⟩ : ByteArray).data.toList).toArray⟩ : ByteArray).size ≤ 1048576) := by
    unfold Hid; show (sha1L _).toArray.size ≤ _; rw [List.size_toArray, sha1L_len]; decide
  have HHX := hidM (fun W => rhex_any ⟨(sha1L (⟨(encL k d.data.toList).toArray⟩ : ByteArray).data.toList).toArray⟩ W HH2.out)
  have HX : Hid ((⟨(hexL (⟨(sha1L (⟨(encL k d.data.toList).toArray⟩ : ByteArray).data.toList).toArray⟩ : ByteArray).data.toList).toArray⟩ : ByteArray) = ⟨(hexL (sha1L (encL k d.data.toList))).toArray⟩) := rfl
  rw [HX.out] at HHX
  clear HX HS HH2
  generalize (⟨(hexL (sha1L (encL k d.data.toList))).toArray⟩ : ByteArray) = R at *
  generalize (⟨(sha1L (⟨(encL k d.data.toList).toArray⟩ : ByteArray).data.toList).toArray⟩ : ByteArray) = S at *
  generalize (⟨(encL k d.data.toList).toArray⟩ : ByteArray) = T at *
  go_enter Tryd.func37, Tryd.ntmps37
  go_wp2_with fail
  generalize w.alloc (.cells #[.int .i64 k, .string d] 52) = W at *
  refine (HTX.out _).mono ?_
  rintro _ w1 ⟨rfl, hb1⟩
  have HB1 := hidM (two_le HB.out hb1 HB.out.size)
  clear hb1
  go_wp2_with fail
  refine (HSS.out _).mono ?_
  rintro _ w2 ⟨rfl, hb2⟩
  have HB2 := hidM (two_le HB1.out hb2 HB1.out.size)
  clear hb2
  go_wp2_with fail
  refine (HHX.out _).mono ?_
  rintro _ w3 ⟨rfl, hb3⟩
  have HB3 := hidM (two_le HB2.out hb3 HB2.out.size)
  clear hb3
  go_wp2_with fail
  go_ret
  exact ⟨rfl, HB3.out⟩
end Go.Proofs.YtolohndbbnbfbaaDoor
