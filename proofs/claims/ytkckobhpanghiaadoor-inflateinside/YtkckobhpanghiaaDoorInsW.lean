/-
  The law InflateInside, walked.
-/
import Derived.Test.YtkckobhpanghiaaDoorDef
namespace Go.Proofs.YtkckobhpanghiaaDoor
open Go.RowKit

set_option maxHeartbeats 2000000 in
set_option maxRecDepth 100000 in
theorem inside_walk (front s back : ByteArray) (w : World) (hG : GOk w) :
    Calls Tryd.prog 5 #[.string front, .string s, .string back] w fun e w' => e = .returned (.bool true) ∧ Below w.heap.size w w' := by
  have HG := hidM hG
  clear hG
  go_enter Tryd.func5, Tryd.ntmps5
  go_wp2_with fail
  refine (fewS_any front 1500 w).mono ?_
  rintro _ w0 ⟨⟨F, rfl, hF, _⟩, h0⟩
  rw [h0]
  clear h0 w0
  go_wp2_with fail
  refine (fewS_any s 1500 w).mono ?_
  rintro _ w0 ⟨⟨S, rfl, hS, _⟩, h0⟩
  rw [h0]
  clear h0 w0
  go_wp2_with fail
  refine (deflate_any S w (by omega)).mono ?_
  rintro _ w1 ⟨⟨Z, rfl, hTe, hZs⟩, hb1⟩
  have HTE := hidM hTe
  have HB1 := hidM hb1
  have HG1 := hidM (HG.out.below hb1)
  clear hTe hb1
  have hz2 : Z.size ≤ 1505 := by omega
  have hfz : F.size + Z.size ≤ 3005 := by omega
  go_wp2_with fail
  refine (fewS_any back 1500 w1).mono ?_
  rintro _ w0 ⟨⟨K, rfl, hK, _⟩, h0⟩
  rw [h0]
  clear h0 w0
  generalize hQ : (F ++ Z : ByteArray) = Q at *
  have hqs : Q.size ≤ 3005 := by rw [← hQ, ByteArray.size_append]; exact hfz
  have HQ : Hid (Q.data.toList = F.data.toList ++ Z.data.toList) := by unfold Hid; rw [← hQ, str_add]
  clear hQ
  have hls : Q.size + K.size ≤ 4505 := by omega
  have HX : Hid ((Q ++ K : ByteArray).size ≤ 4505) := by unfold Hid; rw [ByteArray.size_append]; omega
  have HXL : Hid ((Q ++ K : ByteArray).data.toList.drop F.size = Z.data.toList ++ K.data.toList) := by
    unfold Hid
    rw [str_add, HQ.out, List.append_assoc, List.drop_append_of_le_length (by rw [Array.length_toList]; exact Nat.le_refl _), List.drop_of_length_le (by rw [Array.length_toList]; exact Nat.le_refl _), List.nil_append]
  have HXN : Hid (F.size ≤ (Q ++ K : ByteArray).data.toList.length) := by
    unfold Hid
    rw [str_add, HQ.out, List.length_append, List.length_append, Array.length_toList]
    show F.size ≤ _
    have : F.data.size = F.size := rfl
    omega
  go_wp2_with fail
  generalize (Q ++ K : ByteArray) = X at *
  refine (inflate_any X (F.size : Int) 4000 w1 (by have := HX.out; omega) HG1.out.1 HG1.out.2).mono ?_
  rintro _ w2 ⟨⟨r, hq, rfl⟩, hb2⟩
  obtain ⟨t, ht, hrun⟩ := HTE.out.app K.data.toList
  have hSl : S.data.toList.length = S.size := Array.length_toList
  have hZl : Z.data.toList.length = Z.size := Array.length_toList
  have h1 := InfQ.run (A := F.size) (M := 4000) hq HXN.out (by decide) (by rw [HXL.out]; exact hrun 4000 (by rw [hSl]; omega))
  rw [ht, hZl] at h1
  subst h1
  have HSE : Hid ((⟨S.data.toList.toArray⟩ : ByteArray) = S) := by unfold Hid; cases S; rfl
  have HB2 : Hid (Below w.heap.size w w2) := HB1.out.trans (hb2.mono HB1.out.size)
  have HG2 := hidM (HG1.out.below hb2)
  clear hq hb2 hrun ht hSl hZl HTE
  simp only [HSE.out]
  go_wp2_with fail
  refine (awake_any w2 HG2.out).mono ?_
  rintro _ w3 ⟨rfl, hb3⟩
  have HB3 : Hid (Below w.heap.size w w3) := HB2.out.trans (hb3.mono HB2.out.size)
  clear hb3
  go_wp2
  go_ret
  exact ⟨rfl, HB3.out⟩
end Go.Proofs.YtkckobhpanghiaaDoor
