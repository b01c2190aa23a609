/-
  The law InflateReads, walked.
-/
import Derived.Test.YtkckobhpanghiaaDoorRinM
import Derived.Test.YtkckobhpanghiaaDoorRinK
import Derived.Test.YtkckobhpanghiaaDoorInfL
namespace Go.Proofs.YtkckobhpanghiaaDoor
open Go.RowKit

theorem rinflate_any (s : ByteArray) (a m : Int) (w : World) (hs : s.size ≤ 100000) :
    Calls Tryd.prog 16 #[.string s, .int .i64 a, .int .i64 m] w fun e w' => InfPost s a m e ∧ Below w.heap.size w w' := rinflate_of dyn_any s a m w hs
theorem InfQ.one {l : List UInt8} {a m : Int} {r r' : List UInt8 × Nat × Nat} (h : InfQ l a m r) (h' : InfQ l a m r') : r = r' := by
  rcases h with ⟨h1, rfl⟩ | ⟨A, M, rfl, rfl, hA, hM, ⟨n, _, hr, rfl⟩ | ⟨t, o, hr, _, _, rfl⟩⟩
  · rcases h' with ⟨_, rfl⟩ | ⟨A, M, rfl, rfl, hA, hM, _⟩
    · rfl
    · omega
  · exact (h'.runBad hA hM hr).symm
  · exact (h'.run hA hM hr).symm
set_option maxHeartbeats 4000000 in
set_option maxRecDepth 100000 in
theorem inflateReads_walk (s : ByteArray) (a m : Int) (w : World) (hG : GOk w) :
    Calls Tryd.prog 3 #[.string s, .int .i64 a, .int .i64 m] w fun e w' => e = .returned (.bool true) ∧ Below w.heap.size w w' := by
  have HG := hidM hG
  clear hG
  go_enter Tryd.func3, Tryd.ntmps3
  go_wp2_with fail
  refine (fewS_any s 400 w).mono ?_
  rintro _ w0 ⟨⟨T, rfl, hT, _⟩, h0⟩
  rw [h0]
  clear h0 w0
  go_wp2_with fail
  refine (inflate_any T a m w (by omega) HG.out.1 HG.out.2).mono ?_
  rintro _ w1 ⟨⟨⟨o1, n1, e1⟩, hq1, rfl⟩, hb1⟩
  have HQ1 := hidM hq1
  have HB1 := hidM hb1
  have HG1 := hidM (HG.out.below hb1)
  clear hq1 hb1
  go_wp2_with fail
  refine (rinflate_any T a m w1 (by omega)).mono ?_
  rintro _ w2 ⟨⟨⟨o2, n2, e2⟩, hq2, rfl⟩, hb2⟩
  have hone := HQ1.out.one hq2
  simp only [Prod.mk.injEq] at hone
  obtain ⟨rfl, rfl, rfl⟩ := hone
  have HB2 : Hid (Below w.heap.size w w2) := HB1.out.trans (hb2.mono HB1.out.size)
  have HG2 := hidM (HG1.out.below hb2)
  have HAW := hidM (awake_any w2 HG2.out)
  have HEND : Hid (∀ w3, Below w2.heap.size w2 w3 → Below w.heap.size w w3) := fun w3 h => HB2.out.trans (h.mono HB2.out.size)
  clear hq2 hb2 HQ1 HB1 HG1 HB2 HG2 HG
  generalize (⟨o1.toArray⟩ : ByteArray) = O1 at *
  go_wp2_with fail
  refine HAW.out.mono ?_
  rintro _ w3 ⟨rfl, hb3⟩
  have HB3 := hidM (HEND.out w3 hb3)
  clear hb3 HAW HEND
  go_wp2
  go_ret
  exact ⟨rfl, HB3.out⟩
end Go.Proofs.YtkckobhpanghiaaDoor
