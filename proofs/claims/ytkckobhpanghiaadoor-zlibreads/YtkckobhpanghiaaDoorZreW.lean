/-
  The law ZlibReads, walked.
-/
import Derived.Test.YtkckobhpanghiaaDoorZrdA
import Derived.Test.YtkckobhpanghiaaDoorStoB
namespace Go.Proofs.YtkckobhpanghiaaDoor
open Go.RowKit

theorem ZQ.one {l : List UInt8} {a m : Int} {r r' : List UInt8 × Nat × Nat} (h : ZQ l a m r) (h' : ZQ l a m r') : r = r' := by
  rcases h with ⟨h1, rfl⟩ | ⟨A, M, rfl, rfl, hA, hM, h⟩
  · rcases h' with ⟨_, rfl⟩ | ⟨A, M, rfl, rfl, hA, hM, _⟩
    · rfl
    · omega
  · rcases h' with ⟨h1, _⟩ | ⟨A', M', hA', hM', _, _, h'⟩
    · omega
    · obtain rfl : A = A' := by omega
      obtain rfl : M = M' := by omega
      rcases h with ⟨h1, rfl⟩ | ⟨h1, h2, rfl⟩ | ⟨h1, h2, o, n, e, h3, h4⟩
      · rcases h' with ⟨_, rfl⟩ | ⟨g1, _, _⟩ | ⟨g1, _, _⟩
        · rfl
        · omega
        · omega
      · rcases h' with ⟨g1, _⟩ | ⟨_, _, rfl⟩ | ⟨_, g2, _⟩
        · omega
        · rfl
        · rw [h2] at g2; cases g2
      · rcases h' with ⟨g1, _⟩ | ⟨_, g2, _⟩ | ⟨_, _, o', n', e', g3, g4⟩
        · omega
        · rw [h2] at g2; cases g2
        · have hone := h3.one g3
          simp only [Prod.mk.injEq] at hone
          obtain ⟨rfl, rfl, rfl⟩ := hone
          rcases h4 with ⟨k1, rfl⟩ | ⟨k1, k2, rfl⟩ | ⟨k1, k2, k3, rfl⟩ | ⟨k1, k2, k3, rfl⟩ <;> rcases g4 with ⟨j1, rfl⟩ | ⟨j1, j2, rfl⟩ | ⟨j1, j2, j3, rfl⟩ | ⟨j1, j2, j3, rfl⟩ <;> first | rfl | omega | exact absurd k3 j3 | exact absurd j3 k3
set_option maxHeartbeats 4000000 in
set_option maxRecDepth 100000 in
theorem zlibReads_nat (s : ByteArray) (a m : Int) (x y : Nat) (w : World) (hx : x < 256) (hy : y < 256) (hG : GOk w) :
    Calls Tryd.prog 9 #[.string s, .int .i64 a, .int .i64 m, .int .u8 (x : Int), .int .u8 (y : Int)] w fun e w' => e = .returned (.bool true) ∧ Below w.heap.size w w' := by
  have HG := hidM hG
  clear hG
  go_enter Tryd.func9, Tryd.ntmps9
  go_wp2_with fail
  refine (fewS_any s 400 w).mono ?_
  rintro _ w0 ⟨⟨T, rfl, hT, _⟩, h0⟩
  rw [h0]
  clear h0 w0
  go_wp2_with fail
  refine (zread_any T a m w (by omega) HG.out).mono ?_
  rintro _ w1 ⟨⟨⟨o1, n1, e1⟩, hq1, rfl⟩, hb1⟩
  have HQ1 := hidM hq1
  have HB1 := hidM hb1
  have HG1 := hidM (HG.out.below hb1)
  clear hq1 hb1
  go_wp2_with fail
  refine (rzread_any T a m w1 (by omega)).mono ?_
  rintro _ w2 ⟨⟨⟨o2, n2, e2⟩, hq2, rfl⟩, hb2⟩
  have hone := HQ1.out.one hq2
  simp only [Prod.mk.injEq] at hone
  obtain ⟨rfl, rfl, rfl⟩ := hone
  have HB2 : Hid (Below w.heap.size w w2) := HB1.out.trans (hb2.mono HB1.out.size)
  have HG2 := hidM (HG1.out.below hb2)
  have HAW := hidM (awake6_any w2 HG2.out)
  have HEND : Hid (∀ w3, Below w2.heap.size w2 w3 → Below w.heap.size w w3) := fun w3 h => HB2.out.trans (h.mono HB2.out.size)
  clear hq2 hb2 HQ1 HB1 HG1 HB2 HG2 HG
  generalize (⟨o1.toArray⟩ : ByteArray) = O1 at *
  go_wp2_with fail
  refine HAW.out.mono ?_
  rintro _ w3 ⟨rfl, hb3⟩
  have HB3 := hidM (HEND.out w3 hb3)
  have HH := hidM (head_any x y w3 hx hy)
  have HR := hidM (rhead_any x y w3 hx hy)
  have v1 : IntKind.i64.wrap (x : Int) = (x : Int) := i64_small _ (by omega) (by omega)
  have v2 : IntKind.i64.wrap (y : Int) = (y : Int) := i64_small _ (by omega) (by omega)
  clear hb3 HAW HEND
  generalize headB x y = hd at *
  go_wp2_with fail
  refine HH.out.mono ?_
  rintro _ w0 ⟨rfl, h0⟩
  rw [h0]
  clear h0 w0
  go_wp2_with fail
  refine HR.out.mono ?_
  rintro _ w0 ⟨rfl, h0⟩
  rw [h0]
  clear h0 w0
  go_wp2
  go_ret
  exact ⟨rfl, HB3.out⟩
theorem zlibReads_walk (s : ByteArray) (a m x y : Int) (w : World) (hx : (Lit.int .u8 x).wf = true) (hy : (Lit.int .u8 y).wf = true) (hG : GOk w) :
    Calls Tryd.prog 9 #[.string s, .int .i64 a, .int .i64 m, .int .u8 x, .int .u8 y] w fun e w' => e = .returned (.bool true) ∧ Below w.heap.size w w' := by
  have bx := bounds_u8 hx
  have by' := bounds_u8 hy
  obtain ⟨x', rfl⟩ : ∃ x' : Nat, x = (x' : Int) := ⟨x.toNat, by omega⟩
  obtain ⟨y', rfl⟩ : ∃ y' : Nat, y = (y' : Int) := ⟨y.toNat, by omega⟩
  exact zlibReads_nat s a m x' y' w (by omega) (by omega) hG
end Go.Proofs.YtkckobhpanghiaaDoor
