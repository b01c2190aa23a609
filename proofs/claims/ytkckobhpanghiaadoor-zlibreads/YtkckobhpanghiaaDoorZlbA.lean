/-
  Walks of zlib: heads, the sum of a frame.
-/
import Derived.Test.YtkckobhpanghiaaDoorZSum
import Derived.Test.YtkckobhpanghiaaDoorInfL
namespace Go.Proofs.YtkckobhpanghiaaDoor
open Go.RowKit

def headB (a b : Nat) : Bool := decide (a % 16 = 8 ∧ a / 16 ≤ 7 ∧ (256 * a + b) % 31 = 0 ∧ b / 32 % 2 = 0)
theorem and_15 (a : Nat) (h : a < 256) : bits .and .u8 (a : Int) 15 = ((a % 16 : Nat) : Int) := by
  have : ∀ y : Fin 256, bits .and .u8 ((y.val : Nat) : Int) 15 = ((y.val % 16 : Nat) : Int) := by decide +kernel
  exact this ⟨a, h⟩
theorem and_32 (a : Nat) (h : a < 256) : bits .and .u8 (a : Int) 32 = ((32 * (a / 32 % 2) : Nat) : Int) := by
  have : ∀ y : Fin 256, bits .and .u8 ((y.val : Nat) : Int) 32 = ((32 * (y.val / 32 % 2) : Nat) : Int) := by decide +kernel
  exact this ⟨a, h⟩
set_option maxHeartbeats 1000000 in
set_option maxRecDepth 100000 in
theorem head_any (a b : Nat) (w : World) (ha : a < 256) (hb : b < 256) :
    Calls Tryd.prog 24 #[.int .u8 (a : Int), .int .u8 (b : Int)] w fun e w' => e = .returned (.bool (headB a b)) ∧ w' = w := by
  have e1 := and_15 a ha
  have e2 := and_32 b hb
  obtain ⟨x, hx⟩ : ∃ x, x = a % 16 := ⟨_, rfl⟩
  obtain ⟨y, hy⟩ : ∃ y, y = a / 16 := ⟨_, rfl⟩
  obtain ⟨q, hq⟩ : ∃ q, q = 256 * a + b := ⟨_, rfl⟩
  obtain ⟨m, hm⟩ : ∃ m, m = q % 31 := ⟨_, rfl⟩
  obtain ⟨z, hz⟩ : ∃ z, z = 32 * (b / 32 % 2) := ⟨_, rfl⟩
  have HB : Hid (headB a b = decide (x = 8 ∧ y ≤ 7 ∧ m = 0 ∧ z = 0)) := by
    unfold Hid headB
    rw [← hx, ← hy, ← hq, ← hm]
    congr 1
    have : (b / 32 % 2 = 0) ↔ z = 0 := by omega
    simp only [this]
  have e3 : (a : Int) / 16 = (y : Int) := by omega
  have e4 : (256 : Int) * (a : Int) + (b : Int) = (q : Int) := by omega
  have e5 : (q : Int) % 31 = (m : Int) := by omega
  have e6 : (q : Int).tmod 31 = (m : Int) := by rw [Int.tmod_eq_emod_of_nonneg (by omega)]; exact e5
  rw [← hx] at e1
  rw [← hz] at e2
  have b1 : q < 100000 := by omega
  have b2 : y < 256 := by omega
  clear hx hy hq hm hz
  go_enter Tryd.func24, Tryd.ntmps24
  by_cases k1 : x = 8
  · have j1 : ((x : Int) == 8) = true := by simp; omega
    by_cases k2 : y ≤ 7
    · have j2 : (y : Int) ≤ 7 := by omega
      by_cases k3 : m = 0
      · have j3 : ((m : Int) == 0) = true := by simp; omega
        by_cases k4 : z = 0
        · have j4 : ((z : Int) == 0) = true := by simp; omega
          have HT : Hid (headB a b = true) := by unfold Hid; rw [HB.out]; exact decide_eq_true ⟨k1, k2, k3, k4⟩
          clear k1 k2 k3 k4 HB
          go_wp2
          go_ret
          exact ⟨by rw [HT.out]; rfl, rfl⟩
        · have j4 : ((z : Int) == 0) = false := by simp; omega
          have HT : Hid (headB a b = false) := by unfold Hid; rw [HB.out]; exact decide_eq_false (fun h => k4 h.2.2.2)
          clear k1 k2 k3 k4 HB
          go_wp2
          go_ret
          exact ⟨by rw [HT.out]; rfl, rfl⟩
      · have j3 : ((m : Int) == 0) = false := by simp; omega
        have HT : Hid (headB a b = false) := by unfold Hid; rw [HB.out]; exact decide_eq_false (fun h => k3 h.2.2.1)
        clear k1 k2 k3 HB
        go_wp2
        go_ret
        exact ⟨by rw [HT.out]; rfl, rfl⟩
    · have j2 : ¬ (y : Int) ≤ 7 := by omega
      have HT : Hid (headB a b = false) := by unfold Hid; rw [HB.out]; exact decide_eq_false (fun h => k2 h.2.1)
      clear k1 k2 HB
      go_wp2
      go_ret
      exact ⟨by rw [HT.out]; rfl, rfl⟩
  · have j1 : ((x : Int) == 8) = false := by simp; omega
    have HT : Hid (headB a b = false) := by unfold Hid; rw [HB.out]; exact decide_eq_false (fun h => k1 h.1)
    clear k1 HB
    go_wp2
    go_ret
    exact ⟨by rw [HT.out]; rfl, rfl⟩
/-- a text's sum as a frame has it -/
def zsum (l : List UInt8) : List UInt8 := bigL (adSum l) 4
theorem adSum_lt (l : List UInt8) : adSum l < 4294967296 := by
  have h := adR_lt l (1, 0) (by decide) (by decide)
  unfold adSum
  omega
set_option maxHeartbeats 400000 in
set_option maxRecDepth 100000 in
theorem sumOf_any (s : ByteArray) (w : World) (hs : s.size ≤ maxLen) :
    Calls Tryd.prog 43 #[.string s] w fun e w' => e = .returned (.string ⟨(zsum s.data.toList).toArray⟩) ∧ Below w.heap.size w w' := by
  have hlt := adSum_lt s.data.toList
  have HZ : Hid (zsum s.data.toList = bigL (adSum s.data.toList) 4) := rfl
  go_enter Tryd.func43, Tryd.ntmps43
  go_wp2_with fail
  refine (adler32_any s w hs).mono ?_
  rintro _ w1 ⟨rfl, hb⟩
  generalize adSum s.data.toList = S at *
  have HB := hidM hb
  clear hb
  have ew : IntKind.u64.wrap (S : Int) = (S : Int) := by rw [u64_wrap]; omega
  go_wp2_with fail
  refine (big_any S 4 w1 (by decide) (by decide)).mono ?_
  rintro _ w2 ⟨rfl, hb⟩
  have HB2 : Hid (Below w.heap.size w w2) := HB.out.trans (hb.mono HB.out.size)
  clear hb
  go_wp2
  go_ret
  exact ⟨by rw [HZ.out]; rfl, HB2.out⟩
end Go.Proofs.YtkckobhpanghiaaDoor
