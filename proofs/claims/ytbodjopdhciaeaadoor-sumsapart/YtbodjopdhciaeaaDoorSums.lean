/-
  SumsSums and SumsNumbers, the walks: the laws return true where the table lies.
-/
import Derived.Test.YtbodjopdhciaeaaDoorBack
namespace Go.Proofs.YtbodjopdhciaeaaDoor
open Go.RowKit

/-! ### a number hangs on its last eight bytes -/
def valB (x : Nat) (l : List UInt8) : Nat := l.foldl (fun x c => x * 256 + c.toNat) x
theorem foldB_val (l : List UInt8) : ∀ x, l.foldl (fun x c => (x * 256 + c.toNat) % M64) (x % M64) = valB x l % M64 := by
  induction l with
  | nil => intro x; rfl
  | cons c l ih =>
    intro x
    have e : (x % M64 * 256 + c.toNat) % M64 = (x * 256 + c.toNat) % M64 := by unfold M64; omega
    show l.foldl (fun x c => (x * 256 + c.toNat) % M64) ((x % M64 * 256 + c.toNat) % M64) = _
    rw [e, ih]
    rfl
theorem numB_val (l : List UInt8) : numB l = valB 0 l % M64 := foldB_val l 0
theorem valB_off (l : List UInt8) : ∀ x, valB x l = x * 256 ^ l.length + valB 0 l := by
  induction l with
  | nil => intro x; simp [valB]
  | cons c l ih =>
    intro x
    show valB (x * 256 + c.toNat) l = x * 256 ^ (l.length + 1) + valB (0 * 256 + c.toNat) l
    rw [ih, ih (0 * 256 + c.toNat), Nat.pow_succ]
    rw [Nat.add_mul, Nat.zero_mul, Nat.zero_add, Nat.mul_assoc, Nat.mul_comm 256, Nat.add_assoc]
theorem valB_app (p q : List UInt8) : valB 0 (p ++ q) = valB 0 p * 256 ^ q.length + valB 0 q := by
  rw [← valB_off q (valB 0 p)]
  simp [valB, List.foldl_append]
theorem numB_last (l : List UInt8) (h : 8 ≤ l.length) : numB (l.drop (l.length - 8)) = numB l := by
  have e : l = l.take (l.length - 8) ++ l.drop (l.length - 8) := (List.take_append_drop _ _).symm
  rw [numB_val, numB_val l]
  conv => rhs; rw [e, valB_app]
  have hl : (l.drop (l.length - 8)).length = 8 := by simp; omega
  rw [hl]
  unfold M64
  omega

/-! ### either way, whatever n up to 64 -/
theorem big_int (x : Nat) (n : Int) (w : World) (h : n ≤ 64) :
    Calls Tryd.prog 27 #[.int .u64 x, .int .i64 n] w fun e w' => e = .returned (.string ⟨(bigL x n.toNat).toArray⟩) ∧ Below w.heap.size w w' := by
  by_cases h0 : n < 1
  · refine (big_none x n w h0).mono ?_
    rintro e w' ⟨rfl, rfl⟩
    rw [show n.toNat = 0 by omega]
    exact ⟨rfl, Below.refl _ _⟩
  · obtain ⟨m, rfl⟩ := Int.eq_ofNat_of_zero_le (show 0 ≤ n by omega)
    rw [Int.toNat_natCast]
    exact big_any x m w (by omega) (by omega)
theorem little_int (x : Nat) (n : Int) (w : World) (h : n ≤ 64) :
    Calls Tryd.prog 29 #[.int .u64 x, .int .i64 n] w fun e w' => e = .returned (.string ⟨(littleL x n.toNat).toArray⟩) ∧ Below w.heap.size w w' := by
  by_cases h0 : n < 1
  · refine (little_none x n w h0).mono ?_
    rintro e w' ⟨rfl, rfl⟩
    rw [show n.toNat = 0 by omega]
    exact ⟨rfl, Below.refl _ _⟩
  · obtain ⟨m, rfl⟩ := Int.eq_ofNat_of_zero_le (show 0 ≤ n by omega)
    rw [Int.toNat_natCast]
    exact little_any x m w (by omega) (by omega)
theorem rbig_int (x : Nat) (n : Int) (w : World) (hx : x < M64) (h : n ≤ 64) :
    Calls Tryd.prog 28 #[.int .u64 x, .int .i64 n] w fun e w' => e = .returned (.string ⟨(bigL x n.toNat).toArray⟩) ∧ Below w.heap.size w w' := by
  by_cases h0 : n < 1
  · have := rbig_none x n w h0
    rw [show n.toNat = 0 by omega]
    exact this
  · obtain ⟨m, rfl⟩ := Int.eq_ofNat_of_zero_le (show 0 ≤ n by omega)
    rw [Int.toNat_natCast]
    exact rbig_any x m w hx (by omega)
theorem rlittle_int (x : Nat) (n : Int) (w : World) (hx : x < M64) (h : n ≤ 64) :
    Calls Tryd.prog 30 #[.int .u64 x, .int .i64 n] w fun e w' => e = .returned (.string ⟨(littleL x n.toNat).toArray⟩) ∧ Below w.heap.size w w' := by
  by_cases h0 : n < 1
  · have := rlittle_none x n w h0
    rw [show n.toNat = 0 by omega]
    exact this
  · obtain ⟨m, rfl⟩ := Int.eq_ofNat_of_zero_le (show 0 ≤ n by omega)
    rw [Int.toNat_natCast]
    exact rlittle_any x m w hx (by omega)

set_option maxHeartbeats 800000 in
theorem sums_walk (s : ByteArray) (w : World) (ht : Tab w) :
    Calls Tryd.prog 3 #[.string s] w fun e w' => e = .returned (.bool true) ∧ Below w.heap.size w w' := by
  have HT := hidM ht
  clear ht
  go_enter Tryd.func3, Tryd.ntmps3
  go_wp2_with fail
  refine (few_any s 2000 w).mono ?_
  rintro e w0 ⟨⟨t, rfl, h1, h2⟩, rfl⟩
  clear h2
  go_wp2_with fail
  refine (awake_any w0 HT.out).mono ?_
  rintro e w1 ⟨rfl, hb1⟩
  have HB1 := hidM hb1
  clear hb1
  go_wp2_with fail
  refine (crc32_any t w1 (by unfold maxLen; omega) (HT.out.below HB1.out)).mono ?_
  rintro e w2 ⟨rfl, hb2⟩
  have HB2 : Hid (Below w0.heap.size w0 w2) := HB1.out.trans (hb2.mono HB1.out.size)
  clear hb2
  go_wp2_with fail
  refine (rcrc_any t w2 (by unfold maxLen; omega)).mono ?_
  rintro e w3 ⟨rfl, rfl⟩
  generalize crcW 0 t.data.toList = c
  go_wp2_with fail
  refine (adler32_any t w3 (by unfold maxLen; omega)).mono ?_
  rintro e w4 ⟨rfl, hb4⟩
  have HB4 : Hid (Below w0.heap.size w0 w4) := HB2.out.trans (hb4.mono HB2.out.size)
  clear hb4
  go_wp2_with fail
  refine (radler_any t w4 (by unfold maxLen; omega)).mono ?_
  rintro e w5 ⟨rfl, rfl⟩
  generalize adSum t.data.toList = d
  go_wp2
  go_ret
  exact ⟨rfl, HB4.out⟩
end Go.Proofs.YtbodjopdhciaeaaDoor
