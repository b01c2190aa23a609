/-
  Walks: the document's Base64, by bits.
-/
import Derived.Test.YtbodjopdhciaeaaDoorWalkI
namespace Go.Proofs.YtbodjopdhciaeaaDoor
open Go.RowKit

/-- Bit k of a byte, the highest first. -/
def bitAt (c : UInt8) (i : Nat) : UInt8 := UInt8.ofNat (c.toNat / 2 ^ (7 - i) % 2)
def bits8 (c : UInt8) (n : Nat) : List UInt8 := (List.range n).map (bitAt c)
theorem bits8_succ (c : UInt8) (n : Nat) : bits8 c (n + 1) = bits8 c n ++ [bitAt c n] := by simp [bits8, List.range_succ]
theorem bits8_len (c : UInt8) (n : Nat) : (bits8 c n).length = n := by simp [bits8]
def bitsL (l : List UInt8) : List UInt8 := l.flatMap fun c => bits8 c 8
theorem bitsL_snoc (l : List UInt8) (c : UInt8) : bitsL (l ++ [c]) = bitsL l ++ bits8 c 8 := by simp [bitsL]
theorem bitsL_len (l : List UInt8) : (bitsL l).length = 8 * l.length := by
  induction l with
  | nil => rfl
  | cons c l ih => show (bits8 c 8 ++ bitsL l).length = _; rw [List.length_append, ih, bits8_len]; simp; omega
def numBits (l : List UInt8) : Nat := l.foldl (fun n b => 2 * n + b.toNat) 0
theorem numBits_snoc (l : List UInt8) (b : UInt8) : numBits (l ++ [b]) = 2 * numBits l + b.toNat := by simp [numBits]
theorem bitAt_nat (c : UInt8) (i : Nat) : (bitAt c i).toNat = c.toNat / 2 ^ (7 - i) % 2 := by
  unfold bitAt; simp; omega
/-- How many bits a group of n bytes has when it is filled up. -/
def fullB (n : Nat) : Nat := (8 * n + 5) / 6 * 6
def padB (g : List UInt8) : List UInt8 := bitsL g ++ List.replicate (fullB g.length - 8 * g.length) 0
theorem padB_len (g : List UInt8) : (padB g).length = fullB g.length := by
  unfold padB fullB; rw [List.length_append, bitsL_len, List.length_replicate]; omega
theorem num1 (a : UInt8) : gNum [a] = a.toNat * 65536 := by
  have := byte_lt a
  unfold gNum numB M64
  simp only [List.foldl_cons, List.foldl_nil, List.length_cons, List.length_nil]
  omega
theorem num2 (a b : UInt8) : gNum [a, b] = a.toNat * 65536 + b.toNat * 256 := by
  have := byte_lt a
  have := byte_lt b
  unfold gNum numB M64
  simp only [List.foldl_cons, List.foldl_nil, List.length_cons, List.length_nil]
  omega
theorem num3 (a b c : UInt8) : gNum [a, b, c] = a.toNat * 65536 + b.toNat * 256 + c.toNat := by
  have := byte_lt a
  have := byte_lt b
  have := byte_lt c
  unfold gNum numB M64
  simp only [List.foldl_cons, List.foldl_nil, List.length_cons, List.length_nil]
  omega
theorem pad1 (a : UInt8) : padB [a] = [bitAt a 0, bitAt a 1, bitAt a 2, bitAt a 3, bitAt a 4, bitAt a 5, bitAt a 6, bitAt a 7, 0, 0, 0, 0] := by
  simp [padB, bitsL, bits8, fullB, List.range, List.range.loop]
theorem pad2 (a b : UInt8) : padB [a, b] = [bitAt a 0, bitAt a 1, bitAt a 2, bitAt a 3, bitAt a 4, bitAt a 5, bitAt a 6, bitAt a 7, bitAt b 0, bitAt b 1, bitAt b 2, bitAt b 3, bitAt b 4, bitAt b 5, bitAt b 6, bitAt b 7, 0, 0] := by
  simp [padB, bitsL, bits8, fullB, List.range, List.range.loop]
theorem pad3 (a b c : UInt8) : padB [a, b, c] = [bitAt a 0, bitAt a 1, bitAt a 2, bitAt a 3, bitAt a 4, bitAt a 5, bitAt a 6, bitAt a 7, bitAt b 0, bitAt b 1, bitAt b 2, bitAt b 3, bitAt b 4, bitAt b 5, bitAt b 6, bitAt b 7, bitAt c 0, bitAt c 1, bitAt c 2, bitAt c 3, bitAt c 4, bitAt c 5, bitAt c 6, bitAt c 7] := by
  simp [padB, bitsL, bits8, fullB, List.range, List.range.loop]
theorem six6 (a b c d e f : UInt8) : numBits [a, b, c, d, e, f] = 2 * (2 * (2 * (2 * (2 * a.toNat + b.toNat) + c.toNat) + d.toNat) + e.toNat) + f.toNat := by
  simp [numBits]
theorem chunkA : ∀ n, n < 256 → 2 * (2 * (2 * (2 * (2 * (n / 2 ^ (7 - 0) % 2) + n / 2 ^ (7 - 1) % 2) + n / 2 ^ (7 - 2) % 2) + n / 2 ^ (7 - 3) % 2) + n / 2 ^ (7 - 4) % 2) + n / 2 ^ (7 - 5) % 2 = n / 4 := by decide +kernel
theorem chunkD : ∀ n, n < 256 → 2 * (2 * (2 * (2 * (2 * (n / 2 ^ (7 - 2) % 2) + n / 2 ^ (7 - 3) % 2) + n / 2 ^ (7 - 4) % 2) + n / 2 ^ (7 - 5) % 2) + n / 2 ^ (7 - 6) % 2) + n / 2 ^ (7 - 7) % 2 = n % 64 := by decide +kernel
theorem top4 : ∀ n, n < 256 → 2 * (2 * (2 * (n / 2 ^ (7 - 0) % 2) + n / 2 ^ (7 - 1) % 2) + n / 2 ^ (7 - 2) % 2) + n / 2 ^ (7 - 3) % 2 = n / 16 := by decide +kernel
theorem low2 : ∀ n, n < 256 → 2 * (n / 2 ^ (7 - 6) % 2) + n / 2 ^ (7 - 7) % 2 = n % 4 := by decide +kernel
theorem low4 : ∀ n, n < 256 → 2 * (2 * (2 * (n / 2 ^ (7 - 4) % 2) + n / 2 ^ (7 - 5) % 2) + n / 2 ^ (7 - 6) % 2) + n / 2 ^ (7 - 7) % 2 = n % 16 := by decide +kernel
theorem top2 : ∀ n, n < 256 → 2 * (n / 2 ^ (7 - 0) % 2) + n / 2 ^ (7 - 1) % 2 = n / 64 := by decide +kernel
theorem cA (a : UInt8) : numBits [bitAt a 0, bitAt a 1, bitAt a 2, bitAt a 3, bitAt a 4, bitAt a 5] = a.toNat / 4 := by
  rw [six6]; simp only [bitAt_nat]; exact chunkA _ (byte_lt a)
theorem cD (a : UInt8) : numBits [bitAt a 2, bitAt a 3, bitAt a 4, bitAt a 5, bitAt a 6, bitAt a 7] = a.toNat % 64 := by
  rw [six6]; simp only [bitAt_nat]; exact chunkD _ (byte_lt a)
theorem cB (a b : UInt8) : numBits [bitAt a 6, bitAt a 7, bitAt b 0, bitAt b 1, bitAt b 2, bitAt b 3] = a.toNat % 4 * 16 + b.toNat / 16 := by
  have h1 := low2 _ (byte_lt a)
  have h2 := top4 _ (byte_lt b)
  rw [six6]; simp only [bitAt_nat]
  generalize a.toNat / 2 ^ (7 - 6) % 2 = x1 at h1 h2 ⊢
  generalize a.toNat / 2 ^ (7 - 7) % 2 = x2 at h1 h2 ⊢
  generalize b.toNat / 2 ^ (7 - 0) % 2 = y1 at h1 h2 ⊢
  generalize b.toNat / 2 ^ (7 - 1) % 2 = y2 at h1 h2 ⊢
  generalize b.toNat / 2 ^ (7 - 2) % 2 = y3 at h1 h2 ⊢
  generalize b.toNat / 2 ^ (7 - 3) % 2 = y4 at h1 h2 ⊢
  omega
theorem cC (a b : UInt8) : numBits [bitAt a 4, bitAt a 5, bitAt a 6, bitAt a 7, bitAt b 0, bitAt b 1] = a.toNat % 16 * 4 + b.toNat / 64 := by
  have h1 := low4 _ (byte_lt a)
  have h2 := top2 _ (byte_lt b)
  rw [six6]; simp only [bitAt_nat]
  generalize a.toNat / 2 ^ (7 - 4) % 2 = x1 at h1 h2 ⊢
  generalize a.toNat / 2 ^ (7 - 5) % 2 = x2 at h1 h2 ⊢
  generalize a.toNat / 2 ^ (7 - 6) % 2 = x3 at h1 h2 ⊢
  generalize a.toNat / 2 ^ (7 - 7) % 2 = x4 at h1 h2 ⊢
  generalize b.toNat / 2 ^ (7 - 0) % 2 = y1 at h1 h2 ⊢
  generalize b.toNat / 2 ^ (7 - 1) % 2 = y2 at h1 h2 ⊢
  omega
theorem cB0 (a : UInt8) : numBits [bitAt a 6, bitAt a 7, 0, 0, 0, 0] = a.toNat % 4 * 16 := by
  have h1 := low2 _ (byte_lt a)
  rw [six6]; simp only [bitAt_nat]
  generalize a.toNat / 2 ^ (7 - 6) % 2 = x1 at h1 ⊢
  generalize a.toNat / 2 ^ (7 - 7) % 2 = x2 at h1 ⊢
  show 2 * (2 * (2 * (2 * (2 * x1 + x2) + 0) + 0) + 0) + 0 = _
  rw [← h1]; omega
theorem cC0 (a : UInt8) : numBits [bitAt a 4, bitAt a 5, bitAt a 6, bitAt a 7, 0, 0] = a.toNat % 16 * 4 := by
  have h1 := low4 _ (byte_lt a)
  rw [six6]; simp only [bitAt_nat]
  generalize a.toNat / 2 ^ (7 - 4) % 2 = x1 at h1 ⊢
  generalize a.toNat / 2 ^ (7 - 5) % 2 = x2 at h1 ⊢
  generalize a.toNat / 2 ^ (7 - 6) % 2 = x3 at h1 ⊢
  generalize a.toNat / 2 ^ (7 - 7) % 2 = x4 at h1 ⊢
  show 2 * (2 * (2 * (2 * (2 * x1 + x2) + x3) + x4) + 0) + 0 = _
  rw [← h1]; omega
theorem six1 (g : List UInt8) (h1 : 1 ≤ g.length) (h2 : g.length ≤ 3) (q : Nat) (hq : 6 * q < fullB g.length) :
    numBits (((padB g).drop (6 * q)).take 6) = gNum g / 2 ^ (18 - 6 * q) % 64 := by
  match g, h1, h2, hq with
  | [a], _, _, hq =>
    have ha := byte_lt a
    have h12 : 6 * q < 12 := by simpa [fullB] using hq
    rw [pad1, num1]
    rcases (by omega : q = 0 ∨ q = 1) with rfl | rfl
    · show numBits [_, _, _, _, _, _] = _
      rw [cA]; omega
    · show numBits [_, _, _, _, _, _] = _
      rw [cB0]; omega
  | [a, b], _, _, hq =>
    have ha := byte_lt a
    have hb := byte_lt b
    have h12 : 6 * q < 18 := by simpa [fullB] using hq
    rw [pad2, num2]
    rcases (by omega : q = 0 ∨ q = 1 ∨ q = 2) with rfl | rfl | rfl
    · show numBits [_, _, _, _, _, _] = _
      rw [cA]; omega
    · show numBits [_, _, _, _, _, _] = _
      rw [cB]; omega
    · show numBits [_, _, _, _, _, _] = _
      rw [cC0]; omega
  | [a, b, c], _, _, hq =>
    have ha := byte_lt a
    have hb := byte_lt b
    have hc := byte_lt c
    have h12 : 6 * q < 24 := by simpa [fullB] using hq
    rw [pad3, num3]
    rcases (by omega : q = 0 ∨ q = 1 ∨ q = 2 ∨ q = 3) with rfl | rfl | rfl | rfl
    · show numBits [_, _, _, _, _, _] = _
      rw [cA]; omega
    · show numBits [_, _, _, _, _, _] = _
      rw [cB]; omega
    · show numBits [_, _, _, _, _, _] = _
      rw [cC]; omega
    · show numBits [_, _, _, _, _, _] = _
      rw [cD]; omega
end Go.Proofs.YtbodjopdhciaeaaDoor
