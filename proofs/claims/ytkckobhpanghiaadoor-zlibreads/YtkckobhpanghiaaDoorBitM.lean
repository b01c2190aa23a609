/-
  Plain mathematics of bits: a row of bytes as one number, the lowest byte first; the bits from a place on.
-/
import Derived.WalkKit
namespace Go.Proofs.YtkckobhpanghiaaDoor

def le : List UInt8 → Nat
  | [] => 0
  | b :: l => b.toNat + 256 * le l
theorem byte_lt (b : UInt8) : b.toNat < 256 := b.toNat_lt
theorem le_lt : ∀ l : List UInt8, le l < 256 ^ l.length
  | [] => by simp [le]
  | b :: l => by
    have := le_lt l
    have := byte_lt b
    rw [le, List.length_cons, Nat.pow_succ]
    omega
theorem le_app : ∀ l m : List UInt8, le (l ++ m) = le l + 256 ^ l.length * le m
  | [], m => by simp [le]
  | b :: l, m => by
    rw [List.cons_append, le, le, le_app l m, List.length_cons, Nat.pow_succ, Nat.mul_add, ← Nat.mul_assoc, Nat.mul_comm 256 (256 ^ l.length)]
    omega
theorem le_take (l : List UInt8) (k : Nat) : le (l.take k) = le l % 256 ^ k := by
  by_cases hk : k ≤ l.length
  · have h := le_app (l.take k) (l.drop k)
    rw [List.take_append_drop, List.length_take, Nat.min_eq_left hk] at h
    have h2 := le_lt (l.take k)
    rw [List.length_take, Nat.min_eq_left hk] at h2
    rw [h, Nat.add_mul_mod_self_left, Nat.mod_eq_of_lt h2]
  · rw [List.take_of_length_le (by omega), Nat.mod_eq_of_lt]
    exact Nat.lt_of_lt_of_le (le_lt l) (Nat.pow_le_pow_right (by decide) (by omega))
theorem le_drop (l : List UInt8) (k : Nat) : le (l.drop k) = le l / 256 ^ k := by
  by_cases hk : k ≤ l.length
  · have h := le_app (l.take k) (l.drop k)
    rw [List.take_append_drop, List.length_take, Nat.min_eq_left hk] at h
    have h2 := le_lt (l.take k)
    rw [List.length_take, Nat.min_eq_left hk] at h2
    rw [h, Nat.add_mul_div_left _ _ (Nat.pow_pos (by decide)), Nat.div_eq_of_lt h2, Nat.zero_add]
  · rw [List.drop_of_length_le (by omega), Nat.div_eq_of_lt]
    · rfl
    · exact Nat.lt_of_lt_of_le (le_lt l) (Nat.pow_le_pow_right (by decide) (by omega))
theorem le_snoc (l : List UInt8) (k : Nat) (h : k < l.length) : le (l.take (k + 1)) = le (l.take k) + 256 ^ k * l[k].toNat := by
  rw [List.take_succ_eq_append_getElem h, le_app, List.length_take, Nat.min_eq_left (by omega)]
  simp [le]
theorem pow256 (k : Nat) : 256 ^ k = 2 ^ (8 * k) := by rw [Nat.pow_mul]

/-- The k bits from place t on, as a number, the first the lowest. -/
def bitsN (l : List UInt8) (t k : Nat) : Nat := le l / 2 ^ t % 2 ^ k
theorem bitsN_lt (l : List UInt8) (t k : Nat) : bitsN l t k < 2 ^ k := Nat.mod_lt _ (Nat.pow_pos (by decide))

/-- What Peek adds up, cut to its bits, is the bits that stand there. -/
theorem peek_bits (l : List UInt8) (a g j n : Nat) (h : g + n ≤ 8 * j) : le ((l.drop a).take j) / 2 ^ g % 2 ^ n = bitsN l (8 * a + g) n := by
  unfold bitsN
  rw [le_take, le_drop, pow256, pow256]
  have e1 : 2 ^ (8 * j) = 2 ^ g * 2 ^ (8 * j - g) := by rw [← Nat.pow_add]; congr 1; omega
  rw [e1, Nat.mod_mul_right_div_self, Nat.div_div_eq_div_mul, ← Nat.pow_add]
  have e2 : 2 ^ (8 * j - g) = 2 ^ n * 2 ^ (8 * j - g - n) := by rw [← Nat.pow_add]; congr 1; omega
  rw [e2, Nat.mod_mul_right_mod]

theorem or_add (x b s : Nat) (hx : x < 2 ^ s) : x ||| b * 2 ^ s = x + 2 ^ s * b := by
  rw [Nat.or_comm, Nat.mul_comm b, ← Nat.two_pow_add_eq_or_of_lt hx, Nat.add_comm]
theorem and_mask (x n : Nat) : x &&& (2 ^ n - 1) = x % 2 ^ n := Nat.and_two_pow_sub_one_eq_mod x n
end Go.Proofs.YtkckobhpanghiaaDoor
