/-
  Plain mathematics of rows of bits: a row as a number, the first the lowest; what ties it to rows of bytes.
-/
import Derived.Test.YtpidofgmbjkbiaaBitM
namespace Go.Proofs.Ytpidofgmbjkbiaa

def nb : List Bool → Nat
  | [] => 0
  | b :: l => b.toNat + 2 * nb l
theorem bool_lt (b : Bool) : b.toNat < 2 := by cases b <;> decide
theorem nb_lt : ∀ l : List Bool, nb l < 2 ^ l.length
  | [] => by simp [nb]
  | b :: l => by
    have := nb_lt l
    have := bool_lt b
    rw [nb, List.length_cons, Nat.pow_succ]
    omega
theorem nb_app : ∀ l m : List Bool, nb (l ++ m) = nb l + 2 ^ l.length * nb m
  | [], m => by simp [nb]
  | b :: l, m => by
    rw [List.cons_append, nb, nb, nb_app l m, List.length_cons, Nat.pow_succ, Nat.mul_add, ← Nat.mul_assoc, Nat.mul_comm 2 (2 ^ l.length)]
    omega
theorem nb_take (l : List Bool) (k : Nat) : nb (l.take k) = nb l % 2 ^ k := by
  by_cases hk : k ≤ l.length
  · have h := nb_app (l.take k) (l.drop k)
    rw [List.take_append_drop, List.length_take, Nat.min_eq_left hk] at h
    have h2 := nb_lt (l.take k)
    rw [List.length_take, Nat.min_eq_left hk] at h2
    rw [h, Nat.add_mul_mod_self_left, Nat.mod_eq_of_lt h2]
  · rw [List.take_of_length_le (by omega), Nat.mod_eq_of_lt]
    exact Nat.lt_of_lt_of_le (nb_lt l) (Nat.pow_le_pow_right (by decide) (by omega))
theorem nb_drop (l : List Bool) (k : Nat) : nb (l.drop k) = nb l / 2 ^ k := by
  by_cases hk : k ≤ l.length
  · have h := nb_app (l.take k) (l.drop k)
    rw [List.take_append_drop, List.length_take, Nat.min_eq_left hk] at h
    have h2 := nb_lt (l.take k)
    rw [List.length_take, Nat.min_eq_left hk] at h2
    rw [h, Nat.add_mul_div_left _ _ (Nat.pow_pos (by decide)), Nat.div_eq_of_lt h2, Nat.zero_add]
  · rw [List.drop_of_length_le (by omega), Nat.div_eq_of_lt]
    · rfl
    · exact Nat.lt_of_lt_of_le (nb_lt l) (Nat.pow_le_pow_right (by decide) (by omega))
theorem nb_snoc (l : List Bool) (b : Bool) : nb (l ++ [b]) = nb l + 2 ^ l.length * b.toNat := by
  rw [nb_app]; simp [nb]
theorem nb_inj : ∀ l m : List Bool, l.length = m.length → nb l = nb m → l = m
  | [], [], _, _ => rfl
  | b :: l, c :: m, hl, hn => by
    rw [nb, nb] at hn
    have hb := bool_lt b
    have hc := bool_lt c
    have h1 : nb l = nb m := by omega
    have h2 : b.toNat = c.toNat := by omega
    have h3 : b = c := by cases b <;> cases c <;> simp_all
    rw [h3, nb_inj l m (by simpa using hl) h1]
theorem le_inj : ∀ l m : List UInt8, l.length = m.length → le l = le m → l = m
  | [], [], _, _ => rfl
  | b :: l, c :: m, hl, hn => by
    rw [le, le] at hn
    have hb := byte_lt b
    have hc := byte_lt c
    have h1 : le l = le m := by omega
    have h2 : b.toNat = c.toNat := by omega
    have h3 : b = c := UInt8.toNat_inj.1 h2
    rw [h3, le_inj l m (by simpa using hl) h1]

/-- The bits of a byte, the lowest first. -/
def bits8 (c : UInt8) : List Bool := (List.range 8).map fun k => (c.toNat / 2 ^ k % 2 == 1)
theorem bits8_len (c : UInt8) : (bits8 c).length = 8 := rfl
theorem bits8_take (c : UInt8) (k : Nat) (h : k < 8) : (bits8 c).take (k + 1) = (bits8 c).take k ++ [(c.toNat / 2 ^ k % 2 == 1)] := by
  rw [List.take_succ_eq_append_getElem (by rw [bits8_len]; exact h)]
  congr 2
  simp [bits8]
theorem bits8_nb (c : UInt8) : nb (bits8 c) = c.toNat := by
  have h := byte_lt c
  unfold bits8
  generalize c.toNat = n at *
  have e : ∀ m : Nat, (m % 2 == 1).toNat = m % 2 := by
    intro m
    rcases Nat.mod_two_eq_zero_or_one m with h | h <;> simp [h]
  simp only [List.range, List.range.loop, List.map_cons, List.map_nil, nb, e]
  simp only [Nat.pow_zero, Nat.div_one]
  omega
/-- The bits of a row of bytes. -/
def bitsL : List UInt8 → List Bool
  | [] => []
  | c :: l => bits8 c ++ bitsL l
theorem bitsL_len : ∀ l : List UInt8, (bitsL l).length = 8 * l.length
  | [] => rfl
  | c :: l => by rw [bitsL, List.length_append, bits8_len, bitsL_len l, List.length_cons]; omega
theorem bitsL_app : ∀ l m : List UInt8, bitsL (l ++ m) = bitsL l ++ bitsL m
  | [], _ => rfl
  | c :: l, m => by rw [List.cons_append, bitsL, bitsL, bitsL_app l m, List.append_assoc]
theorem bitsL_nb : ∀ l : List UInt8, nb (bitsL l) = le l
  | [] => rfl
  | c :: l => by rw [bitsL, nb_app, bits8_nb, bits8_len, bitsL_nb l, le]
theorem bitsL_sub (l : List UInt8) (t k : Nat) : nb (((bitsL l).drop t).take k) = bitsN l t k := by
  rw [nb_take, nb_drop, bitsL_nb]; rfl
end Go.Proofs.Ytpidofgmbjkbiaa
