/-
  Plain mathematics: bits of a number, from the last to the first.
-/
import Derived.Test.YtpidofgmbjkbiaaRefM
namespace Go.Proofs.Ytpidofgmbjkbiaa

theorem nb_testBit : ∀ (l : List Bool) (i : Nat), (nb l).testBit i = l[i]?.getD false
  | [], i => by simp [nb]
  | b :: l, 0 => by
    rw [nb, Nat.testBit_zero]
    cases b <;> simp <;> omega
  | b :: l, i + 1 => by
    rw [nb, Nat.testBit_succ]
    have e : (b.toNat + 2 * nb l) / 2 = nb l := by have := bool_lt b; omega
    rw [e, nb_testBit l i]
    simp
/-- One pass: neighbouring groups of s bits change places. -/
def swp (s m x : Nat) : Nat := (x / 2 ^ s &&& m) ||| ((x &&& m) * 2 ^ s % 4294967296)
theorem swp_lt (s m x : Nat) (hx : x < 4294967296) : swp s m x < 4294967296 :=
  Nat.or_lt_two_pow (n := 32) (Nat.lt_of_le_of_lt Nat.and_le_left (Nat.lt_of_le_of_lt (Nat.div_le_self _ _) hx)) (Nat.mod_lt _ (by decide))
theorem swp_bit (s m x i : Nat) (hi : i < 32) : (swp s m x).testBit i = ((x.testBit (i + s) && m.testBit i) || (decide (s ≤ i) && (x.testBit (i - s) && m.testBit (i - s)))) := by
  unfold swp
  rw [show (4294967296 : Nat) = 2 ^ 32 by decide, Nat.testBit_or, Nat.testBit_and, Nat.testBit_div_two_pow, Nat.testBit_mod_two_pow, Nat.testBit_mul_two_pow, Nat.testBit_and]
  simp [hi]
theorem swp_at (s m x i j : Nat) (hi : i < 32) (h : (m.testBit i = true ∧ j = i + s ∧ (decide (s ≤ i) && m.testBit (i - s)) = false) ∨ (m.testBit i = false ∧ s ≤ i ∧ m.testBit (i - s) = true ∧ j = i - s)) : (swp s m x).testBit i = x.testBit j := by
  rw [swp_bit s m x i hi]
  rcases h with ⟨h1, rfl, h2⟩ | ⟨h1, h2, h3, rfl⟩
  · rw [h1]
    cases hd : decide (s ≤ i) <;> rw [hd] at h2 <;> simp at h2 ⊢
    rw [h2]; simp
  · rw [h1, h3]; simp [h2]
def rev32 (x : Nat) : Nat := swp 16 65535 (swp 8 16711935 (swp 4 252645135 (swp 2 858993459 (swp 1 1431655765 x))))
/-- Where the bit i of a pass comes from. -/
def pj (s i : Nat) : Nat := if i / s % 2 = 0 then i + s else i - s
theorem pass (s m : Nat) (hm : ∀ i : Fin 32, (m.testBit i.val = true ∧ pj s i.val = i.val + s ∧ (decide (s ≤ i.val) && m.testBit (i.val - s)) = false) ∨ (m.testBit i.val = false ∧ s ≤ i.val ∧ m.testBit (i.val - s) = true ∧ pj s i.val = i.val - s)) (x i : Nat) (hi : i < 32) : (swp s m x).testBit i = x.testBit (pj s i) :=
  swp_at s m x i (pj s i) hi (hm ⟨i, hi⟩)
theorem pj_all : ∀ i : Fin 32, pj 16 i.val < 32 ∧ pj 8 (pj 16 i.val) < 32 ∧ pj 4 (pj 8 (pj 16 i.val)) < 32 ∧ pj 2 (pj 4 (pj 8 (pj 16 i.val))) < 32 ∧ pj 1 (pj 2 (pj 4 (pj 8 (pj 16 i.val)))) = 31 - i.val := by decide
theorem rev32_bit (x i : Nat) (hi : i < 32) : (rev32 x).testBit i = x.testBit (31 - i) := by
  obtain ⟨h1, h2, h3, h4, h5⟩ := pj_all ⟨i, hi⟩
  simp only at h1 h2 h3 h4 h5
  unfold rev32
  rw [pass 16 65535 (by decide) _ i hi, pass 8 16711935 (by decide) _ _ h1, pass 4 252645135 (by decide) _ _ h2, pass 2 858993459 (by decide) _ _ h3, pass 1 1431655765 (by decide) _ _ h4, h5]
theorem rev32_lt (x : Nat) (hx : x < 4294967296) : rev32 x < 4294967296 := swp_lt _ _ _ (swp_lt _ _ _ (swp_lt _ _ _ (swp_lt _ _ _ (swp_lt _ _ _ hx))))
/-- A code's bits, the highest first, are those of the turned number. -/
theorem code_bits (x n : Nat) (l : List Bool) (hl : l.length = n) (hn : n ≤ 32) (hx : x < 4294967296) (h : nb l = x % 2 ^ n) : nb l.reverse = rev32 x / 2 ^ (32 - n) := by
  apply Nat.eq_of_testBit_eq
  intro i
  rw [nb_testBit, Nat.testBit_div_two_pow]
  by_cases hi : i < n
  · rw [rev32_bit x _ (by omega), List.getElem?_reverse (by omega), hl]
    have h1 := nb_testBit l (n - 1 - i)
    rw [h, Nat.testBit_mod_two_pow] at h1
    have h2 : n - 1 - i < n := by omega
    rw [← h1]
    simp only [h2, decide_true, Bool.true_and]
    congr 1
    omega
  · rw [List.getElem?_eq_none (by simp; omega)]
    have h3 : (rev32 x).testBit (i + (32 - n)) = false := Nat.testBit_lt_two_pow (Nat.lt_of_lt_of_le (rev32_lt x hx) (show 2 ^ 32 ≤ _ from Nat.pow_le_pow_right (by decide) (by omega)))
    rw [h3]
    rfl
end Go.Proofs.Ytpidofgmbjkbiaa
