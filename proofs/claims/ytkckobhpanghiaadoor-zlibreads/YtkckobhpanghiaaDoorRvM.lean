/-
  Plain mathematics of codes that are read bit by bit.
-/
import Derived.Test.YtkckobhpanghiaaDoorHufM
import Derived.Test.YtkckobhpanghiaaDoorBitM
namespace Go.Proofs.YtkckobhpanghiaaDoor

/-- The first n bits of V, the first the highest. -/
def rv (V : Nat) : Nat → Nat
  | 0 => 0
  | n + 1 => 2 * rv V n + V / 2 ^ n % 2
theorem rv_lt (V n : Nat) : rv V n < 2 ^ n := by
  induction n with
  | zero => rw [rv]; decide
  | succ n ih => rw [rv, Nat.pow_succ]; have := Nat.mod_lt (V / 2 ^ n) (show 0 < 2 by decide); omega
theorem bit_mod (V k i : Nat) (h : i < k) : V % 2 ^ k / 2 ^ i % 2 = V / 2 ^ i % 2 := by
  rw [show 2 ^ k = 2 ^ i * 2 ^ (k - i) by rw [← Nat.pow_add]; congr 1; omega, Nat.mod_mul_right_div_self, show 2 ^ (k - i) = 2 * 2 ^ (k - i - 1) by rw [Nat.mul_comm, ← Nat.pow_succ]; congr 1; omega, Nat.mod_mul_right_mod]
theorem rv_mod (V k n : Nat) (h : n ≤ k) : rv (V % 2 ^ k) n = rv V n := by
  induction n with
  | zero => rfl
  | succ n ih => rw [rv, rv, ih (by omega), bit_mod V k n (by omega)]
/-- The bits so far are a code of length n. -/
def Hit (ln : Nat → Nat) (L V n : Nat) : Prop := fstC ln L n ≤ rv V n ∧ rv V n < fstC ln L n + cnt ln n L
theorem cnt_at (ln : Nat → Nat) (n i : Nat) : ∀ L, i < cnt ln n L → ∃ s, s < L ∧ ln s = n ∧ 0 < n ∧ cnt ln n s = i
  | 0, h => by simp [cnt] at h
  | L + 1, h => by
    by_cases hi : i < cnt ln n L
    · obtain ⟨s, h1, h2⟩ := cnt_at ln n i L hi
      exact ⟨s, by omega, h2⟩
    · rw [cnt] at h
      by_cases hc : ln L = n ∧ 0 < n
      · rw [if_pos hc] at h
        exact ⟨L, by omega, hc.1, hc.2, by omega⟩
      · rw [if_neg hc] at h; omega
theorem hit_of (ln : Nat → Nat) (L V s : Nat) (hs : s < L) (h0 : 0 < ln s) (h : rv V (ln s) = codeC ln L s) : Hit ln L V (ln s) := by
  have h1 := cnt_lt ln hs h0
  unfold codeC at h
  rw [if_neg (by omega)] at h
  unfold Hit
  omega
def lgs (ln : Nat → Nat) : Nat → Nat
  | 0 => 0
  | k + 1 => max (lgs ln k) (ln k)
theorem lgs_le (ln : Nat → Nat) (m : Nat) (h : ∀ i, ln i ≤ m) (k : Nat) : lgs ln k ≤ m := by
  induction k with
  | zero => exact Nat.zero_le _
  | succ k ih => have := h k; rw [lgs]; omega
theorem lgs_ge (ln : Nat → Nat) (k i : Nat) (h : i < k) : ln i ≤ lgs ln k := by
  induction k with
  | zero => omega
  | succ k ih =>
    rw [lgs]
    rcases Nat.lt_or_ge i k with hi | hi
    · have := ih hi; omega
    · have : i = k := by omega
      subst this; omega
theorem cnt_none (ln : Nat → Nat) (n k : Nat) (h : ∀ i, i < k → ln i < n) : cnt ln n k = 0 := by
  induction k with
  | zero => rfl
  | succ k ih =>
    have := h k (by omega)
    rw [cnt, ih (fun i hi => h i (by omega)), if_neg (by omega)]
theorem kr_flat (ln : Nat → Nat) (L m n : Nat) (hm : m ≤ n) (h : lgs ln L ≤ m) : kr ln L n = kr ln L m := by
  induction n with
  | zero => have : m = 0 := by omega
            subst this; rfl
  | succ n ih =>
    rcases Nat.lt_or_ge n m with hn | hn
    · have : m = n + 1 := by omega
      subst this; rfl
    · rw [kr, ih hn, cnt_none ln (n + 1) L (fun i hi => by have := lgs_ge ln L i hi; omega), Nat.zero_mul, Nat.add_zero]
def Fit (ln : Nat → Nat) (L : Nat) : Prop := kr ln L 15 = 32768 ∨ lgs ln L = 0 ∨ (lgs ln L = 1 ∧ cnt ln 1 L = 1)
theorem Fit.le {ln : Nat → Nat} {L : Nat} (h : Fit ln L) : kr ln L 15 ≤ 32768 := by
  rcases h with h | h | ⟨h, h1⟩
  · omega
  · rw [kr_flat ln L 0 15 (by decide) (by omega)]
    exact Nat.zero_le _
  · rw [kr_flat ln L 1 15 (by decide) (by omega), kr, kr, h1]
    decide
end Go.Proofs.YtkckobhpanghiaaDoor
