/-
  Plain mathematics of codes by their lengths: how many, the first of each length, the sum; that codes fit and none begins another.
-/
import Derived.WalkKit
namespace Go.Proofs.YtkckobhpanghiaaDoor

/-- How many of the first k lengths are n (n above 0). -/
def cnt (ln : Nat → Nat) (n : Nat) : Nat → Nat
  | 0 => 0
  | k + 1 => cnt ln n k + (if ln k = n ∧ 0 < n then 1 else 0)
theorem cnt_le (ln : Nat → Nat) (n k : Nat) : cnt ln n k ≤ k := by
  induction k with
  | zero => exact Nat.le_refl _
  | succ k ih => rw [cnt]; split <;> omega
theorem cnt_mono (ln : Nat → Nat) (n : Nat) {i k : Nat} (h : i ≤ k) : cnt ln n i ≤ cnt ln n k := by
  induction k with
  | zero => have : i = 0 := by omega
            subst this; exact Nat.le_refl _
  | succ k ih =>
    rcases Nat.lt_or_ge k i with hk | hk
    · have : i = k + 1 := by omega
      subst this; exact Nat.le_refl _
    · have := ih hk; rw [cnt]; omega
theorem cnt_lt (ln : Nat → Nat) {s k : Nat} (h : s < k) (h0 : 0 < ln s) : cnt ln (ln s) s < cnt ln (ln s) k := by
  have h1 := cnt_mono ln (ln s) h
  rw [cnt, if_pos ⟨rfl, h0⟩] at h1
  omega
theorem cnt_zero (ln : Nat → Nat) (k : Nat) : cnt ln 0 k = 0 := by
  induction k with
  | zero => rfl
  | succ k ih => rw [cnt, ih, if_neg (by omega)]
/-- The first code of length n; where its symbols begin. -/
def fstC (ln : Nat → Nat) (L : Nat) : Nat → Nat
  | 0 => 0
  | n + 1 => 2 * (fstC ln L n + cnt ln n L)
def atC (ln : Nat → Nat) (L : Nat) : Nat → Nat
  | 0 => 0
  | n + 1 => atC ln L n + cnt ln n L
/-- The sum over the lengths up to n, in parts of 2^-15. -/
def kr (ln : Nat → Nat) (L : Nat) : Nat → Nat
  | 0 => 0
  | n + 1 => kr ln L n + cnt ln (n + 1) L * 2 ^ (15 - (n + 1))
theorem kr_mono (ln : Nat → Nat) (L : Nat) {i k : Nat} (h : i ≤ k) : kr ln L i ≤ kr ln L k := by
  induction k with
  | zero => have : i = 0 := by omega
            subst this; exact Nat.le_refl _
  | succ k ih =>
    rcases Nat.lt_or_ge k i with hk | hk
    · have : i = k + 1 := by omega
      subst this; exact Nat.le_refl _
    · have := ih hk; rw [kr]; omega
theorem fst_kr (ln : Nat → Nat) (L n : Nat) (hn : n ≤ 14) : (fstC ln L n + cnt ln n L) * 2 ^ (15 - n) = kr ln L n := by
  induction n with
  | zero => simp [fstC, kr, cnt_zero]
  | succ n ih =>
    have h1 := ih (by omega)
    rw [fstC, kr, Nat.add_mul, ← h1]
    congr 1
    rw [show 15 - n = (15 - (n + 1)) + 1 by omega, Nat.pow_succ, Nat.mul_comm 2, Nat.mul_assoc, Nat.mul_comm 2]
theorem fst_kr15 (ln : Nat → Nat) (L : Nat) : fstC ln L 15 + cnt ln 15 L = kr ln L 15 := by
  have h := fst_kr ln L 14 (by decide)
  rw [kr, ← h, fstC]
  simp
  omega
theorem fst_kr_all (ln : Nat → Nat) (L n : Nat) (hn : n ≤ 15) : (fstC ln L n + cnt ln n L) * 2 ^ (15 - n) = kr ln L n := by
  rcases Nat.lt_or_ge 14 n with h | h
  · have : n = 15 := by omega
    subst this
    rw [← fst_kr15]; simp
  · exact fst_kr ln L n h
/-- Codes of length n are below 2^n. -/
theorem code_fits (ln : Nat → Nat) (L n : Nat) (hn : n ≤ 15) (h : kr ln L 15 ≤ 32768) : fstC ln L n + cnt ln n L ≤ 2 ^ n := by
  have h1 := fst_kr_all ln L n hn
  have h2 := kr_mono ln L hn
  have h3 : 32768 = 2 ^ n * 2 ^ (15 - n) := by rw [← Nat.pow_add, show n + (15 - n) = 15 by omega]
  have h4 : (fstC ln L n + cnt ln n L) * 2 ^ (15 - n) ≤ 2 ^ n * 2 ^ (15 - n) := by rw [h1, ← h3]; omega
  exact Nat.le_of_mul_le_mul_right h4 (Nat.pow_pos (by decide))
/-- The first code of a longer length is behind all of a shorter one. -/
theorem fst_behind (ln : Nat → Nat) (L m k : Nat) (hm : m < k) (hk : k ≤ 15) : (fstC ln L m + cnt ln m L) * 2 ^ (k - m) ≤ fstC ln L k := by
  have h1 := fst_kr_all ln L m (by omega)
  obtain ⟨j, rfl⟩ : ∃ j, k = j + 1 := ⟨k - 1, by omega⟩
  have h2 := fst_kr ln L j (by omega)
  have h3 := kr_mono ln L (show m ≤ j by omega)
  have e1 : fstC ln L (j + 1) * 2 ^ (15 - (j + 1)) = kr ln L j := by
    rw [← h2, fstC, show 15 - j = (15 - (j + 1)) + 1 by omega, Nat.pow_succ, Nat.mul_comm 2, Nat.mul_assoc, Nat.mul_comm 2]
  have e2 : (fstC ln L m + cnt ln m L) * 2 ^ (j + 1 - m) * 2 ^ (15 - (j + 1)) = kr ln L m := by
    rw [← h1, Nat.mul_assoc, ← Nat.pow_add]
    congr 2
    omega
  refine Nat.le_of_mul_le_mul_right ?_ (Nat.pow_pos (n := 15 - (j + 1)) (show 0 < 2 by decide))
  rw [e1, e2]
  exact h3
/-- A symbol's code. -/
def codeC (ln : Nat → Nat) (L s : Nat) : Nat := if ln s = 0 then 0 else fstC ln L (ln s) + cnt ln (ln s) s
theorem codeC_lt (ln : Nat → Nat) (L s : Nat) (hs : s < L) (hl : ln s ≤ 15) (h : kr ln L 15 ≤ 32768) : codeC ln L s < 2 ^ ln s := by
  unfold codeC
  split
  · exact Nat.pow_pos (by decide)
  · have := code_fits ln L (ln s) hl h
    have := cnt_lt ln hs (by omega)
    omega
theorem codeC_apart (ln : Nat → Nat) (L s x : Nat) (hx : x < L) (hl : ln s ≤ 15) (h0 : 0 < ln x) (hlt : ln x < ln s) : codeC ln L s / 2 ^ (ln s - ln x) ≠ codeC ln L x := by
  have h1 := fst_behind ln L (ln x) (ln s) hlt hl
  have h2 := cnt_lt ln hx h0
  have h3 : fstC ln L (ln x) + cnt ln (ln x) L ≤ codeC ln L s / 2 ^ (ln s - ln x) := by
    rw [Nat.le_div_iff_mul_le (Nat.pow_pos (by decide))]
    refine Nat.le_trans h1 ?_
    unfold codeC
    rw [if_neg (by omega)]
    omega
  have h4 : codeC ln L x = fstC ln L (ln x) + cnt ln (ln x) x := by unfold codeC; rw [if_neg (by omega)]
  omega
theorem codeC_rise (ln : Nat → Nat) (L s x : Nat) (hx : x < s) (he : ln x = ln s) (h0 : 0 < ln x) : codeC ln L x < codeC ln L s := by
  have h2 := cnt_lt ln hx h0
  unfold codeC
  rw [if_neg (by omega), if_neg (by omega), ← he]
  omega
end Go.Proofs.YtkckobhpanghiaaDoor
