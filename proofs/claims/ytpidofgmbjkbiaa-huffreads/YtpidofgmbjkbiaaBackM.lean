/-
  Codes that are written are found again: mathematics.
-/
import Derived.Test.YtpidofgmbjkbiaaHufR
import Derived.Test.YtpidofgmbjkbiaaRevM
namespace Go.Proofs.Ytpidofgmbjkbiaa
open Go.RowKit

theorem rv_bit (V n i : Nat) : (rv V n).testBit i = (decide (i < n) && V.testBit (n - 1 - i)) := by
  induction n generalizing i with
  | zero => simp [rv]
  | succ n ih =>
    rw [rv]
    cases i with
    | zero =>
      rw [Nat.testBit_zero]
      have h1 : (2 * rv V n + V / 2 ^ n % 2) % 2 = V / 2 ^ n % 2 := by omega
      rw [h1, show n + 1 - 1 - 0 = n by omega, Nat.testBit_eq_decide_div_mod_eq]
      simp
    | succ i =>
      rw [Nat.testBit_succ]
      have h1 : (2 * rv V n + V / 2 ^ n % 2) / 2 = rv V n := by omega
      rw [h1, ih, show n + 1 - 1 - (i + 1) = n - 1 - i by omega]
      simp
/-- The turned number of a code. -/
def turned (c n : Nat) : Nat := rev32 c / 2 ^ (32 - n)
theorem turned_lt (c n : Nat) (hn : n ≤ 32) (hc : c < 4294967296) : turned c n < 2 ^ n := by
  unfold turned
  refine Nat.div_lt_of_lt_mul ?_
  rw [← Nat.pow_add, show 32 - n + n = 32 by omega]
  exact rev32_lt c hc
theorem rv_turned (c n : Nat) (hn : n ≤ 32) (hc : c < 2 ^ n) : rv (turned c n) n = c := by
  apply Nat.eq_of_testBit_eq
  intro i
  rw [rv_bit]
  by_cases hi : i < n
  · unfold turned
    rw [Nat.testBit_div_two_pow, rev32_bit c _ (by omega), show 31 - (n - 1 - i + (32 - n)) = i by omega]
    simp [hi]
  · rw [Nat.testBit_lt_two_pow (Nat.lt_of_lt_of_le hc (Nat.pow_le_pow_right (by decide) (by omega)))]
    simp [hi]
theorem rv_prefix (V m n : Nat) (h : m ≤ n) : rv V n / 2 ^ (n - m) = rv V m := by
  induction n with
  | zero => have : m = 0 := by omega
            subst this; simp
  | succ n ih =>
    rcases Nat.lt_or_ge n m with hn | hn
    · have : m = n + 1 := by omega
      subst this; simp
    · have h1 := ih hn
      rw [show n + 1 - m = (n - m) + 1 by omega, Nat.pow_succ, Nat.mul_comm, ← Nat.div_div_eq_div_mul, rv]
      have h2 : (2 * rv V n + V / 2 ^ n % 2) / 2 = rv V n := by omega
      rw [h2, h1]
theorem code_same (ln : Nat → Nat) (L V s s' : Nat) (h15 : ∀ i, ln i ≤ 15) (hs : s < L) (hs' : s' < L) (h0 : 0 < ln s) (h0' : 0 < ln s') (h : rv V (ln s) = codeC ln L s) (h' : rv V (ln s') = codeC ln L s') : s = s' := by
  rcases Nat.lt_trichotomy (ln s) (ln s') with hl | hl | hl
  · exfalso
    have h1 := rv_prefix V (ln s) (ln s') (by omega)
    rw [h', h] at h1
    exact codeC_apart ln L s' s hs (h15 s') h0 hl h1
  · rcases Nat.lt_trichotomy s s' with hc | hc | hc
    · have := codeC_rise ln L s' s hc hl h0
      rw [← h, ← h', hl] at this; omega
    · exact hc
    · have := codeC_rise ln L s s' hc hl.symm h0'
      rw [← h, ← h', hl] at this; omega
  · exfalso
    have h1 := rv_prefix V (ln s') (ln s) (by omega)
    rw [h, h'] at h1
    exact codeC_apart ln L s s' hs' (h15 s) h0' hl h1
/-- If a symbol's code comes, Read finds that symbol. -/
theorem read_found (ln : Nat → Nat) (L V l s : Nat) (e : Ending) (d : Nat) (h15 : ∀ i, ln i ≤ 15) (hs : s < L) (h0 : 0 < ln s) (hl : ln s ≤ l) (h : rv V (ln s) = codeC ln L s) (hp : ReadPost ln L V l e d) :
    e = .returned (.tuple #[.int .i64 (s : Int), .int .i64 0]) ∧ d = ln s := by
  have hit := hit_of ln L V s hs h0 h
  rcases hp with ⟨s', hs', h0', _, h', he, hd⟩ | ⟨_, hno, _⟩ | ⟨_, hno, _⟩
  · have := code_same ln L V s s' h15 hs hs' h0 h0' h h'
    subst this
    exact ⟨he, hd⟩
  · exact absurd hit (hno (ln s) h0 hl)
  · exact absurd hit (hno (ln s) h0 (lgs_ge ln L s hs))
/-- What is written for a row of symbols. -/
def tT (ln : Nat → Nat) : List Nat → Nat
  | [] => 0
  | s :: P => ln s + tT ln P
def nN (ln : Nat → Nat) (L : Nat) : List Nat → Nat
  | [] => 0
  | s :: P => turned (codeC ln L s) (ln s) + 2 ^ ln s * nN ln L P
theorem tT_app (ln : Nat → Nat) (A B : List Nat) : tT ln (A ++ B) = tT ln A + tT ln B := by
  induction A with
  | nil => simp [tT]
  | cons s A ih => rw [List.cons_append, tT, tT, ih]; omega
theorem nN_app (ln : Nat → Nat) (L : Nat) (A B : List Nat) : nN ln L (A ++ B) = nN ln L A + 2 ^ tT ln A * nN ln L B := by
  induction A with
  | nil => simp [nN, tT]
  | cons s A ih => rw [List.cons_append, nN, nN, tT, ih, Nat.mul_add, ← Nat.mul_assoc, ← Nat.pow_add]; omega
/-- Symbols that have codes. -/
def Good (ln : Nat → Nat) (L : Nat) (P : List Nat) : Prop := ∀ s ∈ P, s < L ∧ 0 < ln s
theorem code32 (ln : Nat → Nat) (L s : Nat) (h15 : ∀ i, ln i ≤ 15) (hk : kr ln L 15 ≤ 32768) (hs : s < L) : codeC ln L s < 2 ^ ln s ∧ codeC ln L s < 4294967296 := by
  have h1 := codeC_lt ln L s hs (h15 s) hk
  have h2 : 2 ^ ln s ≤ 2 ^ 15 := Nat.pow_le_pow_right (by decide) (h15 s)
  exact ⟨h1, by simp at h2; omega⟩
theorem nN_lt (ln : Nat → Nat) (L : Nat) (h15 : ∀ i, ln i ≤ 15) (hk : kr ln L 15 ≤ 32768) (P : List Nat) (hP : Good ln L P) : nN ln L P < 2 ^ tT ln P := by
  induction P with
  | nil => simp [nN, tT]
  | cons s P ih =>
    have h1 := ih (fun x hx => hP x (List.mem_cons_of_mem _ hx))
    have h2 := turned_lt (codeC ln L s) (ln s) (by have := h15 s; omega) (code32 ln L s h15 hk (hP s (List.mem_cons_self ..)).1).2
    rw [nN, tT, Nat.pow_add]
    calc turned (codeC ln L s) (ln s) + 2 ^ ln s * nN ln L P < 2 ^ ln s + 2 ^ ln s * nN ln L P := by omega
      _ = 2 ^ ln s * (nN ln L P + 1) := by rw [Nat.mul_add, Nat.mul_one, Nat.add_comm]
      _ ≤ 2 ^ ln s * 2 ^ tT ln P := Nat.mul_le_mul_left _ h1
theorem nN_at (ln : Nat → Nat) (L : Nat) (h15 : ∀ i, ln i ≤ 15) (hk : kr ln L 15 ≤ 32768) (P : List Nat) (hP : Good ln L P) (k : Nat) (hkP : k < P.length) :
    rv (nN ln L P / 2 ^ tT ln (P.take k)) (ln P[k]) = codeC ln L P[k] ∧ tT ln (P.take (k + 1)) = tT ln (P.take k) + ln P[k] ∧ tT ln (P.take k) + ln P[k] ≤ tT ln P := by
  have e1 : P = P.take k ++ P.drop k := (List.take_append_drop k P).symm
  have hg : Good ln L (P.take k) := fun x hx => hP x (List.mem_of_mem_take hx)
  have hs := hP P[k] (List.getElem_mem hkP)
  have h1 : nN ln L P / 2 ^ tT ln (P.take k) = nN ln L (P.drop k) := by
    have h2 := nN_app ln L (P.take k) (P.drop k)
    rw [← e1] at h2
    rw [h2, Nat.add_mul_div_left _ _ (Nat.pow_pos (by decide)), Nat.div_eq_of_lt (nN_lt ln L h15 hk _ hg), Nat.zero_add]
  have h3 : tT ln (P.take (k + 1)) = tT ln (P.take k) + ln P[k] := by
    rw [List.take_succ_eq_append_getElem hkP, tT_app]; simp [tT]
  refine ⟨?_, h3, ?_⟩
  · rw [h1, List.drop_eq_getElem_cons hkP, nN]
    have c32 := code32 ln L P[k] h15 hk hs.1
    have hn : ln P[k] ≤ 32 := by have := h15 P[k]; omega
    have ht := turned_lt (codeC ln L P[k]) (ln P[k]) hn c32.2
    rw [← rv_mod _ (ln P[k]) (ln P[k]) (Nat.le_refl _), Nat.add_mul_mod_self_left, Nat.mod_eq_of_lt ht]
    exact rv_turned _ _ hn c32.1
  · have h4 := tT_app ln (P.take (k + 1)) (P.drop (k + 1))
    rw [List.take_append_drop] at h4
    omega
theorem tT_le (ln : Nat → Nat) (h15 : ∀ i, ln i ≤ 15) (P : List Nat) : tT ln P ≤ 15 * P.length := by
  induction P with
  | nil => exact Nat.le_refl _
  | cons s P ih => have := h15 s; rw [tT, List.length_cons]; omega
end Go.Proofs.Ytpidofgmbjkbiaa
