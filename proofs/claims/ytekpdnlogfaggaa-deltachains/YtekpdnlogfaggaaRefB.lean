/-
  The seven bytes of a copy, as the document takes them.
-/
import Derived.Test.YtekpdnlogfaggaaRefA
namespace Go.Proofs.Ytekpdnlogfaggaa
open Go.RowKit

/-- The number whose bytes these are, the lowest first. -/
def val : List Nat → Nat
  | [] => 0
  | x :: r => x + 256 * val r
theorem val_snoc : ∀ (l : List Nat) (b : Nat), val (l ++ [b]) = val l + b * 2 ^ (8 * l.length)
  | [], b => by simp [val]
  | x :: r, b => by
    rw [List.cons_append, val, val_snoc r b, val, List.length_cons, show 8 * (r.length + 1) = 8 * r.length + 8 by omega, Nat.pow_add]
    rw [Nat.mul_add, Nat.add_assoc]
    congr 2
    rw [show (2 : Nat) ^ 8 = 256 from rfl, Nat.mul_comm 256, Nat.mul_assoc]
/-- i of the seven are done: xs is what they are, t is where the next byte stands. -/
def InR (s : ByteArray) (c0 t0 i : Nat) (xs : List Nat) (t : Nat) : Prop :=
  xs.length = i ∧ (∀ x ∈ xs, x < 256) ∧ t ≤ s.size ∧
  if i < 4 then nbL s c0 4 0 0 t0 = nbL s c0 (4 - i) i (val xs) t
  else ∃ T, nbL s c0 4 0 0 t0 = (val (xs.take 4), T, 0) ∧ nbL s (c0 / 16) 3 0 0 T = nbL s (c0 / 16) (7 - i) (i - 4) (val (xs.drop 4)) t
theorem bit_hi (c0 i : Nat) (h : 4 ≤ i) : c0 / 16 / 2 ^ (i - 4) = c0 / 2 ^ i := by
  rw [Nat.div_div_eq_div_mul, show 16 * 2 ^ (i - 4) = 2 ^ i by rw [show i = 4 + (i - 4) by omega, Nat.pow_add, show 4 + (i - 4) - 4 = i - 4 by omega]]
theorem inR_start (s : ByteArray) (c0 t0 : Nat) (h : t0 ≤ s.size) : InR s c0 t0 0 [] t0 := ⟨rfl, by simp, h, rfl⟩
theorem take4_snoc (xs : List Nat) (b : Nat) (h : 4 ≤ xs.length) : (xs ++ [b]).take 4 = xs.take 4 := by
  rw [List.take_append_of_le_length h]
theorem drop4_snoc (xs : List Nat) (b : Nat) (h : 4 ≤ xs.length) : (xs ++ [b]).drop 4 = xs.drop 4 ++ [b] := by
  rw [List.drop_append_of_le_length h]
/-- The step, whatever the next place and the next byte are. -/
theorem inR_step {s : ByteArray} {c0 t0 i t t' b : Nat} {xs : List Nat} (h : InR s c0 t0 i xs t) (hi : i < 7) (hb : b < 256) (ht' : t' ≤ s.size)
    (h1 : i < 4 → nbL s c0 (4 - i) i (val xs) t = nbL s c0 (4 - (i + 1)) (i + 1) (val xs + b * 2 ^ (8 * i)) t')
    (h2 : 4 ≤ i → nbL s (c0 / 16) (7 - i) (i - 4) (val (xs.drop 4)) t = nbL s (c0 / 16) (7 - (i + 1)) (i + 1 - 4) (val (xs.drop 4) + b * 2 ^ (8 * (i - 4))) t') :
    InR s c0 t0 (i + 1) (xs ++ [b]) t' := by
  obtain ⟨hl, hx, ht, hr⟩ := h
  refine ⟨by rw [List.length_append, hl]; rfl, ?_, ht', ?_⟩
  · intro x hx'
    rcases List.mem_append.1 hx' with h | h
    · exact hx x h
    · simp at h; omega
  · by_cases h4 : i < 4
    · rw [if_pos h4] at hr
      have hv : val (xs ++ [b]) = val xs + b * 2 ^ (8 * i) := by rw [val_snoc, hl]
      by_cases h5 : i + 1 < 4
      · rw [if_pos h5, hr, h1 h4, hv]
      · rw [if_neg h5]
        have h3 : i = 3 := by omega
        subst h3
        refine ⟨t', ?_, ?_⟩
        · rw [hr, h1 h4, ← hv, List.take_of_length_le (by rw [List.length_append, hl]; exact Nat.le_refl _)]
          rfl
        · rw [List.drop_of_length_le (by rw [List.length_append, hl]; exact Nat.le_refl _)]
          rfl
    · rw [if_neg h4] at hr
      rw [if_neg (by omega)]
      obtain ⟨T, hT, hT2⟩ := hr
      refine ⟨T, by rw [take4_snoc xs b (by omega)]; exact hT, ?_⟩
      rw [hT2, h2 (by omega), drop4_snoc xs b (by omega), val_snoc, List.length_drop, hl]
theorem inR_skip {s : ByteArray} {c0 t0 i t : Nat} {xs : List Nat} (h : InR s c0 t0 i xs t) (hi : i < 7) (hb : ¬ c0 / 2 ^ i % 2 = 1) : InR s c0 t0 (i + 1) (xs ++ [0]) t := by
  refine inR_step h hi (by decide) h.2.2.1 ?_ ?_
  · intro h4
    rw [show 4 - i = (4 - (i + 1)) + 1 by omega, nbL_skip s c0 _ i _ t hb]
    simp
  · intro h4
    rw [show 7 - i = (7 - (i + 1)) + 1 by omega, nbL_skip s (c0 / 16) _ (i - 4) _ t (by rw [bit_hi c0 i h4]; exact hb), show i + 1 - 4 = i - 4 + 1 by omega]
    simp
theorem inR_put {s : ByteArray} {c0 t0 i t b : Nat} {xs : List Nat} (h : InR s c0 t0 i xs t) (hi : i < 7) (hb : c0 / 2 ^ i % 2 = 1) (ht : t < s.size) (hc : s[t].toNat = b) : InR s c0 t0 (i + 1) (xs ++ [b]) (t + 1) := by
  have hb256 : b < 256 := by rw [← hc]; exact s[t].toNat_lt
  refine inR_step h hi hb256 (by omega) ?_ ?_
  · intro h4
    rw [show 4 - i = (4 - (i + 1)) + 1 by omega, nbL_one s c0 _ i _ t b hb ht hc]
  · intro h4
    rw [show 7 - i = (7 - (i + 1)) + 1 by omega, nbL_one s (c0 / 16) _ (i - 4) _ t b (by rw [bit_hi c0 i h4]; exact hb) ht hc, show i + 1 - 4 = i - 4 + 1 by omega]
theorem inR_short {base s : ByteArray} {y c0 i t : Nat} {xs : List Nat} (h : InR s c0 (y + 1) i xs t) (hi : i < 7) (hb : c0 / 2 ^ i % 2 = 1) (ht : ¬ t < s.size) (hy : y < s.size) (hc : s[y].toNat = c0) (hl : ¬ c0 < 128) : inL base s y = (.empty, 0, 6) := by
  obtain ⟨_, _, _, hr⟩ := h
  by_cases h4 : i < 4
  · rw [if_pos h4, show 4 - i = (4 - (i + 1)) + 1 by omega, nbL_no s c0 _ i _ t hb ht] at hr
    exact inL_p base s y c0 hy hc hl _ hr (by simp)
  · rw [if_neg h4] at hr
    obtain ⟨T, hT, hT2⟩ := hr
    rw [show 7 - i = (7 - (i + 1)) + 1 by omega, nbL_no s (c0 / 16) _ (i - 4) _ t (by rw [bit_hi c0 i (by omega)]; exact hb) ht] at hT2
    exact inL_l base s y c0 hy hc hl _ hT rfl _ hT2 (by simp)
theorem inR_end {base s : ByteArray} {y c0 t : Nat} {xs : List Nat} (h : InR s c0 (y + 1) 7 xs t) (hy : y < s.size) (hc : s[y].toNat = c0) (hl : ¬ c0 < 128) :
    ∃ x0 x1 x2 x3 x4 x5 x6, xs = [x0, x1, x2, x3, x4, x5, x6] ∧ x0 < 256 ∧ x1 < 256 ∧ x2 < 256 ∧ x3 < 256 ∧ x4 < 256 ∧ x5 < 256 ∧ x6 < 256 ∧
      ∀ p l n, x0 + 256 * x1 + 65536 * x2 + 16777216 * x3 = p → x4 + 256 * x5 + 65536 * x6 = l → (if l = 0 then 65536 else l) = n →
        (base.size < p + n → inL base s y = (.empty, 0, 3)) ∧ (¬ base.size < p + n → inL base s y = (base.extract p (p + n), t, 0)) := by
  obtain ⟨hlen, hx, _, hr⟩ := h
  rw [if_neg (by decide)] at hr
  obtain ⟨T, hT, hT2⟩ := hr
  match xs, hlen with
  | [x0, x1, x2, x3, x4, x5, x6], _ =>
    refine ⟨x0, x1, x2, x3, x4, x5, x6, rfl, hx _ (by simp), hx _ (by simp), hx _ (by simp), hx _ (by simp), hx _ (by simp), hx _ (by simp), hx _ (by simp), ?_⟩
    intro p l n hp hll hn
    have e1 : val ([x0, x1, x2, x3, x4, x5, x6].take 4) = p := by simp [val]; omega
    have e2 : val ([x0, x1, x2, x3, x4, x5, x6].drop 4) = l := by simp [val]; omega
    rw [e1] at hT
    rw [e2] at hT2
    constructor
    · intro hb
      exact inL_far base s y c0 hy hc hl _ hT rfl _ hT2 rfl n hn hb
    · intro hb
      exact inL_copy base s y c0 hy hc hl _ hT rfl _ hT2 rfl n hn hb

theorem flL_step {base s : ByteArray} {size k y : Nat} {out : List UInt8} {x : ByteArray} {z er : Nat} (hlt : y < s.size) (hk : s.size ≤ y + k) (hr : inL base s y = (x, z, er)) :
    flL base s size k y out = if er = 0 then (if size < out.length + x.size then ([], 3) else flL base s size (k - 1) z (out ++ x.data.toList)) else ([], er) := by
  obtain ⟨j, rfl⟩ : ∃ j, k = j + 1 := ⟨k - 1, by omega⟩
  rw [flL, if_pos hlt, hr]; rfl
end Go.Proofs.Ytekpdnlogfaggaa
