/-
  Decimals: the number of a text of digits, and back.
-/
import Derived.Lib.ItoaNum
namespace Go.Proofs.YtolohndbbnbfbaaDoor

theorem snocInd {α : Type} {motive : List α → Prop} (nil : motive []) (append_singleton : ∀ l a, motive l → motive (l ++ [a])) : ∀ l, motive l := by
  intro l
  have : ∀ k : List α, motive k.reverse := by
    intro k
    induction k with
    | nil => exact nil
    | cons a k ih => rw [List.reverse_cons]; exact append_singleton _ _ ih
  have h := this l.reverse
  rwa [List.reverse_reverse] at h
def isDig (c : UInt8) : Prop := 48 ≤ c.toNat ∧ c.toNat ≤ 57
instance (c : UInt8) : Decidable (isDig c) := by unfold isDig; infer_instance
def stepN (n : Nat) (c : UInt8) : Nat := 10 * n + (c.toNat - 48)
def valL (l : List UInt8) : Nat := l.foldl stepN 0
theorem valL_snoc (l : List UInt8) (c : UInt8) : valL (l ++ [c]) = 10 * valL l + (c.toNat - 48) := by simp [valL, List.foldl_append, stepN]
theorem dig_byte (d : Nat) (h : d < 10) : (UInt8.ofNat (48 + d)).toNat = 48 + d := by
  rw [UInt8.toNat_ofNat']; omega
theorem dig_back (c : UInt8) (h : isDig c) : UInt8.ofNat (48 + (c.toNat - 48)) = c := by
  have : 48 + (c.toNat - 48) = c.toNat := by unfold isDig at h; omega
  rw [this]; simp
theorem dd_small {u : Nat} (h : u < 10) : Lib.decDigits u = [UInt8.ofNat (48 + u)] := Lib.decDigits_one h
theorem dd_big {u : Nat} (h : 10 ≤ u) : Lib.decDigits u = Lib.decDigits (u / 10) ++ [UInt8.ofNat (48 + u % 10)] := by
  rw [Lib.decDigits, dif_neg (by omega)]
theorem dd_val (u : Nat) : valL (Lib.decDigits u) = u := by
  induction u using Nat.strongRecOn with
  | ind u ih =>
    by_cases h : u < 10
    · rw [dd_small h]
      show 10 * 0 + ((UInt8.ofNat (48 + u)).toNat - 48) = u
      rw [dig_byte u h]; omega
    · rw [dd_big (by omega), valL_snoc, ih (u / 10) (by omega), dig_byte (u % 10) (Nat.mod_lt _ (by decide))]; omega
theorem dd_digs (u : Nat) : ∀ c ∈ Lib.decDigits u, isDig c := by
  induction u using Nat.strongRecOn with
  | ind u ih =>
    by_cases h : u < 10
    · rw [dd_small h]
      intro c hc
      rw [List.mem_singleton] at hc
      subst hc
      unfold isDig; rw [dig_byte u h]; omega
    · rw [dd_big (by omega)]
      intro c hc
      rcases List.mem_append.1 hc with hc | hc
      · exact ih _ (by omega) c hc
      · rw [List.mem_singleton] at hc
        subst hc
        have := Nat.mod_lt u (show 0 < 10 by decide)
        unfold isDig; rw [dig_byte _ this]; omega
theorem dd_ne (u : Nat) : Lib.decDigits u ≠ [] := by
  intro h
  have := Lib.decDigits_length u
  have h1 := Lib.nDigits_pos u
  rw [h] at this; simp at this; omega
/-- no nought ahead of a number from 1 on -/
theorem dd_head (u : Nat) (h : 1 ≤ u) : ∃ c r, Lib.decDigits u = c :: r ∧ c ≠ 48 := by
  induction u using Nat.strongRecOn with
  | ind u ih =>
    by_cases h1 : u < 10
    · refine ⟨_, [], dd_small h1, fun hc => ?_⟩
      have := congrArg UInt8.toNat hc
      rw [dig_byte u h1] at this
      simp at this; omega
    · obtain ⟨c, r, he, hc⟩ := ih (u / 10) (by omega) (by omega)
      exact ⟨c, r ++ [_], by rw [dd_big (by omega), he]; rfl, hc⟩
theorem dd_len9 (u : Nat) : (Lib.decDigits u).length ≤ 9 ↔ u ≤ 999999999 := by
  rw [Lib.decDigits_length]
  constructor
  · intro h
    have h1 := Lib.lt_pow_nDigits u
    have h2 : 10 ^ Lib.nDigits u ≤ 10 ^ 9 := Nat.pow_le_pow_right (by decide) h
    have : (10 : Nat) ^ 9 = 1000000000 := by decide
    omega
  · intro h
    refine Classical.byContradiction fun hn => ?_
    have h1 : ∀ v, v < 1000000000 → Lib.nDigits v ≤ 9 := by
      intro v hv
      have key : ∀ k u, u < 10 ^ k → 1 ≤ k → Lib.nDigits u ≤ k := by
        intro k
        induction k with
        | zero => intro u _ h; omega
        | succ k ih =>
          intro u hu _
          by_cases h : u < 10
          · rw [Lib.nDigits_small h]; omega
          · rw [Lib.nDigits_big h]
            have h10 : u / 10 < 10 ^ k := by
              rw [Nat.pow_succ] at hu; omega
            have hk : 1 ≤ k := by
              rcases Nat.eq_zero_or_pos k with rfl | h0
              · simp at hu; omega
              · exact h0
            have := ih (u / 10) h10 hk
            omega
      exact key 9 v (by have : (10 : Nat) ^ 9 = 1000000000 := by decide
                        omega) (by decide)
    exact hn (h1 u (by omega))
/-- a text that is a decimal -/
structure NumOk (l : List UInt8) : Prop where
  ne : l ≠ []
  len : l.length ≤ 9
  head : ∀ r, l = 48 :: r → r = []
  digs : ∀ c ∈ l, isDig c
theorem valL_pos (l : List UInt8) : ∀ c, c ≠ 48 → (∀ x ∈ c :: l, isDig x) → 1 ≤ valL (c :: l) := by
  induction l using snocInd with
  | nil =>
    intro c hc hd
    have := hd c (by simp)
    show 1 ≤ 10 * 0 + (c.toNat - 48)
    have h48 : c.toNat ≠ 48 := fun h => hc (by rw [← UInt8.toNat_inj]; exact h)
    unfold isDig at this; omega
  | append_singleton l d ih =>
    intro c hc hd
    have := ih c hc (fun x hx => hd x (by rcases List.mem_cons.1 hx with rfl | hx <;> simp [*]))
    rw [show c :: (l ++ [d]) = (c :: l) ++ [d] from rfl, valL_snoc]
    omega
theorem back_aux (l : List UInt8) : ∀ c, c ≠ 48 → (∀ x ∈ c :: l, isDig x) → Lib.decDigits (valL (c :: l)) = c :: l := by
  induction l using snocInd with
  | nil =>
    intro c hc hd
    have h := hd c (by simp)
    show Lib.decDigits (10 * 0 + (c.toNat - 48)) = [c]
    rw [dd_small (by unfold isDig at h; omega), show 10 * 0 + (c.toNat - 48) = c.toNat - 48 by omega, dig_back c h]
  | append_singleton l d ih =>
    intro c hc hd
    have hd' : ∀ x ∈ c :: l, isDig x := fun x hx => hd x (by rcases List.mem_cons.1 hx with rfl | hx <;> simp [*])
    have hdd : isDig d := hd d (by simp)
    have hp := valL_pos l c hc hd'
    rw [show c :: (l ++ [d]) = (c :: l) ++ [d] from rfl, valL_snoc]
    have h9 : d.toNat - 48 < 10 := by unfold isDig at hdd; omega
    rw [dd_big (by omega), show (10 * valL (c :: l) + (d.toNat - 48)) / 10 = valL (c :: l) by omega, show (10 * valL (c :: l) + (d.toNat - 48)) % 10 = d.toNat - 48 by omega, ih c hc hd', dig_back d hdd]
theorem num_back (l : List UInt8) (h : NumOk l) : Lib.decDigits (valL l) = l := by
  cases l with
  | nil => exact absurd rfl h.ne
  | cons c r =>
    by_cases hc : c = 48
    · subst hc
      have := h.head r rfl
      subst this
      show Lib.decDigits 0 = _
      rw [dd_small (by decide)]; rfl
    · exact back_aux r c hc h.digs
theorem num_lt (l : List UInt8) (h : ∀ c ∈ l, isDig c) : valL l < 10 ^ l.length := by
  induction l using snocInd with
  | nil => decide
  | append_singleton l d ih =>
    have h1 := ih fun c hc => h c (by simp [hc])
    have h2 := h d (by simp)
    rw [valL_snoc, List.length_append, List.length_singleton, Nat.pow_succ]
    unfold isDig at h2; omega
theorem num_le (l : List UInt8) (h : NumOk l) : valL l ≤ 999999999 := by
  have h1 := num_lt l h.digs
  have h2 : 10 ^ l.length ≤ 10 ^ 9 := Nat.pow_le_pow_right (by decide) h.len
  have : (10 : Nat) ^ 9 = 1000000000 := by decide
  omega
theorem dd_ok (u : Nat) (h : u ≤ 999999999) : NumOk (Lib.decDigits u) := by
  refine ⟨dd_ne u, (dd_len9 u).2 h, fun r hr => ?_, dd_digs u⟩
  by_cases h0 : u = 0
  · subst h0
    rw [dd_small (by decide)] at hr
    simp at hr; exact hr
  · obtain ⟨c, q, he, hc⟩ := dd_head u (by omega)
    rw [he] at hr
    simp at hr; exact absurd hr.1 hc
theorem itoa_ok (n : Int) : NumOk (Lib.itoa n) ↔ 0 ≤ n ∧ n ≤ 999999999 := by
  unfold Lib.itoa
  by_cases h : n < 0
  · rw [if_pos h]
    constructor
    · intro hk
      exact absurd (hk.digs 45 (by simp)) (by decide)
    · intro; omega
  · rw [if_neg h]
    constructor
    · intro hk
      have := (dd_len9 n.toNat).1 hk.len
      omega
    · intro hk
      exact dd_ok _ (by omega)
theorem itoa_val (n : Int) (h : 0 ≤ n) : valL (Lib.itoa n) = n.toNat := by
  unfold Lib.itoa
  rw [if_neg (by omega), dd_val]
theorem itoa_back (l : List UInt8) (h : NumOk l) : Lib.itoa ((valL l : Nat) : Int) = l := by
  unfold Lib.itoa
  rw [if_neg (by omega), Int.toNat_natCast, num_back l h]
end Go.Proofs.YtolohndbbnbfbaaDoor
