/-
  The Gregorian calendar in numbers: days ahead of a year and of a month, dates and seconds, their order.
-/
import Derived.WalkKit
import Derived.Test.YtmhjdahmmdfbcaaGreatDoorSemC
namespace Go.Proofs.YtmhjdahmmdfbcaaGreatDoor
def leapN (y : Nat) : Bool := decide (y % 4 = 0 ∧ (¬ y % 100 = 0 ∨ y % 400 = 0))
def leapI (y : Int) : Bool := decide (y.tmod 4 = 0 ∧ (¬ y.tmod 100 = 0 ∨ y.tmod 400 = 0))
theorem tmod_cast (y k : Nat) : (y : Int).tmod (k : Int) = ((y % k : Nat) : Int) := by
  rw [Int.tmod_eq_emod_of_nonneg (by omega)]; omega
theorem leap_cast (y : Nat) : leapI (y : Int) = leapN y := by
  unfold leapI leapN
  have h1 : (y : Int).tmod (4 : Int) = ((y % 4 : Nat) : Int) := tmod_cast y 4
  have h2 : (y : Int).tmod (100 : Int) = ((y % 100 : Nat) : Int) := tmod_cast y 100
  have h3 : (y : Int).tmod (400 : Int) = ((y % 400 : Nat) : Int) := tmod_cast y 400
  rw [h1, h2, h3, decide_eq_decide]
  omega
/-- the days of a month, in a leap year or not -/
def mdN (l : Bool) : Nat → Nat
  | 1 => 31 | 2 => if l then 29 else 28 | 3 => 31 | 4 => 30 | 5 => 31 | 6 => 30 | 7 => 31 | 8 => 31 | 9 => 30 | 10 => 31 | 11 => 30 | 12 => 31 | _ => 0
def dmN (y m : Nat) : Nat := mdN (leapN y) m
/-- of any numbers -/
def daysI (y m : Int) : Nat := if 1 ≤ m ∧ m ≤ 12 then mdN (leapI y) m.toNat else 0
theorem days_cast (y m : Nat) : daysI (y : Int) (m : Int) = dmN y m := by
  unfold daysI dmN
  rw [leap_cast]
  split
  · rfl
  · rename_i h
    have : m = 0 ∨ 12 < m := by omega
    rcases this with rfl | h
    · rfl
    · obtain ⟨k, rfl⟩ : ∃ k, m = k + 13 := ⟨m - 13, by omega⟩
      rfl
theorem mdN_le (l : Bool) (m : Nat) : mdN l m ≤ 31 := by
  unfold mdN
  split <;> (try split) <;> omega
theorem mdN_ge (l : Bool) (m : Nat) (h1 : 1 ≤ m) (h2 : m ≤ 12) : 28 ≤ mdN l m := by
  have : m = 1 ∨ m = 2 ∨ m = 3 ∨ m = 4 ∨ m = 5 ∨ m = 6 ∨ m = 7 ∨ m = 8 ∨ m = 9 ∨ m = 10 ∨ m = 11 ∨ m = 12 := by omega
  rcases this with rfl | rfl | rfl | rfl | rfl | rfl | rfl | rfl | rfl | rfl | rfl | rfl <;> cases l <;> decide
def ylN (y : Nat) : Nat := if leapN y then 366 else 365
def aheadN (y : Nat) : Nat := (y - 1) * 365 + (y - 1) / 4 - (y - 1) / 100 + (y - 1) / 400
theorem ahead_succ (y : Nat) (h : 1 ≤ y) : aheadN (y + 1) = aheadN y + ylN y := by
  obtain ⟨n, rfl⟩ : ∃ n, y = n + 1 := ⟨y - 1, by omega⟩
  unfold aheadN ylN leapN
  simp only [decide_eq_true_eq, Nat.add_sub_cancel]
  have q4 : (n + 1) / 4 = n / 4 + (if (n + 1) % 4 = 0 then 1 else 0) := by split <;> omega
  have q100 : (n + 1) / 100 = n / 100 + (if (n + 1) % 100 = 0 then 1 else 0) := by split <;> omega
  have q400 : (n + 1) / 400 = n / 400 + (if (n + 1) % 400 = 0 then 1 else 0) := by split <;> omega
  have le : n / 100 ≤ n / 4 := by omega
  have i1 : (n + 1) % 100 = 0 → (n + 1) % 4 = 0 := by omega
  have i2 : (n + 1) % 400 = 0 → (n + 1) % 100 = 0 := by omega
  rw [q4, q100, q400]
  generalize (n + 1) % 4 = r4 at *
  generalize (n + 1) % 100 = r100 at *
  generalize (n + 1) % 400 = r400 at *
  generalize n / 4 = a at *
  generalize n / 100 = b at *
  generalize n / 400 = c at *
  by_cases h1 : r4 = 0 <;> by_cases h2 : r100 = 0 <;> by_cases h3 : r400 = 0 <;> simp [h1, h2, h3] at i1 i2 ⊢ <;> omega
theorem ahead_mono {a b : Nat} (h : a ≤ b) : aheadN a ≤ aheadN b := by
  induction h with
  | refl => exact Nat.le_refl _
  | @step m hm ih =>
    rcases Nat.eq_zero_or_pos m with rfl | h0
    · have : aheadN (0 + 1) = 0 := by decide
      have : aheadN 0 = 0 := by decide
      have hz : a ≤ 0 := hm
      obtain rfl : a = 0 := by omega
      omega
    · rw [ahead_succ m h0]; omega
theorem ahead_last : aheadN 10000 = 3652059 := by decide
/-- the days ahead of a month -/
def mA (y : Nat) : Nat → Nat
  | 0 => 0
  | m + 1 => mA y m + dmN y m
theorem mA_succ (y m : Nat) : mA y (m + 1) = mA y m + dmN y m := rfl
theorem mA_one (y : Nat) : mA y 1 = 0 := rfl
theorem mA_mono (y : Nat) {a b : Nat} (h : a ≤ b) : mA y a ≤ mA y b := by
  induction h with
  | refl => exact Nat.le_refl _
  | step _ ih => rw [mA_succ]; omega
theorem mA_year (y : Nat) : mA y 13 = ylN y := by
  unfold ylN
  cases h : leapN y <;> simp [mA, dmN, mdN, h]
/-- the day's number -/
def dN (y m d : Nat) : Nat := aheadN y + mA y m + (d - 1)
structure IsDay (D y m d : Nat) : Prop where
  y1 : 1 ≤ y
  y2 : y ≤ 9999
  m1 : 1 ≤ m
  m2 : m ≤ 12
  d1 : 1 ≤ d
  d2 : d ≤ dmN y m
  num : dN y m d = D
theorem IsDay.inYear {D y m d : Nat} (h : IsDay D y m d) : aheadN y ≤ D ∧ D < aheadN (y + 1) := by
  have h1 := h.num
  unfold dN at h1
  have h2 := mA_mono y (show m + 1 ≤ 13 by have := h.m2; omega)
  rw [mA_succ, mA_year] at h2
  rw [ahead_succ y h.y1]
  have := h.d2
  have := h.d1
  omega
theorem IsDay.lt {D y m d : Nat} (h : IsDay D y m d) : D < 3652059 := by
  have h1 := h.inYear.2
  have h2 := ahead_mono (show y + 1 ≤ 10000 by have := h.y2; omega)
  rw [ahead_last] at h2
  omega
theorem IsDay.inMonth {D y m d : Nat} (h : IsDay D y m d) : mA y m ≤ D - aheadN y ∧ D - aheadN y < mA y (m + 1) ∧ D - aheadN y = mA y m + (d - 1) := by
  have h1 := h.num
  unfold dN at h1
  rw [mA_succ]
  have := h.d2
  have := h.d1
  omega
def dkN (y m d : Nat) : Nat := y * 10000 + m * 100 + d
theorem dm_le (y m : Nat) : dmN y m ≤ 31 := mdN_le _ _
theorem day_lt {D y m d D' y' m' d' : Nat} (h : IsDay D y m d) (h' : IsDay D' y' m' d') (hk : dkN y m d < dkN y' m' d') : D < D' := by
  have a1 := h.inYear
  have a2 := h'.inYear
  have b1 := h.inMonth
  have b2 := h'.inMonth
  have d2 := h.d2
  have e2 := h'.d2
  have := dm_le y m
  have := dm_le y' m'
  have := h.m1; have := h.m2; have := h'.m1; have := h'.m2
  have := h.d1; have := h'.d1
  unfold dkN at hk
  by_cases hy : y < y'
  · have := ahead_mono (show y + 1 ≤ y' by omega)
    omega
  · by_cases hy2 : y = y'
    · subst hy2
      by_cases hm : m < m'
      · have := mA_mono y (show m + 1 ≤ m' by omega)
        omega
      · by_cases hm2 : m = m'
        · subst hm2; omega
        · exfalso; omega
    · exfalso; omega
theorem day_eq {D y m d y' m' d' : Nat} (h : IsDay D y m d) (h' : IsDay D y' m' d') : y = y' ∧ m = m' ∧ d = d' := by
  have n1 : ¬ dkN y m d < dkN y' m' d' := fun hk => by have := day_lt h h' hk; omega
  have n2 : ¬ dkN y' m' d' < dkN y m d := fun hk => by have := day_lt h' h hk; omega
  have := dm_le y m
  have := dm_le y' m'
  have := h.m1; have := h.m2; have := h'.m1; have := h'.m2
  have := h.d1; have := h'.d1; have := h.d2; have := h'.d2
  unfold dkN at n1 n2
  omega
theorem day_lt_iff {D y m d D' y' m' d' : Nat} (h : IsDay D y m d) (h' : IsDay D' y' m' d') : D < D' ↔ dkN y m d < dkN y' m' d' := by
  constructor
  · intro hl
    by_cases h1 : dkN y m d < dkN y' m' d'
    · exact h1
    · by_cases h2 : dkN y' m' d' < dkN y m d
      · have := day_lt h' h h2; omega
      · exfalso
        have he : y = y' ∧ m = m' ∧ d = d' := by
          have := dm_le y m
          have := dm_le y' m'
          have := h.m1; have := h.m2; have := h'.m1; have := h'.m2
          have := h.d1; have := h'.d1; have := h.d2; have := h'.d2
          unfold dkN at h1 h2
          omega
        obtain ⟨rfl, rfl, rfl⟩ := he
        have := h.num
        have := h'.num
        omega
  · exact day_lt h h'
theorem day_ex (D : Nat) (hD : D < 3652059) : ∃ y m d, IsDay D y m d := by
  have hy : ∀ n, D < aheadN (n + 1) → ∃ y, 1 ≤ y ∧ y ≤ n ∧ aheadN y ≤ D ∧ D < aheadN (y + 1) := by
    intro n
    induction n with
    | zero => intro h; exact absurd h (by show ¬ D < 0; omega)
    | succ n ih =>
      intro h
      by_cases h1 : D < aheadN (n + 1)
      · obtain ⟨y, a, b, c⟩ := ih h1
        exact ⟨y, a, by omega, c⟩
      · exact ⟨n + 1, by omega, by omega, by omega, h⟩
  obtain ⟨y, y1, y2, y3, y4⟩ := hy 9999 (by rw [ahead_last]; exact hD)
  rw [ahead_succ y y1, ← mA_year] at y4
  have hm : ∀ n, D - aheadN y < mA y (n + 1) → ∃ m, m ≤ n ∧ mA y m ≤ D - aheadN y ∧ D - aheadN y < mA y (m + 1) := by
    intro n
    induction n with
    | zero => intro h; exact absurd h (by rw [mA_one]; omega)
    | succ n ih =>
      intro h
      by_cases h1 : D - aheadN y < mA y (n + 1)
      · obtain ⟨m, a, b⟩ := ih h1
        exact ⟨m, by omega, b⟩
      · exact ⟨n + 1, by omega, by omega, h⟩
  obtain ⟨m, m2, m3, m4⟩ := hm 12 (by show D - aheadN y < mA y 13; omega)
  have m1 : 1 ≤ m := by
    rcases Nat.eq_zero_or_pos m with rfl | h
    · rw [mA_one] at m4; omega
    · exact h
  rw [mA_succ] at m4
  exact ⟨y, m, D - aheadN y - mA y m + 1, y1, y2, m1, m2, by omega, by omega, by unfold dN; omega⟩
/-- a second of a day -/
structure IsDate (T y m d h mi s : Nat) : Prop where
  day : IsDay (T / 86400) y m d
  h2 : h = T % 86400 / 3600
  mi2 : mi = T % 86400 / 60 % 60
  s2 : s = T % 86400 % 60
theorem IsDate.lt {T y m d h mi s : Nat} (H : IsDate T y m d h mi s) : T < 315537897600 := by
  have := H.day.lt; omega
theorem date_ex (T : Nat) (h : T < 315537897600) : ∃ y m d, IsDate T y m d (T % 86400 / 3600) (T % 86400 / 60 % 60) (T % 86400 % 60) := by
  obtain ⟨y, m, d, hd⟩ := day_ex (T / 86400) (by omega)
  exact ⟨y, m, d, hd, rfl, rfl, rfl⟩
theorem date_mk {y m d h mi s : Nat} (h1 : h < 24) (h2 : mi < 60) (h3 : s < 60) (hd : IsDay (dN y m d) y m d) : IsDate (dN y m d * 86400 + h * 3600 + mi * 60 + s) y m d h mi s := by
  have e1 : (dN y m d * 86400 + h * 3600 + mi * 60 + s) / 86400 = dN y m d := by omega
  refine ⟨by rw [e1]; exact hd, by omega, by omega, by omega⟩
theorem IsDate.back {T y m d h mi s : Nat} (H : IsDate T y m d h mi s) : T = dN y m d * 86400 + h * 3600 + mi * 60 + s := by
  have h1 := H.day.num
  have h2 := H.h2
  have h3 := H.mi2
  have h4 := H.s2
  omega
/-- the fourteen digits as a number -/
def keyN (y m d h mi s : Nat) : Nat := dkN y m d * 1000000 + h * 10000 + mi * 100 + s
theorem clock {R h mi s : Nat} (hR : R < 86400) (e1 : h = R / 3600) (e2 : mi = R / 60 % 60) (e3 : s = R % 60) : R = h * 3600 + mi * 60 + s ∧ h < 24 ∧ mi < 60 ∧ s < 60 := by omega
theorem date_lt_iff {T y m d h mi s T' y' m' d' h' mi' s' : Nat} (H : IsDate T y m d h mi s) (H' : IsDate T' y' m' d' h' mi' s') : T < T' ↔ keyN y m d h mi s < keyN y' m' d' h' mi' s' := by
  have a := day_lt_iff H.day H'.day
  have b := day_lt_iff H'.day H.day
  obtain ⟨c1, c2, c3, c4⟩ := clock (Nat.mod_lt T (by decide)) H.h2 H.mi2 H.s2
  obtain ⟨e1, e2, e3, e4⟩ := clock (Nat.mod_lt T' (by decide)) H'.h2 H'.mi2 H'.s2
  have f1 := Nat.div_add_mod T 86400
  have f2 := Nat.div_add_mod T' 86400
  clear H H'
  unfold keyN
  generalize T % 86400 = r at *
  generalize T' % 86400 = r' at *
  generalize T / 86400 = q at *
  generalize T' / 86400 = q' at *
  generalize dkN y m d = k at *
  generalize dkN y' m' d' = k' at *
  subst f1 f2 c1 e1
  by_cases h1 : q < q'
  · have := a.1 h1; omega
  · by_cases h2 : q' < q
    · have := b.1 h2; omega
    · have : ¬ k < k' := fun h => h1 (a.2 h)
      have : ¬ k' < k := fun h => h2 (b.2 h)
      omega
theorem date_eq_iff {T y m d h mi s T' y' m' d' h' mi' s' : Nat} (H : IsDate T y m d h mi s) (H' : IsDate T' y' m' d' h' mi' s') : T = T' ↔ keyN y m d h mi s = keyN y' m' d' h' mi' s' := by
  have a := date_lt_iff H H'
  have b := date_lt_iff H' H
  omega
theorem date_eq {T y m d h mi s y' m' d' h' mi' s' : Nat} (H : IsDate T y m d h mi s) (H' : IsDate T y' m' d' h' mi' s') : y = y' ∧ m = m' ∧ d = d' ∧ h = h' ∧ mi = mi' ∧ s = s' := by
  obtain ⟨a, b, c⟩ := day_eq H.day H'.day
  exact ⟨a, b, c, H.h2.trans H'.h2.symm, H.mi2.trans H'.mi2.symm, H.s2.trans H'.s2.symm⟩
end Go.Proofs.YtmhjdahmmdfbcaaGreatDoor
