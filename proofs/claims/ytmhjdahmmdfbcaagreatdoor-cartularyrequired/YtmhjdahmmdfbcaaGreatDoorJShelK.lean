/-
  The Gregorian calendar in numbers: days ahead of a year and of a month, dates and seconds, their order.
  DERIVED: THE SHELF's CONTRACTS AT THIS DUMP, IN PLAIN WORDS (tools/lay-plain.mjs out of 'YtmhjdahmmdfbcaaGreatDoorShelK.lean', which tools/lay-shelf.mjs wrote): THE SAME DECLARATIONS UNDER THE SAME NAMES: 'import', 'namespace', 'open', 'def', 'theorem' AND NOTHING ELSE: no command of the shelf's: FOR A HAND-IN. Each laying: the table of numbers ('.._ren') and one theorem, a field a fact of the dump's own or the kernel's comparison; each contract: ONE APPLICATION.
-/
import Derived.WalkKit
import Derived.Test.YtmhjdahmmdfbcaaGreatDoorJSemC
import Derived.Shelf.Strings.Builder1
import Derived.Shelf.Strings.Builder2
import Derived.Shelf.Small.Strs
import Derived.Shelf.Small.Wraps
import Derived.Shelf.Strings.BuilderF
import Derived.Shelf.Utf8.RuneCount
import Derived.Shelf.Strconv.Itoa0
import Derived.Shelf.Strconv.Itoa1
import Derived.Shelf.LaysM
import Derived.Shelf.Strconv.Itoa2
import Derived.Shelf.Strconv.Itoa3
import Derived.Shelf.Strconv.Clone
import Derived.Shelf.Strings.Search1
import Derived.Shelf.Strings.Search2
import Derived.Shelf.Strings.Search3
import Derived.Shelf.Strings.Cut
import Derived.Shelf.Strings.Count
import Derived.Shelf.Strings.Shaped
import Derived.Shelf.Strings.LastIndex
import Derived.Shelf.Strings.Prefix
import Derived.Shelf.Strings.Split
import Derived.Shelf.Strings.SplitShaped
import Derived.Shelf.Unicode.Decode
import Derived.Shelf.Strings.RuneCount
import Derived.Shelf.Strings.Explode
import Derived.Shelf.Bits.Mul64
import Derived.Shelf.Strings.Repeat
import Derived.Shelf.Unicode.DecodeSlow
import Derived.Shelf.Unicode.DecodeAny
import Derived.Ground.Names2Prog
import Derived.Shelf.Slices.Clone
import Derived.Shelf.Slices.SearchI
import Derived.Ground.SlgnProg
import Derived.Shelf.SlicesE.Clone
import Derived.Test.YtmhjdahmmdfbcaaGreatDoorProg
namespace Go.Proofs.YtmhjdahmmdfbcaaGreatDoor
def leapN (y : Nat) : Bool := decide (y % 4 = 0 ∧ (¬ y % 100 = 0 ∨ y % 400 = 0))
def leapI (y : Int) : Bool := decide (y.tmod 4 = 0 ∧ (¬ y.tmod 100 = 0 ∨ y.tmod 400 = 0))
theorem tmod_cast (y k : Nat) : (y : Int).tmod (k : Int) = ((y % k : Nat) : Int) := by
  rw [Int.tmod_eq_emod_of_nonneg (by omega)]; omega
theorem leap_cast (y : Nat) : leapI (y : Int) = leapN y := by
  unfold leapI leapN
  have h1 : (y : Int).tmod (4 : Int) = ((y % 4 : Nat) : Int) := tmod_cast y 4
  have h2 : (y : Int).tmod (100 : Int) = ((y % 100 : Nat) : Int) := tmod_cast y 100
  have h3 : (y : Int).tmod (400 : Int) = ((y % 400 : Nat) : Int) := tmod_cast y 400
  rw [h1, h2, h3, decide_eq_decide]
  omega
/-- the days of a month, in a leap year or not -/
def mdN (l : Bool) : Nat → Nat
  | 1 => 31 | 2 => if l then 29 else 28 | 3 => 31 | 4 => 30 | 5 => 31 | 6 => 30 | 7 => 31 | 8 => 31 | 9 => 30 | 10 => 31 | 11 => 30 | 12 => 31 | _ => 0
def dmN (y m : Nat) : Nat := mdN (leapN y) m
/-- of any numbers -/
def daysI (y m : Int) : Nat := if 1 ≤ m ∧ m ≤ 12 then mdN (leapI y) m.toNat else 0
theorem days_cast (y m : Nat) : daysI (y : Int) (m : Int) = dmN y m := by
  unfold daysI dmN
  rw [leap_cast]
  split
  · rfl
  · rename_i h
    have : m = 0 ∨ 12 < m := by omega
    rcases this with rfl | h
    · rfl
    · obtain ⟨k, rfl⟩ : ∃ k, m = k + 13 := ⟨m - 13, by omega⟩
      rfl
theorem mdN_le (l : Bool) (m : Nat) : mdN l m ≤ 31 := by
  unfold mdN
  split <;> (try split) <;> omega
def ylN (y : Nat) : Nat := if leapN y then 366 else 365
def aheadN (y : Nat) : Nat := (y - 1) * 365 + (y - 1) / 4 - (y - 1) / 100 + (y - 1) / 400
theorem ahead_succ (y : Nat) (h : 1 ≤ y) : aheadN (y + 1) = aheadN y + ylN y := by
  obtain ⟨n, rfl⟩ : ∃ n, y = n + 1 := ⟨y - 1, by omega⟩
  unfold aheadN ylN leapN
  simp only [decide_eq_true_eq, Nat.add_sub_cancel]
  have q4 : (n + 1) / 4 = n / 4 + (if (n + 1) % 4 = 0 then 1 else 0) := by split <;> omega
  have q100 : (n + 1) / 100 = n / 100 + (if (n + 1) % 100 = 0 then 1 else 0) := by split <;> omega
  have q400 : (n + 1) / 400 = n / 400 + (if (n + 1) % 400 = 0 then 1 else 0) := by split <;> omega
  have le : n / 100 ≤ n / 4 := by omega
  have i1 : (n + 1) % 100 = 0 → (n + 1) % 4 = 0 := by omega
  have i2 : (n + 1) % 400 = 0 → (n + 1) % 100 = 0 := by omega
  rw [q4, q100, q400]
  generalize (n + 1) % 4 = r4 at *
  generalize (n + 1) % 100 = r100 at *
  generalize (n + 1) % 400 = r400 at *
  generalize n / 4 = a at *
  generalize n / 100 = b at *
  generalize n / 400 = c at *
  by_cases h1 : r4 = 0 <;> by_cases h2 : r100 = 0 <;> by_cases h3 : r400 = 0 <;> simp [h1, h2, h3] at i1 i2 ⊢ <;> omega
theorem ahead_mono {a b : Nat} (h : a ≤ b) : aheadN a ≤ aheadN b := by
  induction h with
  | refl => exact Nat.le_refl _
  | @step m hm ih =>
    rcases Nat.eq_zero_or_pos m with rfl | h0
    · have : aheadN (0 + 1) = 0 := by decide
      have : aheadN 0 = 0 := by decide
      have hz : a ≤ 0 := hm
      obtain rfl : a = 0 := by omega
      omega
    · rw [ahead_succ m h0]; omega
theorem ahead_last : aheadN 10000 = 3652059 := by decide
/-- the days ahead of a month -/
def mA (y : Nat) : Nat → Nat
  | 0 => 0
  | m + 1 => mA y m + dmN y m
theorem mA_succ (y m : Nat) : mA y (m + 1) = mA y m + dmN y m := rfl
theorem mA_one (y : Nat) : mA y 1 = 0 := rfl
theorem mA_mono (y : Nat) {a b : Nat} (h : a ≤ b) : mA y a ≤ mA y b := by
  induction h with
  | refl => exact Nat.le_refl _
  | step _ ih => rw [mA_succ]; omega
theorem mA_year (y : Nat) : mA y 13 = ylN y := by
  unfold ylN
  cases h : leapN y <;> simp [mA, dmN, mdN, h]
/-- the day's number -/
def dN (y m d : Nat) : Nat := aheadN y + mA y m + (d - 1)
structure IsDay (D y m d : Nat) : Prop where
  y1 : 1 ≤ y
  y2 : y ≤ 9999
  m1 : 1 ≤ m
  m2 : m ≤ 12
  d1 : 1 ≤ d
  d2 : d ≤ dmN y m
  num : dN y m d = D
theorem IsDay.inYear {D y m d : Nat} (h : IsDay D y m d) : aheadN y ≤ D ∧ D < aheadN (y + 1) := by
  have h1 := h.num
  unfold dN at h1
  have h2 := mA_mono y (show m + 1 ≤ 13 by have := h.m2; omega)
  rw [mA_succ, mA_year] at h2
  rw [ahead_succ y h.y1]
  have := h.d2
  have := h.d1
  omega
theorem IsDay.lt {D y m d : Nat} (h : IsDay D y m d) : D < 3652059 := by
  have h1 := h.inYear.2
  have h2 := ahead_mono (show y + 1 ≤ 10000 by have := h.y2; omega)
  rw [ahead_last] at h2
  omega
theorem IsDay.inMonth {D y m d : Nat} (h : IsDay D y m d) : mA y m ≤ D - aheadN y ∧ D - aheadN y < mA y (m + 1) ∧ D - aheadN y = mA y m + (d - 1) := by
  have h1 := h.num
  unfold dN at h1
  rw [mA_succ]
  have := h.d2
  have := h.d1
  omega
def dkN (y m d : Nat) : Nat := y * 10000 + m * 100 + d
theorem dm_le (y m : Nat) : dmN y m ≤ 31 := mdN_le _ _
theorem day_lt {D y m d D' y' m' d' : Nat} (h : IsDay D y m d) (h' : IsDay D' y' m' d') (hk : dkN y m d < dkN y' m' d') : D < D' := by
  have a1 := h.inYear
  have a2 := h'.inYear
  have b1 := h.inMonth
  have b2 := h'.inMonth
  have d2 := h.d2
  have e2 := h'.d2
  have := dm_le y m
  have := dm_le y' m'
  have := h.m1; have := h.m2; have := h'.m1; have := h'.m2
  have := h.d1; have := h'.d1
  unfold dkN at hk
  by_cases hy : y < y'
  · have := ahead_mono (show y + 1 ≤ y' by omega)
    omega
  · by_cases hy2 : y = y'
    · subst hy2
      by_cases hm : m < m'
      · have := mA_mono y (show m + 1 ≤ m' by omega)
        omega
      · by_cases hm2 : m = m'
        · subst hm2; omega
        · exfalso; omega
    · exfalso; omega
theorem day_lt_iff {D y m d D' y' m' d' : Nat} (h : IsDay D y m d) (h' : IsDay D' y' m' d') : D < D' ↔ dkN y m d < dkN y' m' d' := by
  constructor
  · intro hl
    by_cases h1 : dkN y m d < dkN y' m' d'
    · exact h1
    · by_cases h2 : dkN y' m' d' < dkN y m d
      · have := day_lt h' h h2; omega
      · exfalso
        have he : y = y' ∧ m = m' ∧ d = d' := by
          have := dm_le y m
          have := dm_le y' m'
          have := h.m1; have := h.m2; have := h'.m1; have := h'.m2
          have := h.d1; have := h'.d1; have := h.d2; have := h'.d2
          unfold dkN at h1 h2
          omega
        obtain ⟨rfl, rfl, rfl⟩ := he
        have := h.num
        have := h'.num
        omega
  · exact day_lt h h'
theorem day_ex (D : Nat) (hD : D < 3652059) : ∃ y m d, IsDay D y m d := by
  have hy : ∀ n, D < aheadN (n + 1) → ∃ y, 1 ≤ y ∧ y ≤ n ∧ aheadN y ≤ D ∧ D < aheadN (y + 1) := by
    intro n
    induction n with
    | zero => intro h; exact absurd h (by show ¬ D < 0; omega)
    | succ n ih =>
      intro h
      by_cases h1 : D < aheadN (n + 1)
      · obtain ⟨y, a, b, c⟩ := ih h1
        exact ⟨y, a, by omega, c⟩
      · exact ⟨n + 1, by omega, by omega, by omega, h⟩
  obtain ⟨y, y1, y2, y3, y4⟩ := hy 9999 (by rw [ahead_last]; exact hD)
  rw [ahead_succ y y1, ← mA_year] at y4
  have hm : ∀ n, D - aheadN y < mA y (n + 1) → ∃ m, m ≤ n ∧ mA y m ≤ D - aheadN y ∧ D - aheadN y < mA y (m + 1) := by
    intro n
    induction n with
    | zero => intro h; exact absurd h (by rw [mA_one]; omega)
    | succ n ih =>
      intro h
      by_cases h1 : D - aheadN y < mA y (n + 1)
      · obtain ⟨m, a, b⟩ := ih h1
        exact ⟨m, by omega, b⟩
      · exact ⟨n + 1, by omega, by omega, h⟩
  obtain ⟨m, m2, m3, m4⟩ := hm 12 (by show D - aheadN y < mA y 13; omega)
  have m1 : 1 ≤ m := by
    rcases Nat.eq_zero_or_pos m with rfl | h
    · rw [mA_one] at m4; omega
    · exact h
  rw [mA_succ] at m4
  exact ⟨y, m, D - aheadN y - mA y m + 1, y1, y2, m1, m2, by omega, by omega, by unfold dN; omega⟩
/-- a second of a day -/
structure IsDate (T y m d h mi s : Nat) : Prop where
  day : IsDay (T / 86400) y m d
  h2 : h = T % 86400 / 3600
  mi2 : mi = T % 86400 / 60 % 60
  s2 : s = T % 86400 % 60
theorem IsDate.lt {T y m d h mi s : Nat} (H : IsDate T y m d h mi s) : T < 315537897600 := by
  have := H.day.lt; omega
theorem date_ex (T : Nat) (h : T < 315537897600) : ∃ y m d, IsDate T y m d (T % 86400 / 3600) (T % 86400 / 60 % 60) (T % 86400 % 60) := by
  obtain ⟨y, m, d, hd⟩ := day_ex (T / 86400) (by omega)
  exact ⟨y, m, d, hd, rfl, rfl, rfl⟩
theorem IsDate.back {T y m d h mi s : Nat} (H : IsDate T y m d h mi s) : T = dN y m d * 86400 + h * 3600 + mi * 60 + s := by
  have h1 := H.day.num
  have h2 := H.h2
  have h3 := H.mi2
  have h4 := H.s2
  omega
/-- the fourteen digits as a number -/
def keyN (y m d h mi s : Nat) : Nat := dkN y m d * 1000000 + h * 10000 + mi * 100 + s
theorem clock {R h mi s : Nat} (hR : R < 86400) (e1 : h = R / 3600) (e2 : mi = R / 60 % 60) (e3 : s = R % 60) : R = h * 3600 + mi * 60 + s ∧ h < 24 ∧ mi < 60 ∧ s < 60 := by omega
theorem date_lt_iff {T y m d h mi s T' y' m' d' h' mi' s' : Nat} (H : IsDate T y m d h mi s) (H' : IsDate T' y' m' d' h' mi' s') : T < T' ↔ keyN y m d h mi s < keyN y' m' d' h' mi' s' := by
  have a := day_lt_iff H.day H'.day
  have b := day_lt_iff H'.day H.day
  obtain ⟨c1, c2, c3, c4⟩ := clock (Nat.mod_lt T (by decide)) H.h2 H.mi2 H.s2
  obtain ⟨e1, e2, e3, e4⟩ := clock (Nat.mod_lt T' (by decide)) H'.h2 H'.mi2 H'.s2
  have f1 := Nat.div_add_mod T 86400
  have f2 := Nat.div_add_mod T' 86400
  clear H H'
  unfold keyN
  generalize T % 86400 = r at *
  generalize T' % 86400 = r' at *
  generalize T / 86400 = q at *
  generalize T' / 86400 = q' at *
  generalize dkN y m d = k at *
  generalize dkN y' m' d' = k' at *
  subst f1 f2 c1 e1
  by_cases h1 : q < q'
  · have := a.1 h1; omega
  · by_cases h2 : q' < q
    · have := b.1 h2; omega
    · have : ¬ k < k' := fun h => h1 (a.2 h)
      have : ¬ k' < k := fun h => h2 (b.2 h)
      omega
theorem date_eq_iff {T y m d h mi s T' y' m' d' h' mi' s' : Nat} (H : IsDate T y m d h mi s) (H' : IsDate T' y' m' d' h' mi' s') : T = T' ↔ keyN y m d h mi s = keyN y' m' d' h' mi' s' := by
  have a := date_lt_iff H H'
  have b := date_lt_iff H' H
  omega
end Go.Proofs.YtmhjdahmmdfbcaaGreatDoor
namespace Go.Proofs
open Go.Shelf
def Tryz.laysM171_ren : Go.Shelf.Ren := ⟨fun | 171 => 114 | 243 => 131 | 246 => 142 | 283 => 147 | 284 => 148 | 285 => 149 | 286 => 150 | 129 => 154 | 317 => 153 | 318 => 155 | 319 => 156 | 320 => 157 | 337 => 158 | 338 => 159 | n => n, fun | 3 => 3 | 9 => 9 | 2 => 2 | 4 => 4 | 171 => 154 | 0 => 0 | 53 => 147 | 37 => 71 | 5 => 5 | 173 => 157 | 212 => 163 | 51 => 124 | 20 => 20 | 213 => 164 | 46 => 116 | 232 => 167 | 233 => 168 | n => n, fun | 17 => 4 | 18 => 5 | 19 => 6 | n => n⟩
theorem Tryz.laysM171 : Go.Proofs.LaysM.n171 Tryz.prog Tryz.laysM171_ren := {
  mixed := by kernel_rfl
  f129 := Tryz.func154.trans (congrArg some (by kernel_rfl))
  f171 := Tryz.func114.trans (congrArg some (by kernel_rfl))
  f243 := Tryz.func131.trans (congrArg some (by kernel_rfl))
  f246 := Tryz.func142.trans (congrArg some (by kernel_rfl))
  f283 := Tryz.func147.trans (congrArg some (by kernel_rfl))
  f284 := Tryz.func148.trans (congrArg some (by kernel_rfl))
  f285 := Tryz.func149.trans (congrArg some (by kernel_rfl))
  f286 := Tryz.func150.trans (congrArg some (by kernel_rfl))
  f317 := Tryz.func153.trans (congrArg some (by kernel_rfl))
  f318 := Tryz.func155.trans (congrArg some (by kernel_rfl))
  f319 := Tryz.func156.trans (congrArg some (by kernel_rfl))
  f320 := Tryz.func157.trans (congrArg some (by kernel_rfl))
  f337 := Tryz.func158.trans (congrArg some (by kernel_rfl))
  f338 := Tryz.func159.trans (congrArg some (by kernel_rfl))
  t0 := Tryz.underlying0
  a0 := Tryz.isAgg0
  z0 := Tryz.sizeOf0
  v0 := Tryz.zeroValue0
  t2 := Tryz.underlying2
  a2 := Tryz.isAgg2
  z2 := Tryz.sizeOf2
  v2 := Tryz.zeroValue2
  t3 := Tryz.underlying3
  a3 := Tryz.isAgg3
  z3 := Tryz.sizeOf3
  v3 := Tryz.zeroValue3
  t4 := Tryz.underlying4
  a4 := Tryz.isAgg4
  z4 := Tryz.sizeOf4
  v4 := Tryz.zeroValue4
  t5 := Tryz.underlying5
  a5 := Tryz.isAgg5
  z5 := Tryz.sizeOf5
  v5 := Tryz.zeroValue5
  t9 := Tryz.underlying9
  a9 := Tryz.isAgg9
  z9 := Tryz.sizeOf9
  v9 := Tryz.zeroValue9
  t20 := Tryz.underlying20
  a20 := Tryz.isAgg20
  z20 := Tryz.sizeOf20
  v20 := Tryz.zeroValue20
  t37 := Tryz.underlying71
  a37 := Tryz.isAgg71
  z37 := Tryz.sizeOf71
  v37 := Tryz.zeroValue71
  t46 := Tryz.underlying116
  a46 := Tryz.isAgg116
  z46 := Tryz.sizeOf116
  v46 := Tryz.zeroValue116
  t51 := Tryz.underlying124
  a51 := Tryz.isAgg124
  z51 := Tryz.sizeOf124
  v51 := Tryz.zeroValue124
  t53 := Tryz.underlying147
  a53 := Tryz.isAgg147
  z53 := Tryz.sizeOf147
  v53 := Tryz.zeroValue147
  t171 := Tryz.underlying154
  a171 := Tryz.isAgg154
  z171 := Tryz.sizeOf154
  v171 := Tryz.zeroValue154
  t173 := Tryz.underlying157
  a173 := Tryz.isAgg157
  z173 := Tryz.sizeOf157
  v173 := Tryz.zeroValue157
  t212 := Tryz.underlying163
  a212 := Tryz.isAgg163
  z212 := Tryz.sizeOf163
  v212 := Tryz.zeroValue163
  t213 := Tryz.underlying164
  a213 := Tryz.isAgg164
  z213 := Tryz.sizeOf164
  t232 := Tryz.underlying167
  a232 := Tryz.isAgg167
  z232 := Tryz.sizeOf167
  v232 := Tryz.zeroValue167
  t233 := Tryz.underlying168
  a233 := Tryz.isAgg168
  z233 := Tryz.sizeOf168
  v233 := Tryz.zeroValue168
  g17 := by kernel_rfl
  g18 := by kernel_rfl
  g19 := by kernel_rfl
  i0 := by kernel_rfl
  i2 := by kernel_rfl
  i3 := by kernel_rfl
  i4 := by kernel_rfl
  i5 := by kernel_rfl
  i9 := by kernel_rfl
  i20 := by kernel_rfl
  i37 := by kernel_rfl
  i46 := by kernel_rfl
  i51 := by kernel_rfl
  i53 := by kernel_rfl
  i171 := by kernel_rfl
  i173 := by kernel_rfl
  i212 := by kernel_rfl
  i232 := by kernel_rfl
  i233 := by kernel_rfl
  m17 := by kernel_rfl
  m18 := by kernel_rfl
  m19 := by kernel_rfl }
open Go.RowKit Go.Sort Go.Lib in
/-- strconv.Itoa: "Itoa is equivalent to FormatInt(int64(i), 10).": i's DECIMAL NUMERAL ('Lib.itoa': a '-' where i is negative, then the digits), FOR EVERY int. The world behind the call: the world before it, new blocks behind the heap (the library's 'var a [24]byte'), draws. (LAID: no walk: one application.) -/
theorem Tryz.strconv_Itoa (n : Int) (h0 : -9223372036854775808 ≤ n) (h1 : n ≤ 9223372036854775807) (w : World) (htab : Lib.TabIs Tryz.prog w "internal/strconv.uint64pow10" .u64 Lib.pow10Tab) :
    Calls Tryz.prog 114 #[.int .i64 n] w fun e w' => e = .returned (.string ⟨(Lib.itoa n).toArray⟩) ∧ ∃ k os, w' = grow (w.drewN k) os := Any.strconv_Itoa Tryz.laysM171 n h0 h1 w htab
def Tryz.lays105_ren : Go.Shelf.Ren := ⟨fun | 105 => 115 | 212 => 132 | 99 => 81 | 165 => 133 | 166 => 134 | 170 => 135 | 169 => 136 | 263 => 143 | 264 => 144 | 206 => 101 | 240 => 145 | 241 => 146 | 276 => 151 | 277 => 152 | n => n, fun | 9 => 9 | 3 => 3 | 4 => 4 | 20 => 20 | 0 => 0 | 46 => 116 | 109 => 131 | 5 => 5 | 72 => 135 | 76 => 139 | 51 => 124 | 146 => 125 | 53 => 147 | 148 => 148 | 70 => 133 | 37 => 71 | 75 => 138 | 127 => 144 | 164 => 159 | 80 => 141 | n => n, fun | n => n⟩
theorem Tryz.lays105 : Go.Proofs.Lays.n105 Tryz.prog Tryz.lays105_ren := {
  mixed := by kernel_rfl
  f99 := Tryz.func81.trans (congrArg some (by kernel_rfl))
  f105 := Tryz.func115.trans (congrArg some (by kernel_rfl))
  f165 := Tryz.func133.trans (congrArg some (by kernel_rfl))
  f166 := Tryz.func134.trans (congrArg some (by kernel_rfl))
  f169 := Tryz.func136.trans (congrArg some (by kernel_rfl))
  f170 := Tryz.func135.trans (congrArg some (by kernel_rfl))
  f206 := Tryz.func101.trans (congrArg some (by kernel_rfl))
  f212 := Tryz.func132.trans (congrArg some (by kernel_rfl))
  f240 := Tryz.func145.trans (congrArg some (by kernel_rfl))
  f241 := Tryz.func146.trans (congrArg some (by kernel_rfl))
  f263 := Tryz.func143.trans (congrArg some (by kernel_rfl))
  f264 := Tryz.func144.trans (congrArg some (by kernel_rfl))
  f276 := Tryz.func151.trans (congrArg some (by kernel_rfl))
  f277 := Tryz.func152.trans (congrArg some (by kernel_rfl))
  t0 := Tryz.underlying0
  a0 := Tryz.isAgg0
  z0 := Tryz.sizeOf0
  v0 := Tryz.zeroValue0
  t3 := Tryz.underlying3
  a3 := Tryz.isAgg3
  z3 := Tryz.sizeOf3
  v3 := Tryz.zeroValue3
  t4 := Tryz.underlying4
  a4 := Tryz.isAgg4
  z4 := Tryz.sizeOf4
  v4 := Tryz.zeroValue4
  t5 := Tryz.underlying5
  a5 := Tryz.isAgg5
  z5 := Tryz.sizeOf5
  v5 := Tryz.zeroValue5
  t9 := Tryz.underlying9
  a9 := Tryz.isAgg9
  z9 := Tryz.sizeOf9
  v9 := Tryz.zeroValue9
  t20 := Tryz.underlying20
  a20 := Tryz.isAgg20
  z20 := Tryz.sizeOf20
  v20 := Tryz.zeroValue20
  t37 := Tryz.underlying71
  a37 := Tryz.isAgg71
  z37 := Tryz.sizeOf71
  v37 := Tryz.zeroValue71
  t46 := Tryz.underlying116
  a46 := Tryz.isAgg116
  z46 := Tryz.sizeOf116
  v46 := Tryz.zeroValue116
  t51 := Tryz.underlying124
  a51 := Tryz.isAgg124
  z51 := Tryz.sizeOf124
  v51 := Tryz.zeroValue124
  t53 := Tryz.underlying147
  a53 := Tryz.isAgg147
  z53 := Tryz.sizeOf147
  v53 := Tryz.zeroValue147
  t70 := Tryz.underlying133
  a70 := Tryz.isAgg133
  z70 := Tryz.sizeOf133
  v70 := Tryz.zeroValue133
  t72 := Tryz.underlying135
  a72 := Tryz.isAgg135
  z72 := Tryz.sizeOf135
  v72 := Tryz.zeroValue135
  t75 := Tryz.underlying138
  a75 := Tryz.isAgg138
  z75 := Tryz.sizeOf138
  v75 := Tryz.zeroValue138
  t76 := Tryz.underlying139
  a76 := Tryz.isAgg139
  z76 := Tryz.sizeOf139
  v76 := Tryz.zeroValue139
  t109 := Tryz.underlying131
  a109 := Tryz.isAgg131
  z109 := Tryz.sizeOf131
  v109 := Tryz.zeroValue131
  t127 := Tryz.underlying144
  a127 := Tryz.isAgg144
  z127 := Tryz.sizeOf144
  v127 := Tryz.zeroValue144
  t146 := Tryz.underlying125
  a146 := Tryz.isAgg125
  z146 := Tryz.sizeOf125
  v146 := Tryz.zeroValue125
  t148 := Tryz.underlying148
  a148 := Tryz.isAgg148
  z148 := Tryz.sizeOf148
  v148 := Tryz.zeroValue148
  t164 := Tryz.underlying159
  a164 := Tryz.isAgg159
  z164 := Tryz.sizeOf159
  v164 := Tryz.zeroValue159 }
theorem Tryz.Builder_Extra_105 : Builder.Extra Tryz.prog Tryz.lays105_ren := {
  sizeBuilder := by kernel_rfl
  liesBuilder := by kernel_rfl
  t5 := Tryz.underlying5
  a5 := Tryz.isAgg5
  z5 := Tryz.sizeOf5
  v5 := Tryz.zeroValue5
  infoByte := by kernel_rfl
  cellsByte := by kernel_rfl
  sizeByte := by kernel_rfl
  neB5 := by decide }
open Go.RowKit Go.Lib in
/-- **strings.Repeat: count ≥ 0, the result within one allocation: count copies of s.** (LAID: no walk: one application.) -/
theorem Tryz.strings_Repeat (s : ByteArray) (c : Nat) (w : World) (hc : c ≤ 9223372036854775807) (hlen : s.size * c ≤ 140737488355328) :
    Calls Tryz.prog 115 #[.string s, .int .i64 c] w fun e w' => e = .returned (.string ⟨(Lib.repeatL s.data.toList c).toArray⟩) ∧ Below w.heap.size w w' := Any.strings_Repeat Tryz.lays105 Tryz.Builder_Extra_105 s c w hc hlen
end Go.Proofs
