/-
  Mathematics and walks of the document's Inflate: bits, codes, the stream's box, numbers, symbols, stored blocks, tables.
-/
import Derived.Test.YtddoemeellbhaaaGreatDoorJBitZ
import Derived.Test.YtddoemeellbhaaaGreatDoorJInfR
import Derived.WalkKit
import Derived.WalkSpells
import Derived.WalkLawsBesides
import Derived.Laws.IdiomStrings
import Derived.Laws.BitsAllLaws
import Derived.Deep.QuietTactic
import Derived.BigQuiet
import Derived.Deep.RegionHeld3
import Derived.Deep.MidRow
import Derived.OpenShut
import Derived.OwnWalk
import Derived.BigRegion
import Derived.Laws.AppendOwnNone
import Derived.Deep.AppendLies
import Derived.Deep.RegionLaw
import Derived.Deep.DrawnRows
import Derived.Test.YtddoemeellbhaaaGreatDoorJInfX
import Derived.Test.YtddoemeellbhaaaGreatDoorJFixC
namespace Go.Proofs.YtddoemeellbhaaaGreatDoor
open Go.RowKit
theorem nb_lt : ∀ l : List Bool, nb l < 2 ^ l.length
  | [] => by simp [nb]
  | b :: l => by
    have := nb_lt l
    have := bool_lt b
    rw [nb, List.length_cons, Nat.pow_succ]
    omega
theorem nb_app : ∀ l m : List Bool, nb (l ++ m) = nb l + 2 ^ l.length * nb m
  | [], m => by simp [nb]
  | b :: l, m => by
    rw [List.cons_append, nb, nb, nb_app l m, List.length_cons, Nat.pow_succ, Nat.mul_add, ← Nat.mul_assoc, Nat.mul_comm 2 (2 ^ l.length)]
    omega
theorem nb_take (l : List Bool) (k : Nat) : nb (l.take k) = nb l % 2 ^ k := by
  by_cases hk : k ≤ l.length
  · have h := nb_app (l.take k) (l.drop k)
    rw [List.take_append_drop, List.length_take, Nat.min_eq_left hk] at h
    have h2 := nb_lt (l.take k)
    rw [List.length_take, Nat.min_eq_left hk] at h2
    rw [h, Nat.add_mul_mod_self_left, Nat.mod_eq_of_lt h2]
  · rw [List.take_of_length_le (by omega), Nat.mod_eq_of_lt]
    exact Nat.lt_of_lt_of_le (nb_lt l) (Nat.pow_le_pow_right (by decide) (by omega))
theorem nb_drop (l : List Bool) (k : Nat) : nb (l.drop k) = nb l / 2 ^ k := by
  by_cases hk : k ≤ l.length
  · have h := nb_app (l.take k) (l.drop k)
    rw [List.take_append_drop, List.length_take, Nat.min_eq_left hk] at h
    have h2 := nb_lt (l.take k)
    rw [List.length_take, Nat.min_eq_left hk] at h2
    rw [h, Nat.add_mul_div_left _ _ (Nat.pow_pos (by decide)), Nat.div_eq_of_lt h2, Nat.zero_add]
  · rw [List.drop_of_length_le (by omega), Nat.div_eq_of_lt]
    · rfl
    · exact Nat.lt_of_lt_of_le (nb_lt l) (Nat.pow_le_pow_right (by decide) (by omega))
theorem nb_snoc (l : List Bool) (b : Bool) : nb (l ++ [b]) = nb l + 2 ^ l.length * b.toNat := by
  rw [nb_app]; simp [nb]
/-- The bits of a byte, the lowest first. -/
def bits8 (c : UInt8) : List Bool := (List.range 8).map fun k => (c.toNat / 2 ^ k % 2 == 1)
theorem bits8_len (c : UInt8) : (bits8 c).length = 8 := rfl
theorem bits8_nb (c : UInt8) : nb (bits8 c) = c.toNat := by
  have h := byte_lt c
  unfold bits8
  generalize c.toNat = n at *
  have e : ∀ m : Nat, (m % 2 == 1).toNat = m % 2 := by
    intro m
    rcases Nat.mod_two_eq_zero_or_one m with h | h <;> simp [h]
  simp only [List.range, List.range.loop, List.map_cons, List.map_nil, nb, e]
  simp only [Nat.pow_zero, Nat.div_one]
  omega
/-- The bits of a row of bytes. -/
def bitsL : List UInt8 → List Bool
  | [] => []
  | c :: l => bits8 c ++ bitsL l
theorem bitsL_len : ∀ l : List UInt8, (bitsL l).length = 8 * l.length
  | [] => rfl
  | c :: l => by rw [bitsL, List.length_append, bits8_len, bitsL_len l, List.length_cons]; omega
theorem bitsL_nb : ∀ l : List UInt8, nb (bitsL l) = le l
  | [] => rfl
  | c :: l => by rw [bitsL, nb_app, bits8_nb, bits8_len, bitsL_nb l, le]
theorem bitsL_sub (l : List UInt8) (t k : Nat) : nb (((bitsL l).drop t).take k) = bitsN l t k := by
  rw [nb_take, nb_drop, bitsL_nb]; rfl
/-- The sum, symbol by symbol; how many have a code; how many have a long one. -/
def sm (ln : Nat → Nat) : Nat → Nat
  | 0 => 0
  | k + 1 => sm ln k + (if ln k = 0 then 0 else 2 ^ (15 - ln k))
def nz (ln : Nat → Nat) : Nat → Nat
  | 0 => 0
  | k + 1 => nz ln k + (if ln k = 0 then 0 else 1)
def bg (ln : Nat → Nat) : Nat → Nat
  | 0 => 0
  | k + 1 => bg ln k + (if 1 < ln k then 1 else 0)
theorem kr_step (ln : Nat → Nat) (L n : Nat) : kr ln (L + 1) n = kr ln L n + (if 0 < ln L ∧ ln L ≤ n then 2 ^ (15 - ln L) else 0) := by
  induction n with
  | zero => rw [kr, kr, if_neg (by omega)]
  | succ n ih =>
    rw [kr, kr, ih, cnt]
    by_cases h1 : ln L = n + 1
    · rw [if_neg (by omega : ¬ (0 < ln L ∧ ln L ≤ n)), if_pos (⟨h1, by omega⟩ : ln L = n + 1 ∧ 0 < n + 1), if_pos (by omega : 0 < ln L ∧ ln L ≤ n + 1), h1, Nat.add_mul, Nat.one_mul]
      omega
    · rw [if_neg (by omega : ¬ (ln L = n + 1 ∧ 0 < n + 1)), Nat.add_zero (cnt ln (n + 1) L)]
      by_cases h2 : 0 < ln L ∧ ln L ≤ n
      · rw [if_pos h2, if_pos (by omega)]; omega
      · rw [if_neg h2, if_neg (by omega)]; omega
theorem sm_kr (ln : Nat → Nat) (h : ∀ i, ln i ≤ 15) (L : Nat) : sm ln L = kr ln L 15 := by
  induction L with
  | zero => simp [sm, kr, cnt]
  | succ L ih =>
    have := h L
    rw [sm, ih, kr_step]
    by_cases h0 : ln L = 0
    · rw [if_pos h0, if_neg (by omega)]
    · rw [if_neg h0, if_pos (by omega)]
theorem nz_split (ln : Nat → Nat) (L : Nat) : nz ln L = cnt ln 1 L + bg ln L := by
  induction L with
  | zero => rfl
  | succ L ih =>
    rw [nz, cnt, bg, ih]
    rcases (by omega : ln L = 0 ∨ ln L = 1 ∨ 1 < ln L) with h | h | h
    · rw [if_pos h, if_neg (by omega), if_neg (by omega)]; omega
    · rw [if_neg (by omega), if_pos (by omega), if_neg (by omega)]; omega
    · rw [if_neg (by omega), if_neg (by omega), if_pos h]; omega
theorem bg_lgs (ln : Nat → Nat) (L : Nat) : bg ln L = 0 ↔ lgs ln L ≤ 1 := by
  induction L with
  | zero => simp [bg, lgs]
  | succ L ih =>
    rw [bg, lgs]
    by_cases h : 1 < ln L
    · rw [if_pos h]; omega
    · rw [if_neg h]; omega
theorem cnt1_lgs (ln : Nat → Nat) (L : Nat) (h : 0 < cnt ln 1 L) : 1 ≤ lgs ln L := by
  induction L with
  | zero => simp [cnt] at h
  | succ L ih =>
    rw [cnt] at h
    rw [lgs]
    by_cases h1 : ln L = 1
    · omega
    · rw [if_neg (by omega)] at h
      have := ih (by omega)
      omega
theorem nz_zero (ln : Nat → Nat) (L : Nat) : nz ln L = 0 ↔ lgs ln L = 0 := by
  induction L with
  | zero => simp [nz, lgs]
  | succ L ih =>
    rw [nz, lgs]
    by_cases h : ln L = 0
    · rw [if_pos h]; omega
    · rw [if_neg h]; omega
/-- The document's condition is New's. -/
theorem chk_fit (ln : Nat → Nat) (L : Nat) (h15 : ∀ i, ln i ≤ 15) : (32768 < sm ln L ∨ (sm ln L < 32768 ∧ 0 < nz ln L ∧ ¬ (nz ln L = 1 ∧ cnt ln 1 L = 1))) ↔ ¬ Fit ln L := by
  have e := sm_kr ln h15 L
  have e1 := nz_split ln L
  have e2 := bg_lgs ln L
  have e3 := nz_zero ln L
  have e4 := cnt1_lgs ln L
  rw [e]
  constructor
  · intro h hf
    rcases h with h | ⟨h1, h2, h3⟩
    · have := hf.le; omega
    · rcases hf with hf | hf | ⟨hf, hf1⟩
      · omega
      · omega
      · apply h3; omega
  · intro h
    unfold Fit at h
    by_cases h1 : 32768 < kr ln L 15
    · exact .inl h1
    · refine .inr ⟨by omega, by omega, ?_⟩
      rintro ⟨a, b⟩
      apply h
      omega
/-- The lowest i bits of x, the highest first. -/
def hib (x : Nat) : Nat → List Bool
  | 0 => []
  | i + 1 => (x / 2 ^ i % 2 == 1) :: hib x i
theorem hib_len (x i : Nat) : (hib x i).length = i := by
  induction i with
  | zero => rfl
  | succ i ih => rw [hib, List.length_cons, ih]
theorem nb_hib (x n : Nat) : nb (hib x n).reverse = x % 2 ^ n := by
  induction n with
  | zero => simp [hib, nb, Nat.mod_one]
  | succ n ih =>
    rw [hib, List.reverse_cons, nb_snoc, ih, List.length_reverse, hib_len, Nat.mod_pow_succ]
    congr 2
    rcases Nat.mod_two_eq_zero_or_one (x / 2 ^ n) with h | h <;> simp [h]
/-- Does b begin with a? -/
def beg (b a : List Bool) : Bool := decide (a.length ≤ b.length) && decide (b.take a.length = a)
theorem beg_false_of {b a : List Bool} {i : Nat} (ha : i < a.length) (hb : i < b.length) (h : a[i] ≠ b[i]) : beg b a = false := by
  unfold beg
  by_cases hl : a.length ≤ b.length
  · have : b.take a.length ≠ a := fun he => by
      apply h
      have h1 : (b.take a.length)[i]? = a[i]? := by rw [he]
      rw [List.getElem?_take, if_pos ha, List.getElem?_eq_getElem hb, List.getElem?_eq_getElem ha] at h1
      simpa using h1.symm
    simp [this]
  · simp [hl]
theorem beg_true_of {b a : List Bool} (hl : a.length ≤ b.length) (h : ∀ i (h1 : i < a.length) (h2 : i < b.length), a[i] = b[i]) : beg b a = true := by
  unfold beg
  have : b.take a.length = a := by
    apply List.ext_getElem
    · rw [List.length_take]; omega
    · intro i h1 h2
      rw [List.getElem_take]
      exact (h i h2 (by omega)).symm
  simp [hl, this]
/-- What the document's Read answers, of rows cs and the bits b. -/
def RefRead (cs : Nat → List Bool) (L : Nat) (b : List Bool) (e : Ending) : Prop :=
  (∃ s n : Nat, s < L ∧ n = (cs s).length ∧ 0 < n ∧ beg b (cs s) = true ∧ e = .returned (.tuple #[.int .i64 (s : Int), .int .i64 (n : Int), .int .i64 0])) ∨
  ((∀ j, j < L → 0 < (cs j).length → beg b (cs j) = false) ∧
    (((∃ s, s < L ∧ b.length < (cs s).length ∧ beg (cs s) b = true) ∧ e = .returned (.tuple #[.int .i64 0, .int .i64 0, .int .i64 6])) ∨
     ((∀ s, s < L → b.length < (cs s).length → beg (cs s) b = false) ∧ e = .returned (.tuple #[.int .i64 0, .int .i64 0, .int .i64 3]))))
def csOf (ln : Nat → Nat) (L : Nat) : Nat → List Bool := fun s => hib (codeC ln L s) (ln s)
theorem csOf_len (ln : Nat → Nat) (L s : Nat) : (csOf ln L s).length = ln s := hib_len _ _
theorem rv_prefix (V m n : Nat) (h : m ≤ n) : rv V n / 2 ^ (n - m) = rv V m := by
  induction n with
  | zero => have : m = 0 := by omega
            subst this; simp
  | succ n ih =>
    rcases Nat.lt_or_ge n m with hn | hn
    · have : m = n + 1 := by omega
      subst this; simp
    · have h1 := ih hn
      rw [show n + 1 - m = (n - m) + 1 by omega, Nat.pow_succ, Nat.mul_comm, ← Nat.div_div_eq_div_mul, rv]
      have h2 : (2 * rv V n + V / 2 ^ n % 2) / 2 = rv V n := by omega
      rw [h2, h1]
/-- Without a gap there is always a code. -/
theorem hit_some (ln : Nat → Nat) (L V : Nat) (hk : kr ln L 15 = 32768) (h15 : lgs ln L ≤ 15) (hno : ∀ j, 1 ≤ j → j ≤ lgs ln L → ¬ Hit ln L V j) : False := by
  have key : ∀ j, j ≤ lgs ln L → fstC ln L j + cnt ln j L ≤ rv V j := by
    intro j
    induction j with
    | zero => intro _; rw [cnt_zero]; exact Nat.le_refl _
    | succ j ih =>
      intro hj
      have h1 := ih (by omega)
      have h2 := hno (j + 1) (by omega) hj
      unfold Hit at h2
      have h3 : fstC ln L (j + 1) ≤ rv V (j + 1) := by rw [fstC, rv]; omega
      omega
  have h1 := key _ (Nat.le_refl _)
  have h2 := fst_kr_all ln L (lgs ln L) h15
  rw [← kr_flat ln L (lgs ln L) 15 h15 (Nat.le_refl _), hk] at h2
  have h3 := rv_lt V (lgs ln L)
  have h4 : 2 ^ lgs ln L * 2 ^ (15 - lgs ln L) = 32768 := by rw [← Nat.pow_add, show lgs ln L + (15 - lgs ln L) = 15 by omega]
  have h5 : (fstC ln L (lgs ln L) + cnt ln (lgs ln L) L) * 2 ^ (15 - lgs ln L) < 2 ^ lgs ln L * 2 ^ (15 - lgs ln L) := Nat.mul_lt_mul_of_pos_right (by omega) (Nat.pow_pos (by decide))
  omega
theorem hib_snoc (x c n : Nat) (hc : c < 2) : hib (2 * x + c) (n + 1) = hib x n ++ [(c == 1)] := by
  induction n with
  | zero =>
    have e : (2 * x + c) / 2 ^ 0 % 2 = c := by rw [Nat.pow_zero, Nat.div_one]; omega
    show [((2 * x + c) / 2 ^ 0 % 2 == 1)] = [(c == 1)]
    rw [e]
  | succ n ih =>
    have e : (2 * x + c) / 2 ^ (n + 1) = x / 2 ^ n := by
      rw [Nat.pow_succ, Nat.mul_comm (2 ^ n) 2, ← Nat.div_div_eq_div_mul]
      congr 1
      omega
    rw [hib, ih, e]; rfl
theorem nb_bit (b : List Bool) (n : Nat) (h : n < b.length) : (nb b / 2 ^ n % 2 == 1) = b[n] := by
  rw [← nb_drop, List.drop_eq_getElem_cons h, nb]
  cases b[n]
  · have : (false.toNat + 2 * nb (b.drop (n + 1))) % 2 = 0 := by simp
    rw [this]; rfl
  · have : (true.toNat + 2 * nb (b.drop (n + 1))) % 2 = 1 := by simp
    rw [this]; rfl
theorem take_hib (b : List Bool) (n : Nat) (h : n ≤ b.length) : b.take n = hib (rv (nb b) n) n := by
  induction n with
  | zero => simp [hib]
  | succ n ih =>
    rw [rv, hib_snoc _ _ _ (Nat.mod_lt _ (by decide)), ← ih (by omega), nb_bit b n (by omega), List.take_succ_eq_append_getElem (by omega)]
theorem hib_inj (x y n : Nat) (hx : x < 2 ^ n) (hy : y < 2 ^ n) (h : hib x n = hib y n) : x = y := by
  have h1 := nb_hib x n
  rw [h, nb_hib, Nat.mod_eq_of_lt hx, Nat.mod_eq_of_lt hy] at h1
  exact h1.symm
theorem hib_take (c n l : Nat) (h : l ≤ n) : (hib c n).take l = hib (c / 2 ^ (n - l)) l := by
  induction n generalizing l with
  | zero => have : l = 0 := by omega
            subst this; rfl
  | succ n ih =>
    rcases l with _ | l
    · rfl
    · rw [hib, List.take_succ_cons, ih l (by omega), hib]
      congr 1
      · rw [Nat.div_div_eq_div_mul, ← Nat.pow_add]
        congr 4
        omega
      · rw [show n + 1 - (l + 1) = n - l by omega]
/-- b begins with a code just if its bits so far are that code. -/
theorem beg_code (b : List Bool) (c n : Nat) (hc : c < 2 ^ n) : beg b (hib c n) = true ↔ n ≤ b.length ∧ rv (nb b) n = c := by
  unfold beg
  rw [hib_len, Bool.and_eq_true, decide_eq_true_eq, decide_eq_true_eq]
  constructor
  · rintro ⟨h1, h2⟩
    rw [take_hib b n h1] at h2
    exact ⟨h1, hib_inj _ _ n (rv_lt _ _) hc h2⟩
  · rintro ⟨h1, h2⟩
    exact ⟨h1, by rw [take_hib b n h1, h2]⟩
/-- A longer code begins with b. -/
theorem code_beg (b : List Bool) (c n : Nat) (h : b.length ≤ n) (he : c / 2 ^ (n - b.length) = rv (nb b) b.length) : beg (hib c n) b = true := by
  unfold beg
  rw [hib_len, Bool.and_eq_true, decide_eq_true_eq, decide_eq_true_eq]
  refine ⟨h, ?_⟩
  rw [hib_take c n b.length h, he, ← take_hib b b.length (Nat.le_refl _), List.take_length]
/-- Where no code has come and more bits are wanting, some code goes on so. -/
theorem more_some (ln : Nat → Nat) (L : Nat) (b : List Bool) (hf : Fit ln L) (h15 : ∀ i, ln i ≤ 15) (hl : b.length < lgs ln L) (hno : ∀ j, 1 ≤ j → j ≤ b.length → ¬ Hit ln L (nb b) j) :
    ∃ s, s < L ∧ b.length < ln s ∧ beg (csOf ln L s) b = true := by
  rcases hf with hk | h0 | ⟨h1, h2⟩
  · have h15' : lgs ln L ≤ 15 := lgs_le ln 15 h15 L
    have hex : ∃ j, 1 ≤ j ∧ j ≤ lgs ln L ∧ Hit ln L (nb b) j := Classical.byContradiction fun hn =>
      hit_some ln L (nb b) hk h15' fun j hj1 hj2 hh => hn ⟨j, hj1, hj2, hh⟩
    obtain ⟨j, hj1, hj2, hh⟩ := hex
    have hjl : b.length < j := by
      rcases Nat.lt_or_ge b.length j with h | h
      · exact h
      · exact absurd hh (hno j hj1 h)
    unfold Hit at hh
    obtain ⟨s, hsL, hsn, hsp, hsi⟩ := cnt_at ln j (rv (nb b) j - fstC ln L j) L (by omega)
    have hcode : codeC ln L s = rv (nb b) j := by
      unfold codeC
      rw [hsn, if_neg (by omega), hsi]
      omega
    refine ⟨s, hsL, by omega, ?_⟩
    unfold csOf
    rw [hcode, hsn]
    exact code_beg b _ j (by omega) (rv_prefix (nb b) b.length j (by omega))
  · omega
  · have hb : b = [] := List.eq_nil_of_length_eq_zero (by omega)
    obtain ⟨s, hsL, hsn, _,_⟩ := cnt_at ln 1 0 L (by omega)
    refine ⟨s, hsL, by rw [hb, hsn]; decide, ?_⟩
    rw [hb]
    unfold beg
    simp

end Go.Proofs.YtddoemeellbhaaaGreatDoor
namespace Go.Proofs.YtddoemeellbhaaaGreatDoor
open Go.RowKit
theorem sub_len (X : List UInt8) (t n : Nat) : (((bitsL X).drop t).take n).length = min n (total X - t) := by
  rw [List.length_take, List.length_drop, bitsL_len]; rfl
theorem bits_split (X : List UInt8) (t a b : Nat) : bitsN X t (a + b) = bitsN X t a + 2 ^ a * bitsN X (t + a) b := by
  unfold bitsN
  rw [Nat.pow_add 2 t a, ← Nat.div_div_eq_div_mul, Nat.pow_add, Nat.mod_mul]
theorem bits_one (X : List UInt8) (t : Nat) : bitsN X t 1 = bitsN X t 3 % 2 ∧ bitsN X (t + 1) 2 = bitsN X t 3 / 2 := by
  have h := bits_split X t 1 2
  have h1 := bitsN_lt X t 1
  simp only [Nat.pow_one] at h h1
  have e : bitsN X t (1 + 2) = bitsN X t 3 := rfl
  omega
theorem bits_counts (X : List UInt8) (t : Nat) : bitsN X t 5 = bitsN X t 14 % 32 ∧ bitsN X (t + 5) 5 = bitsN X t 14 / 32 % 32 ∧ bitsN X (t + 10) 4 = bitsN X t 14 / 1024 := by
  have h := bits_split X t 5 9
  have g := bits_split X (t + 5) 5 4
  have h1 := bitsN_lt X t 5
  have h2 := bitsN_lt X (t + 5) 5
  have e : bitsN X t (5 + 9) = bitsN X t 14 := rfl
  have e2 : bitsN X (t + 5) (5 + 4) = bitsN X (t + 5) 9 := rfl
  have e3 : t + 5 + 5 = t + 10 := by omega
  rw [e3] at g
  rw [e] at h
  rw [e2] at g
  simp only [show (2 : Nat) ^ 5 = 32 from rfl] at *
  omega
theorem bits_two (X : List UInt8) (a : Nat) : bitsN X (8 * a) 16 = le ((X.drop a).take 2) := by
  have h := peek_bits X a 0 2 16 (by decide)
  rw [Nat.pow_zero, Nat.div_one, Nat.add_zero] at h
  rw [← h, Nat.mod_eq_of_lt]
  have := le_lt ((X.drop a).take 2)
  exact Nat.lt_of_lt_of_le this (Nat.le_trans (Nat.pow_le_pow_right (by decide) (by rw [List.length_take]; exact Nat.min_le_left 2 _)) (by decide))
theorem bits_byte (X : List UInt8) (a : Nat) (h : a < X.length) : bitsN X (8 * a) 8 = X[a].toNat := by
  have h1 := peek_bits X a 0 1 8 (by decide)
  rw [Nat.pow_zero, Nat.div_one, Nat.add_zero] at h1
  rw [← h1, List.drop_eq_getElem_cons h]
  have := byte_lt X[a]
  rw [List.take_succ_cons, List.take_zero, le, le, Nat.mul_zero, Nat.add_zero]
  exact Nat.mod_eq_of_lt this
theorem byte_back (c : UInt8) : UInt8.ofNat c.toNat = c := by simp
/-- what the document's Read answers at a place is the relation's symbol -/
theorem sym_of_ref {c : Cd} {X : List UInt8} {t : Nat} {b : List Bool} {e : Ending} (hf : Fit c.ln c.L) (h15 : ∀ i, c.ln i ≤ 15) (hb : b = ((bitsL X).drop t).take 16) (ht : t ≤ total X) (h : RefRead (csOf c.ln c.L) c.L b e) :
    (∃ s n : Nat, SymR c X t (.inr (s, t + n)) ∧ n ≤ 15 ∧ t + n ≤ total X ∧ s < c.L ∧ 0 < n ∧ e = .returned (.tuple #[.int .i64 (s : Int), .int .i64 (n : Int), .int .i64 0])) ∨
    (∃ r : Nat, (r = 6 ∨ r = 3) ∧ SymR c X t (.inl r) ∧ e = .returned (.tuple #[.int .i64 0, .int .i64 0, .int .i64 (r : Int)])) := by
  have hl : b.length = min 16 (total X - t) := by rw [hb, sub_len]
  have hn : nb b = bitsN X t 16 := by rw [hb, bitsL_sub]
  have hrv : ∀ n, n ≤ 15 → rv (nb b) n = rv (bitsFrom X t) n := fun n hn15 => by
    rw [hn]; exact rv_mod _ 16 n (by omega)
  have hcl : ∀ s, s < c.L → codeC c.ln c.L s < 2 ^ c.ln s := fun s hs => codeC_lt c.ln c.L s hs (h15 s) hf.le
  have hbeg : ∀ s, s < c.L → 0 < c.ln s → (beg b (csOf c.ln c.L s) = true ↔ Next c X t s) := fun s hs h0 => by
    have h1 := beg_code b (codeC c.ln c.L s) (c.ln s) (hcl s hs)
    rw [hrv _ (h15 s)] at h1
    have := h15 s
    refine h1.trans ⟨fun ⟨g1, g2⟩ => ⟨hs, h0, by omega, g2⟩, fun ⟨_,_, g3, g4⟩ => ⟨by omega, g4⟩⟩
  rcases h with ⟨s, n, hs, hsn, h0, hbt, he⟩ | ⟨hno, hk⟩
  · rw [csOf_len] at hsn
    have hx := (hbeg s hs (by omega)).1 hbt
    refine .inl ⟨s, n, ?_, by rw [hsn]; exact h15 s, by rw [hsn]; exact hx.2.2.1, hs, h0, he⟩
    rw [hsn]
    exact .hit s hx
  · have hnn : ∀ s, ¬ Next c X t s := fun s hx => by
      have h1 := (hbeg s hx.1 hx.2.1).2 hx
      rw [hno s hx.1 (by rw [csOf_len]; exact hx.2.1)] at h1
      cases h1
    rcases hk with ⟨⟨s, hs, hsl, _⟩, he⟩ | ⟨hall, he⟩
    · rw [csOf_len] at hsl
      have g1 := lgs_ge c.ln c.L s hs
      have g2 := h15 s
      exact .inr ⟨6, .inl rfl, .short hnn (by omega), he⟩
    · refine .inr ⟨3, .inr rfl, .none hnn ?_, he⟩
      have h15' : lgs c.ln c.L ≤ 15 := lgs_le c.ln 15 h15 c.L
      rcases Nat.lt_or_ge b.length (lgs c.ln c.L) with hlt | hge
      · obtain ⟨s, hs, hs1, hs2⟩ := more_some c.ln c.L b hf h15 hlt (fun j hj1 hj2 hh => by
          unfold Hit at hh
          obtain ⟨s, hsL, hsn, hsp, hsi⟩ := cnt_at c.ln j (rv (nb b) j - fstC c.ln c.L j) c.L (by omega)
          have hcode : codeC c.ln c.L s = rv (nb b) j := by
            unfold codeC
            rw [hsn, if_neg (by omega), hsi]
            omega
          have hj15 := h15 s
          refine hnn s ⟨hsL, by omega, by omega, ?_⟩
          rw [hsn, ← hrv j (by omega), hcode])
        rw [hall s hs (by rw [csOf_len]; exact hs1)] at hs2
        cases hs2
      · omega
/-- a stored block, byte by byte -/
theorem stored_short {X : List UInt8} {most t : Nat} {o : List UInt8} {a : Nat} (ha : a = (t + 7) / 8) (h : X.length < a + 4) : storedR X most t o = .bad 6 := by
  unfold storedR; simp only; rw [← ha, if_pos h]
theorem stored_text {X : List UInt8} {most t : Nat} {o : List UInt8} {a n m : Nat} (ha : a = (t + 7) / 8) (h : a + 4 ≤ X.length) (hn : bitsN X (8 * a) 16 = n) (hm : bitsN X (8 * a + 16) 16 = m) (hs : n + m ≠ 65535) : storedR X most t o = .bad 3 := by
  unfold storedR; simp only
  rw [show 8 * a + 16 = 8 * (a + 2) by omega, bits_two] at hm
  rw [bits_two] at hn
  rw [← ha, if_neg (by omega), hn, hm, if_pos hs]
theorem stored_go {X : List UInt8} {most t : Nat} {o : List UInt8} {a n m : Nat} (ha : a = (t + 7) / 8) (h : a + 4 ≤ X.length) (hn : bitsN X (8 * a) 16 = n) (hm : bitsN X (8 * a + 16) 16 = m) (hs : n + m = 65535) :
    storedR X most t o = if most < o.length + min n (X.length - (a + 4)) then .bad 2 else if min n (X.length - (a + 4)) < n then .bad 6 else .good (8 * (a + 4 + n)) (o ++ (X.drop (a + 4)).take n) := by
  unfold storedR; simp only
  rw [show 8 * a + 16 = 8 * (a + 2) by omega, bits_two] at hm
  rw [bits_two] at hn
  rw [← ha, if_neg (by omega), hn, hm, if_neg (by omega)]
theorem take_oneI (X : List UInt8) (a i : Nat) (h : a + i < X.length) : (X.drop a).take (i + 1) = (X.drop a).take i ++ [X[a + i]] := by
  rw [List.take_succ_eq_append_getElem (by rw [List.length_drop]; omega)]
  simp
/-- what the document's tables hold -/
def lenN : Nat → Nat
  | 0 => 3
  | i + 1 => lenN i + 2 ^ (lenOf (257 + i)).2
def distN : Nat → Nat
  | 0 => 1
  | i + 1 => distN i + 2 ^ (distOf i).2
theorem lenN_eq : ∀ i : Fin 28, lenN i.val = (lenOf (257 + i.val)).1 ∧ (lenOf (257 + i.val)).2 = (if i.val < 8 then 0 else i.val / 4 - 1) ∧ lenN i.val ≤ 258 := by decide +kernel
theorem distN_eq : ∀ i : Fin 30, distN i.val = (distOf i.val).1 ∧ (distOf i.val).2 = (if i.val < 4 then 0 else i.val / 2 - 1) ∧ distN i.val ≤ 32768 := by decide +kernel
end Go.Proofs.YtddoemeellbhaaaGreatDoor
namespace Go.Proofs.YtddoemeellbhaaaGreatDoor
open Go.RowKit
set_option maxRecDepth 100000 in
theorem bits8_take (c : UInt8) (k : Nat) (h : k < 8) : (bits8 c).take (k + 1) = (bits8 c).take k ++ [(c.toNat / 2 ^ k % 2 == 1)] := by
  rw [List.take_succ_eq_append_getElem (by rw [bits8_len]; exact h)]
  congr 2
  simp [bits8]
set_option maxRecDepth 100000 in
theorem bitsL_app : ∀ l m : List UInt8, bitsL (l ++ m) = bitsL l ++ bitsL m
  | [], _ => rfl
  | c :: l, m => by rw [List.cons_append, bitsL, bitsL, bitsL_app l m, List.append_assoc]
set_option maxRecDepth 100000 in
theorem Tryz.info4 : (Tryz.prog.info? 4).map (fun i => (i.zero, i.size, i.bytes)) = some (some (.bool false), 1, 1) := by kernel_rfl
def boolsV (l : List Bool) : List Value := l.map Value.bool
set_option maxRecDepth 100000 in
theorem boolsV_len (l : List Bool) : (boolsV l).length = l.length := by simp [boolsV]
set_option maxRecDepth 100000 in
theorem boolsV_app (l m : List Bool) : boolsV (l ++ m) = boolsV l ++ boolsV m := by simp [boolsV]
set_option maxRecDepth 100000 in
theorem boolsV_at (l : List Bool) (j : Nat) (h : j < l.length) : (boolsV l)[j]? = some (.bool l[j]) := by simp [boolsV, h]
/-- The value v owns just the bits l. -/
def OwnL (w : World) (base : Nat) (v : Value) (l : List Bool) : Prop := w.ownsRow base 4 1 v l.length (boolsV l)
set_option maxRecDepth 100000 in
theorem ownL_empty (w : World) : OwnL (w.alloc (.cells #[] 4)) w.heap.size (.slice (some ⟨w.heap.size, 0, none⟩) 0 0) [] :=
  World.ownsRow_lit w #[] 0 (Nat.le_refl _) (Nat.zero_le _) rfl
set_option maxRecDepth 100000 in
theorem ownL_push {w1 : World} {B : Nat} {v' : Value} {P : List Bool} {c : Bool} (h : w1.ownsRow B 4 1 v' (P.length + 1) (boolsV P ++ [.bool c])) : OwnL w1 B v' (P ++ [c]) := by
  unfold OwnL
  rw [boolsV_app]
  simpa [boolsV] using h
set_option maxRecDepth 100000 in
theorem belowL_push {w wr w1 : World} {B : Nat} {v : Value} {P : List Bool} {o : Obj} (hown : OwnL wr B v P) (hb : Below B w wr) (hB : B ≤ wr.heap.size) (hg : (wr.alloc o).grownBy w1 v.ownBlock) : Below B w w1 :=
  (hb.alloc hB o).grown hg (by simp; omega) (fun k hk => (World.ownsRow.lt hown k hk).1)
set_option maxRecDepth 100000 in
theorem cell_new_bit (w : World) (v : Value) : ∀ j u, [v][j]? = some u → (w.alloc (.cells #[v] 4)).cell? ((⟨w.heap.size, 0, none⟩ : Addr).add j) = some u := by
  intro j u hj
  match j, hj with
  | 0, hj => simp at hj; subst hj; simp [Addr.add]
/-- A row of bits that is read. -/
def BAt (w : World) (a : Option Addr) (l : List Bool) : Prop :=
  l = [] ∨ ∃ b off, a = some ⟨b, off, none⟩ ∧ ∀ i (h : i < l.length), w.cell? ⟨b, off + i, none⟩ = some (.bool l[i])
set_option maxRecDepth 100000 in
theorem BAt.get {w : World} {a : Option Addr} {l : List Bool} (h : BAt w a l) (i : Nat) (hi : i < l.length) : ∃ b off, a = some ⟨b, off, none⟩ ∧ w.cell? ⟨b, off + i, none⟩ = some (.bool l[i]) := by
  rcases h with h0 | ⟨b, off, rfl, hc⟩
  · subst h0; simp at hi
  · exact ⟨b, off, rfl, hc i hi⟩
set_option maxRecDepth 100000 in
theorem BAt.below {w w' : World} {a : Option Addr} {l : List Bool} (h : BAt w a l) (hb : Below w.heap.size w w') : BAt w' a l := by
  rcases h with h0 | ⟨b, off, rfl, hc⟩
  · exact .inl h0
  · exact .inr ⟨b, off, rfl, fun i hi => (hb.cell (p := ⟨b, off + i, none⟩) (World.block_lt_of_cell? w _ (hc i hi))).trans (hc i hi)⟩
set_option maxRecDepth 100000 in
/-- What a value that owns bits looks like to a reader. -/
theorem OwnL.bat {w : World} {B : Nat} {v : Value} {l : List Bool} (h : OwnL w B v l) : ∃ a cap, v = .slice a l.length cap ∧ BAt w a l := by
  rcases h.2 with ⟨rfl, hn⟩ | ⟨g, cap, cur, rfl, hb, hg, hnc, hcm, hcs, htake⟩
  · exact ⟨none, 0, by rw [hn], .inl (List.eq_nil_of_length_eq_zero hn)⟩
  · refine ⟨_, cap, rfl, .inr ⟨g, 0, rfl, fun i hi => ?_⟩⟩
    have := World.ownsRow.cells (g := g) h rfl i _ (boolsV_at l i hi)
    rwa [Addr.add_lit] at this
set_option maxRecDepth 100000 in
theorem OwnL.below {w w' : World} {B : Nat} {v : Value} {l : List Bool} (h : OwnL w B v l) (hb : Below w.heap.size w w') : OwnL w' B v l := by
  refine ⟨h.1, ?_⟩
  rcases h.2 with h0 | ⟨g, cap, cur, hv, hg, hc, hr⟩
  · exact .inl h0
  · exact .inr ⟨g, cap, cur, hv, hg, by rw [hb.block g ((Array.getElem?_eq_some_iff.1 hc).1)]; exact hc, hr⟩
/-- The same, and the value is not nil. -/
def OwnSI (w : World) (B : Nat) (v : Value) (l : List Bool) : Prop := OwnL w B v l ∧ ∃ g c, v = .slice (some ⟨g, 0, none⟩) l.length c
set_option maxRecDepth 100000 in
theorem ownS_empty (w : World) : OwnSI (w.alloc (.cells #[] 4)) w.heap.size (.slice (some ⟨w.heap.size, 0, none⟩) 0 0) [] := ⟨ownL_empty w, _,_, rfl⟩
set_option maxRecDepth 100000 in
theorem ownS_push {w1 : World} {B : Nat} {v' : Value} {P : List Bool} {c : Bool} (h : w1.ownsRow B 4 1 v' (P.length + 1) (boolsV P ++ [.bool c])) : OwnSI w1 B v' (P ++ [c]) := by
  refine ⟨ownL_push h, ?_⟩
  rcases h.2 with ⟨_, hn⟩ | ⟨g, cap, cur, hv, _⟩
  · omega
  · exact ⟨g, cap, by rw [hv, List.length_append]; rfl⟩
set_option maxHeartbeats 400000 in
set_option maxRecDepth 100000 in
theorem number_anyI (a : Option Addr) (cap : Nat) (l : List Bool) (w : World) (hl : l.length ≤ 1000000000) (h : BAt w a l) :
    Calls Tryz.prog 149 #[.slice a l.length cap] w fun e w' => e = .returned (.int .u32 ((nb l % 4294967296 : Nat) : Int)) ∧ w' = w := by
  have H := hidM h
  clear h
  obtain ⟨L, hL⟩ : ∃ L, L = l.length := ⟨_, rfl⟩
  have HL := hidM hL
  rw [← hL] at hl
  rw [← hL]
  clear hL
  go_enter Tryz.func149, Tryz.ntmps149
  go_wp2
  go_loop [3, 4] (fun x i => ∃ k : Nat, k ≤ L ∧ i = .int .i64 ((k : Int) - 1) ∧ x = .int .u32 ((nb (l.drop k) % 4294967296 : Nat) : Int)) (fun _ i => (intOf i + 1).toNat)
  case atStart => exact ⟨L, Nat.le_refl _, rfl, val_int (by rw [List.drop_of_length_le (by rw [HL.out]; exact Nat.le_refl _)]; rfl)⟩
  case round =>
    obtain ⟨k, hk, rfl, rfl⟩ := hrel
    rcases k with _ | k
    · go_wp2
      go_ret
      exact ⟨ret_int (by simp), rfl⟩
    · have hkl : k < l.length := by rw [← HL.out]; omega
      have e1 : ((k + 1 : Nat) : Int) - 1 = (k : Int) := by omega
      simp only [e1]
      clear e1
      obtain ⟨b, off, rfl, hc⟩ := H.out.get k hkl
      have HS : Hid (nb (l.drop k) = l[k].toNat + 2 * nb (l.drop (k + 1))) := by unfold Hid; rw [List.drop_eq_getElem_cons hkl, nb]
      have hkL : k < L := by omega
      generalize l[k] = c at *
      generalize nb (l.drop (k + 1)) = y at *
      cases c
      · go_wp2
        go_round
        case rel => exact ⟨k, by omega, by go_num, val_int (by rw [HS.out]; simp; omega)⟩
        case measure => simp [intOf]
      · go_wp2
        go_round
        case rel => exact ⟨k, by omega, by go_num, val_int (by rw [HS.out]; simp; omega)⟩
        case measure => simp [intOf]
set_option maxRecDepth 100000 in
theorem bit_of (c : UInt8) (k : Nat) : (bits .and .u8 ((c.toNat : Int) / 2 ^ k) 1 == 1) = (c.toNat / 2 ^ k % 2 == 1) := by
  have h := byte_lt c
  have e : (c.toNat : Int) / 2 ^ k = ((c.toNat / 2 ^ k : Nat) : Int) := by simp
  have h2 : c.toNat / 2 ^ k < 256 := Nat.lt_of_le_of_lt (Nat.div_le_self _ _) h
  rw [e, show (1 : Int) = ((1 : Nat) : Int) from rfl, u8_and_nat _ _ h2 (by decide), Nat.and_one_is_mod]
  generalize c.toNat / 2 ^ k % 2 = r
  by_cases hr : r = 1
  · subst hr; rfl
  · have h1 : (r == 1) = false := by simpa using hr
    have h2 : ((r : Int) == ((1 : Nat) : Int)) = false := by simp; omega
    rw [h1, h2]
set_option maxRecDepth 100000 in
theorem bitsL_part (s : ByteArray) (i : Nat) (hi : i < s.size) : bitsL (s.data.toList.take (i + 1)) = bitsL (s.data.toList.take i) ++ bits8 s[i] := by
  rw [List.take_succ_eq_append_getElem (by simpa using hi), bitsL_app, show bitsL [s.data.toList[i]'(by simpa using hi)] = bits8 s[i] ++ [] from rfl, List.append_nil]
set_option maxHeartbeats 1000000 in
set_option maxRecDepth 100000 in
theorem rbits_any (s : ByteArray) (w : World) (hs : s.size ≤ 1000000000) :
    Calls Tryz.prog 101 #[.string s] w fun e w' => (∃ v, e = .returned v ∧ OwnSI w' w.heap.size v (bitsL s.data.toList)) ∧ Below w.heap.size w w' := by
  obtain ⟨i0, hi, hz0, hz1, hz2⟩ := info_parts Tryz.info4
  have HST := hidM (ownS_empty w)
  have HB0 : Hid (Below w.heap.size w (w.alloc (.cells #[] 4))) := (Below.refl _ _).alloc (Nat.le_refl _) _
  go_enter Tryz.func101, Tryz.ntmps101
  go_wp2
  go_loopw [3, 4, 5] (fun v i _ wr => ∃ k : Nat, k ≤ s.size ∧ i = .int .i64 k ∧ OwnSI wr w.heap.size v (bitsL (s.data.toList.take k)) ∧ Below w.heap.size w wr) (fun _ i _ _ => s.size - (intOf i).toNat)
  case atStart => exact ⟨0, Nat.zero_le _, rfl, HST.out, HB0.out⟩
  case round =>
    obtain ⟨k, hk, rfl, hown, hbr⟩ := hrel
    have HO := hidM hown
    have HB := hidM hbr
    clear hown hbr HST HB0
    by_cases hlt : k < s.size
    · have HLE : Hid ((bitsL (s.data.toList.take k)).length = 8 * k) := by unfold Hid; rw [bitsL_len, List.length_take]; simp; omega
      have HPT := hidM (bitsL_part s k hlt)
      have HBT : Hid (∀ j, (bits .and .u8 ((s[k].toNat : Int) / 2 ^ j) 1 == 1) = (s[k].toNat / 2 ^ j % 2 == 1)) := bit_of s[k]
      go_wp2
      go_loopw [3, 5] (fun v q wr => ∃ j : Nat, j ≤ 8 ∧ q = .int .i64 j ∧ OwnSI wr w.heap.size v (bitsL (s.data.toList.take k) ++ (bits8 s[k]).take j) ∧ Below w.heap.size w wr) (fun _ q _ => 8 - (intOf q).toNat)
      case atStart => exact ⟨0, by decide, rfl, by simpa using HO.out, HB.out⟩
      case round =>
        obtain ⟨j, hj, rfl, hown, hbr⟩ := hrel
        clear HO HB
        have HO := hidM hown
        have HB := hidM hbr
        have HPL : Hid ((bitsL (s.data.toList.take k) ++ (bits8 s[k]).take j).length = 8 * k + j) := by
          unfold Hid; rw [List.length_append, HLE.out, List.length_take, bits8_len]; omega
        clear hown hbr
        by_cases hj8 : j < 8
        · have HNX : Hid (bitsL (s.data.toList.take k) ++ (bits8 s[k]).take (j + 1) = (bitsL (s.data.toList.take k) ++ (bits8 s[k]).take j) ++ [(s[k].toNat / 2 ^ j % 2 == 1)]) := by
            unfold Hid; rw [bits8_take _ _ hj8, List.append_assoc]
          have HBJ := hidM (HBT.out j)
          have HBS := hidM HB.out.size
          generalize bitsL (s.data.toList.take k) ++ (bits8 s[k]).take j = P at *
          go_wp2_with (first
            | (at_builtin; refine wpList_append_own _ rfl _ _ 115 rfl w.heap.size 4 i0 (.bool false) 1 1 Tryz.underlying115 hi hz0 hz1 hz2 rfl (by decide) _ _ _ rfl (World.ownsRow.alloc HO.out.1 _) ⟨wr.heap.size, 0, none⟩ 1 1 [.bool (bits .and .u8 ((s[k].toNat : Int) / 2 ^ j) 1 == 1)] ?c0 rfl ?c1 ?c2 ?c3 ?c4 ?c5 ?_))
          case c0 => rfl
          case c1 => exact cell_new_bit wr _
          case c2 => intro u hu; simp at hu; subst hu; rfl
          case c3 => rw [HPL.out]; unfold maxLen; omega
          case c4 => rw [HPL.out]; omega
          case c5 => have := HBS.out; simp; omega
          intro v' w1 hown' hgrow _
          rw [HBJ.out] at hown'
          have HO1 := hidM (ownS_push hown')
          have HB1 := hidM (belowL_push HO.out.1 HB.out HBS.out hgrow)
          clear hown' hgrow
          go_wp2
          go_roundw
          case rel => exact ⟨j + 1, by omega, by go_num, by rw [HNX.out]; exact HO1.out, HB1.out⟩
          case measure => simp [intOf]; omega
        · have HE : Hid ((bits8 s[k]).take j = bits8 s[k]) := List.take_of_length_le (by rw [bits8_len]; omega)
          rw [HE.out, ← HPT.out] at HO
          go_wp2
          go_roundw
          case rel => exact ⟨k + 1, by omega, by go_num, HO.out, HB.out⟩
          case measure => simp [intOf]; omega
    · have HF : Hid (s.data.toList.take k = s.data.toList) := List.take_of_length_le (by simp; omega)
      go_wp2
      go_ret
      exact ⟨⟨_, rfl, by have := HO.out; rw [HF.out] at this; exact this⟩, HB.out⟩
set_option maxRecDepth 100000 in
theorem nz_le (ln : Nat → Nat) (L : Nat) : nz ln L ≤ L := by
  induction L with
  | zero => exact Nat.le_refl _
  | succ L ih => rw [nz]; split <;> omega
set_option maxRecDepth 100000 in
theorem sm_le (ln : Nat → Nat) (L : Nat) : sm ln L ≤ L * 32768 := by
  induction L with
  | zero => exact Nat.zero_le _
  | succ L ih =>
    have h2 : 2 ^ (15 - ln L) ≤ 2 ^ 15 := Nat.pow_le_pow_right (by decide) (by omega)
    rw [sm, Nat.add_mul, Nat.one_mul]
    refine Nat.add_le_add ih ?_
    split
    · exact Nat.zero_le _
    · exact h2
/-- What Check answers. -/
def ChkPost (f : Nat → Int) (len : Nat) (e : Ending) : Prop :=
  (320 < len ∧ e = .returned (.int .i64 2)) ∨
  (len ≤ 320 ∧ (∃ i, i < len ∧ (f i < 0 ∨ 15 < f i)) ∧ e = .returned (.int .i64 1)) ∨
  (len ≤ 320 ∧ ∃ ln : Nat → Nat, (∀ i, i < len → f i = (ln i : Int)) ∧ (∀ i, ln i ≤ 15) ∧
    ((¬ Fit ln len ∧ e = .returned (.int .i64 4)) ∨ (Fit ln len ∧ e = .returned (.int .i64 0))))
set_option maxRecDepth 100000 in
theorem half_step (i : Nat) : 32768 / 2 ^ (i + 1) = 32768 / 2 ^ i / 2 := by
  rw [Nat.pow_succ, Nat.div_div_eq_div_mul]
set_option maxRecDepth 100000 in
theorem half_end (n : Nat) (h : n ≤ 15) : 32768 / 2 ^ n = 2 ^ (15 - n) := by
  rw [show (32768 : Nat) = 2 ^ (15 - n) * 2 ^ n by rw [← Nat.pow_add, show 15 - n + n = 15 by omega]]
  exact Nat.mul_div_cancel _ (Nat.pow_pos (by decide))
set_option maxHeartbeats 2000000 in
set_option maxRecDepth 100000 in
theorem check_anyI (a : Option Addr) (len cap : Nat) (f : Nat → Int) (w : World) (hf : IntsAt w a len .i64 f) :
    Calls Tryz.prog 154 #[.slice a len cap] w fun e w' => ChkPost f len e ∧ w' = w := by
  have hlen : len ≤ 9223372036854775807 := by have := hf.1; unfold maxLen at this; omega
  have HF := hidM hf
  clear hf
  by_cases h320 : 320 < len
  · go_enter Tryz.func154, Tryz.ntmps154
    go_wp2
    go_ret
    exact ⟨.inl ⟨h320, rfl⟩, rfl⟩
  · obtain ⟨ln, hln⟩ : ∃ ln : Nat → Nat, ln = fun i => if 0 ≤ f i ∧ f i ≤ 15 then (f i).toNat else 0 := ⟨_, rfl⟩
    have H15 : Hid (∀ i, ln i ≤ 15) := fun i => by
      rw [hln]; simp only; split <;> omega
    have HLN : Hid (∀ i, 0 ≤ f i → f i ≤ 15 → f i = (ln i : Int)) := fun i h1 h2 => by
      rw [hln]; simp only; rw [if_pos ⟨h1, h2⟩]; omega
    clear hln
    go_enter Tryz.func154, Tryz.ntmps154
    go_wp2
    go_loop [3, 4, 5, 7, 8, 9, 15] (fun s c o _ _ _ i => ∃ k S C O : Nat, k ≤ len ∧ i = .int .i64 k ∧ S = sm ln k ∧ s = .int .i64 (S : Int) ∧ C = nz ln k ∧ c = .int .i64 (C : Int) ∧ O = cnt ln 1 k ∧ o = .int .i64 (O : Int) ∧ (∀ i, i < k → 0 ≤ f i ∧ f i ≤ 15)) (fun _ _ _ _ _ _ i => len - (intOf i).toNat)
    case atStart => exact ⟨0, 0, 0, 0, Nat.zero_le _, rfl, rfl, rfl, rfl, rfl, rfl, rfl, fun i hi => by omega⟩
    case round =>
      obtain ⟨k, S, C, O, hk, rfl, hS, rfl, hC, rfl, hO, rfl, hall⟩ := hrel
      have HA := hidM hall
      have HS := hidM hS
      have HC := hidM hC
      have HO := hidM hO
      have bS : S ≤ 10485760 := by have := sm_le ln k; omega
      have bC : C ≤ 320 := by have := nz_le ln k; omega
      have bO : O ≤ 320 := by have := cnt_le ln 1 k; omega
      clear hall hS hC hO
      by_cases hlt : k < len
      · obtain ⟨bb, off, rfl, hc⟩ := HF.out.get k hlt
        generalize hfk : f k = c at *
        have HFK := hidM hfk
        clear hfk
        by_cases hbad : c < 0 ∨ 15 < c
        · have HBD := hidM hbad
          rcases hbad with hb | hb
          · go_wp2
            go_ret
            exact ⟨.inr (.inl ⟨by omega, ⟨k, hlt, by rw [HFK.out]; exact HBD.out⟩, rfl⟩), rfl⟩
          · go_wp2
            go_ret
            exact ⟨.inr (.inl ⟨by omega, ⟨k, hlt, by rw [HFK.out]; exact HBD.out⟩, rfl⟩), rfl⟩
        · have hb1 : ¬ c < 0 := by omega
          have hb2 : ¬ 15 < c := by omega
          have HA2 : Hid (∀ i, i < k + 1 → 0 ≤ f i ∧ f i ≤ 15) := fun i hi => by
            rcases Nat.lt_or_ge i k with h | h
            · exact HA.out i h
            · have : i = k := by omega
              subst this; rw [HFK.out]; omega
          obtain ⟨n, hn⟩ : ∃ n, n = ln k := ⟨_, rfl⟩
          have hcn : c = (n : Int) := by have := HLN.out k (by rw [HFK.out]; omega) (by rw [HFK.out]; omega); rw [← HFK.out, this, hn]
          subst hcn
          have n15 : n ≤ 15 := by omega
          have HN := hidM hn
          have HSS : Hid (sm ln (k + 1) = S + (if n = 0 then 0 else 2 ^ (15 - n))) := by unfold Hid; rw [sm, HS.out, ← HN.out]
          have HCS : Hid (nz ln (k + 1) = C + (if n = 0 then 0 else 1)) := by unfold Hid; rw [nz, HC.out, ← HN.out]
          have HOS : Hid (cnt ln 1 (k + 1) = O + (if n = 1 then 1 else 0)) := by
            unfold Hid; rw [cnt, HO.out, ← HN.out]
            by_cases h1 : n = 1
            · rw [if_pos h1, if_pos ⟨h1, by decide⟩]
            · rw [if_neg h1, if_neg (by omega)]
          clear hn hbad
          by_cases h0 : n = 0
          · subst h0
            go_wp2
            refine ⟨⟨k + 1, S, C, O, by omega, by go_num, by rw [HSS.out]; rfl, rfl, by rw [HCS.out]; rfl, rfl, by rw [HOS.out]; rfl, rfl, HA2.out⟩, ?_⟩
            simp [intOf]; omega
          · have hpos : 0 < n := by omega
            go_wp2
            go_loop [8, 9] (fun p i => ∃ j q : Nat, j ≤ n ∧ i = .int .i64 j ∧ q = 32768 / 2 ^ j ∧ p = .int .i64 (q : Int)) (fun _ i => n - (intOf i).toNat)
            case atStart => exact ⟨0, 32768, Nat.zero_le _, rfl, by simp, rfl⟩
            case round =>
              obtain ⟨j, q, hj, rfl, hq, rfl⟩ := hrel
              have HQ := hidM hq
              have q1 : q ≤ 32768 := by rw [hq]; exact Nat.div_le_self _ _
              clear hq
              by_cases hjn : j < n
              · go_wp2
                refine ⟨⟨j + 1, q / 2, by omega, by go_num, by rw [HQ.out, half_step j], val_int (by omega)⟩, ?_⟩
                simp [intOf]; omega
              · have HE : Hid (q = 2 ^ (15 - n)) := by
                  have : j = n := by omega
                  unfold Hid; rw [HQ.out, this, half_end n n15]
                have HS2 : Hid (S + q = sm ln (k + 1)) := by unfold Hid; rw [HSS.out, HE.out, if_neg h0]
                have HC2 : Hid (C + 1 = nz ln (k + 1)) := by unfold Hid; rw [HCS.out, if_neg h0]
                by_cases h1 : n = 1
                · subst h1
                  go_wp2
                  refine ⟨⟨k + 1, S + q, C + 1, O + 1, by omega, by go_num, HS2.out, by go_num, HC2.out, by go_num, by rw [HOS.out]; rfl, by go_num, HA2.out⟩, ?_⟩
                  simp [intOf]; omega
                · have h1b : ((n : Int) == 1) = false := by simp; omega
                  go_wp2
                  refine ⟨⟨k + 1, S + q, C + 1, O, by omega, by go_num, HS2.out, by go_num, HC2.out, by go_num, by rw [HOS.out, if_neg h1]; rfl, rfl, HA2.out⟩, ?_⟩
                  simp [intOf]; omega
      · have hkl : k = len := by omega
        subst hkl
        have HFIT := hidM (chk_fit ln k H15.out)
        rw [← HS.out, ← HC.out, ← HO.out] at HFIT
        have HEND : Hid (∀ v : Int, ((¬ Fit ln k ∧ v = 4) ∨ (Fit ln k ∧ v = 0)) → ChkPost f k (.returned (.int .i64 v))) := fun v hv =>
          .inr (.inr ⟨by omega, ln, fun i hi => HLN.out i (HA.out i hi).1 (HA.out i hi).2, H15.out, by
            rcases hv with ⟨h1, rfl⟩ | ⟨h1, rfl⟩
            · exact .inl ⟨h1, rfl⟩
            · exact .inr ⟨h1, rfl⟩⟩)
        by_cases c1 : 32768 < S
        · have HX : Hid (¬ Fit ln k) := HFIT.out.1 (.inl c1)
          go_wp2
          go_ret
          exact ⟨HEND.out 4 (.inl ⟨HX.out, rfl⟩), rfl⟩
        · have i1 : decide ((32768 : Int) < (S : Int)) = false := by simp; omega
          by_cases c2 : S < 32768
          · have i2 : decide ((S : Int) < (32768 : Int)) = true := by simp; omega
            have HC2 := hidM c2
            clear c1 c2
            by_cases c3 : C = 0
            · subst c3
              have HX : Hid (Fit ln k) := Classical.not_not.1 fun h => by have := HFIT.out.2 h; have := HC2.out; omega
              go_wp2
              go_ret
              exact ⟨HEND.out 0 (.inr ⟨HX.out, rfl⟩), rfl⟩
            · have c3' : 0 < C := by omega
              by_cases c4 : C = 1
              · subst c4
                by_cases c5 : O = 1
                · subst c5
                  have HX : Hid (Fit ln k) := Classical.not_not.1 fun h => by have := HFIT.out.2 h; have := HC2.out; omega
                  go_wp2
                  go_ret
                  exact ⟨HEND.out 0 (.inr ⟨HX.out, rfl⟩), rfl⟩
                · have b5 : ((O : Int) == 1) = false := by simp; omega
                  have HX : Hid (¬ Fit ln k) := HFIT.out.1 (.inr ⟨HC2.out, by decide, fun h => c5 h.2⟩)
                  go_wp2
                  go_ret
                  exact ⟨HEND.out 4 (.inl ⟨HX.out, rfl⟩), rfl⟩
              · have b4 : ((C : Int) == 1) = false := by simp; omega
                have HX : Hid (¬ Fit ln k) := HFIT.out.1 (.inr ⟨HC2.out, c3', fun h => c4 h.1⟩)
                go_wp2
                go_ret
                exact ⟨HEND.out 4 (.inl ⟨HX.out, rfl⟩), rfl⟩
          · have HX : Hid (Fit ln k) := Classical.not_not.1 fun h => by have := HFIT.out.2 h; omega
            have i2 : decide ((S : Int) < (32768 : Int)) = false := by simp; omega
            clear c1 c2
            go_wp2
            go_ret
            exact ⟨HEND.out 0 (.inr ⟨HX.out, rfl⟩), rfl⟩
set_option maxRecDepth 100000 in
theorem Tryz.info115 : (Tryz.prog.info? 115).map (fun i => (i.zero, i.size, i.bytes)) = some (some (.slice none 0 0), 1, 24) := by kernel_rfl
set_option maxRecDepth 100000 in
theorem low_bitH (y : Nat) : (((y : Int) % 2 == 1) : Bool) = (y % 2 == 1) := by
  rcases Nat.mod_two_eq_zero_or_one y with h | h
  · have : (y : Int) % 2 = 0 := by omega
    rw [h, this]; rfl
  · have : (y : Int) % 2 = 1 := by omega
    rw [h, this]; rfl
/-- A symbol's code has been laid ahead of length n, symbol k. -/
def Did (ln : Nat → Nat) (n k s : Nat) : Prop := 0 < ln s ∧ (ln s < n ∨ ln s = n ∧ s < k)
/-- The rows of codes in block g, those laid ahead of length n, symbol k. -/
structure CSt (w0 w : World) (g : Nat) (ln : Nat → Nat) (L n k : Nat) : Prop where
  base : w0.heap.size ≤ g
  box : ∃ cur, w.heap[g]? = some (.cells cur 115 (0, 0)) ∧ L ≤ cur.size
  yes : ∀ s, s < L → Did ln n k s → ∃ b c, w.cell? ⟨g, s, none⟩ = some (.slice (some ⟨b, 0, none⟩) (ln s) c) ∧ (b ≠ g ∧ w0.heap.size ≤ b) ∧ ∀ i (h : i < (hib (codeC ln L s) (ln s)).length), w.cell? ⟨b, 0 + i, none⟩ = some (.bool (hib (codeC ln L s) (ln s))[i])
  no : ∀ s, s < L → ¬ Did ln n k s → w.cell? ⟨g, s, none⟩ = some (.slice none 0 0)
  bel : Below w0.heap.size w0 w
set_option maxRecDepth 100000 in
theorem CSt.lt {w0 w : World} {g : Nat} {ln : Nat → Nat} {L n k : Nat} (h : CSt w0 w g ln L n k) : g < w.heap.size := by
  obtain ⟨cur, hc, _⟩ := h.box
  exact (Array.getElem?_eq_some_iff.1 hc).1
set_option maxRecDepth 100000 in
theorem CSt.below {w0 w w' : World} {g : Nat} {ln : Nat → Nat} {L n k : Nat} (h : CSt w0 w g ln L n k) (hb : Below w.heap.size w w') : CSt w0 w' g ln L n k := by
  have hg := h.lt
  refine ⟨h.base, ?_, ?_, ?_, h.bel.trans (hb.mono h.bel.size)⟩
  · obtain ⟨cur, hc, hs⟩ := h.box
    exact ⟨cur, (hb.block g hg).trans hc, hs⟩
  · intro s hs hd
    obtain ⟨b, c, h1, h2, h3⟩ := h.yes s hs hd
    exact ⟨b, c, (hb.cell (p := ⟨g, s, none⟩) hg).trans h1, h2, fun i hi => (hb.cell (p := ⟨b, 0 + i, none⟩) (World.block_lt_of_cell? w _ (h3 i hi))).trans (h3 i hi)⟩
  · intro s hs hd
    exact (hb.cell (p := ⟨g, s, none⟩) hg).trans (h.no s hs hd)
set_option maxRecDepth 100000 in
theorem CSt.same {w0 w : World} {g : Nat} {ln : Nat → Nat} {L n k m j : Nat} (h : CSt w0 w g ln L n k) (hd : ∀ s, s < L → (Did ln n k s ↔ Did ln m j s)) : CSt w0 w g ln L m j :=
  ⟨h.base, h.box, fun s hs h1 => h.yes s hs ((hd s hs).2 h1), fun s hs h1 => h.no s hs (fun h2 => h1 ((hd s hs).1 h2)), h.bel⟩
set_option maxRecDepth 100000 in
theorem CSt.put {w0 w : World} {g : Nat} {ln : Nat → Nat} {L n k b c : Nat} (h : CSt w0 w g ln L n k) (hk : k < L) (hn : ln k = n) (h0 : 0 < n) (hb : b ≠ g ∧ w0.heap.size ≤ b)
    (hc : ∀ i (h : i < (hib (codeC ln L k) n).length), w.cell? ⟨b, 0 + i, none⟩ = some (.bool (hib (codeC ln L k) n)[i])) : CSt w0 (w.setCell ⟨g, k, none⟩ (.slice (some ⟨b, 0, none⟩) n c)) g ln L n (k + 1) := by
  obtain ⟨cur, hcur, hsz⟩ := h.box
  have hnew := heap_setCell_same w g k cur 115 (.slice (some ⟨b, 0, none⟩) n c) hcur
  have hcell : ∀ s, s < L → (w.setCell ⟨g, k, none⟩ (.slice (some ⟨b, 0, none⟩) n c)).cell? ⟨g, s, none⟩ = if s = k then some (.slice (some ⟨b, 0, none⟩) n c) else w.cell? ⟨g, s, none⟩ := by
    intro s hs
    rw [cell_of_row _ g s _ 115 (0, 0) hnew, cell_of_row w g s _ 115 (0, 0) hcur, Array.getElem?_setIfInBounds]
    by_cases he : s = k
    · subst he; rw [if_pos rfl, if_pos (by omega), if_pos rfl]
    · rw [if_neg (fun h => he h.symm), if_neg he]
  have hoth : ∀ b' i, b' ≠ g → (w.setCell ⟨g, k, none⟩ (.slice (some ⟨b, 0, none⟩) n c)).cell? ⟨b', i, none⟩ = w.cell? ⟨b', i, none⟩ := fun b' i hb' =>
    World.cell?_of_block (a := ⟨b', i, none⟩) (Below.heap_setCell w ⟨g, k, none⟩ _ b' hb')
  refine ⟨h.base, ⟨_, hnew, by simpa using hsz⟩, ?_, ?_, below_set h.bel h.base⟩
  · intro s hs hd
    rw [hcell s hs]
    by_cases he : s = k
    · subst he
      rw [if_pos rfl, hn]
      exact ⟨b, c, rfl, hb, fun i hi => by rw [hoth b _ hb.1]; exact hc i hi⟩
    · rw [if_neg he]
      obtain ⟨b', c', h1, h2, h3⟩ := h.yes s hs (by unfold Did at hd ⊢; omega)
      exact ⟨b', c', h1, h2, fun i hi => by rw [hoth b' _ h2.1]; exact h3 i hi⟩
  · intro s hs hd
    rw [hcell s hs]
    by_cases he : s = k
    · subst he; unfold Did at hd; omega
    · rw [if_neg he]
      exact h.no s hs (by unfold Did at hd ⊢; omega)
/-- A row of bits that is read, in a block from B on. -/
def BAtF (w : World) (B : Nat) (a : Option Addr) (l : List Bool) : Prop :=
  l = [] ∨ ∃ b off, B ≤ b ∧ a = some ⟨b, off, none⟩ ∧ ∀ i (h : i < l.length), w.cell? ⟨b, off + i, none⟩ = some (.bool l[i])
set_option maxRecDepth 100000 in
theorem BAtF.bat {w : World} {B : Nat} {a : Option Addr} {l : List Bool} (h : BAtF w B a l) : BAt w a l := by
  rcases h with h | ⟨b, off, _, h1, h2⟩
  · exact .inl h
  · exact .inr ⟨b, off, h1, h2⟩
/-- The rows of codes at a, each read by its place; all blocks from B on. -/
def CodesAt (w : World) (B : Nat) (a : Option Addr) (ln : Nat → Nat) (L : Nat) : Prop :=
  L = 0 ∨ ∃ g, B ≤ g ∧ a = some ⟨g, 0, none⟩ ∧ ∀ s, s < L → ∃ a' c', w.cell? ⟨g, s, none⟩ = some (.slice a' (ln s) c') ∧ BAtF w B a' (hib (codeC ln L s) (ln s))
set_option maxRecDepth 100000 in
theorem CSt.codes {w0 w : World} {g : Nat} {ln : Nat → Nat} {L n k : Nat} (h : CSt w0 w g ln L n k) (h15 : ∀ i, ln i < n) : CodesAt w w0.heap.size (some ⟨g, 0, none⟩) ln L := by
  refine .inr ⟨g, h.base, rfl, fun s hs => ?_⟩
  have := h15 s
  by_cases h0 : ln s = 0
  · have h1 := h.no s hs (by unfold Did; omega)
    exact ⟨none, 0, by rw [h1, h0], .inl (by rw [h0]; rfl)⟩
  · obtain ⟨b, c, h1, h2, h3⟩ := h.yes s hs (by unfold Did; omega)
    exact ⟨_, c, h1, .inr ⟨b, 0, h2.2, rfl, h3⟩⟩
set_option maxRecDepth 100000 in
theorem CodesAt.keep {w w' : World} {B : Nat} {a : Option Addr} {ln : Nat → Nat} {L : Nat} (h : CodesAt w B a ln L) (hk : ∀ k, B ≤ k → k < w.heap.size → w'.heap[k]? = w.heap[k]?) : CodesAt w' B a ln L := by
  rcases h with h | ⟨g, hB, h1, h2⟩
  · exact .inl h
  · refine .inr ⟨g, hB, h1, fun s hs => ?_⟩
    obtain ⟨a', c', h3, h4⟩ := h2 s hs
    refine ⟨a', c', (World.cell?_of_block (a := ⟨g, s, none⟩) (hk g hB (World.block_lt_of_cell? w _ h3))).trans h3, ?_⟩
    rcases h4 with h4 | ⟨b, off, h5, h6, h7⟩
    · exact .inl h4
    · exact .inr ⟨b, off, h5, h6, fun i hi => (World.cell?_of_block (a := ⟨b, off + i, none⟩) (hk b h5 (World.block_lt_of_cell? w _ (h7 i hi)))).trans (h7 i hi)⟩
set_option maxRecDepth 100000 in
theorem CodesAt.below {w w' : World} {B : Nat} {a : Option Addr} {ln : Nat → Nat} {L : Nat} (h : CodesAt w B a ln L) (hb : Below w.heap.size w w') : CodesAt w' B a ln L :=
  h.keep fun k _ h2 => hb.block k h2
set_option maxRecDepth 100000 in
theorem CodesAt.get {w : World} {B : Nat} {a : Option Addr} {ln : Nat → Nat} {L : Nat} (h : CodesAt w B a ln L) (s : Nat) (hs : s < L) : ∃ g a' c', a = some ⟨g, 0, none⟩ ∧ w.cell? ⟨g, s, none⟩ = some (.slice a' (ln s) c') ∧ BAt w a' (hib (codeC ln L s) (ln s)) := by
  rcases h with h | ⟨g, _, h1, h2⟩
  · omega
  · obtain ⟨a', c', h3, h4⟩ := h2 s hs
    exact ⟨g, a', c', h1, h3, h4.bat⟩
/-- Rows of nil. -/
def nilsV (k : Nat) : List Value := List.replicate k (.slice none 0 0)
set_option maxRecDepth 100000 in
theorem CSt.start {w0 w : World} {B g L cap : Nat} {ln : Nat → Nat} (hB : B = w0.heap.size) (h : w.ownsRow B 115 1 (.slice (some ⟨g, 0, none⟩) L cap) L (nilsV L)) (hb : Below w0.heap.size w0 w) : CSt w0 w g ln L 1 0 := by
  have hc := fun j u => World.ownsRow.cells (g := g) h rfl j u
  rcases h.2 with ⟨h0, _⟩ | ⟨g', cap', cur, hv, hbs, hg, hnc, hcm, hcs, htake⟩
  · simp at h0
  · simp only [Value.slice.injEq, Option.some.injEq, Addr.mk.injEq, and_true, true_and] at hv
    obtain ⟨rfl, rfl⟩ := hv
    refine ⟨by omega, ⟨cur, hg, by omega⟩, fun s hs hd => ?_, fun s hs _ => ?_, hb⟩
    · unfold Did at hd; omega
    · have := hc s (.slice none 0 0) (by unfold nilsV; rw [List.getElem?_replicate, if_pos hs])
      rwa [Addr.add_lit, Nat.zero_add] at this
def CodesPost (ln : Nat → Nat) (L B : Nat) (e : Ending) (w' : World) : Prop := ∃ a c, e = .returned (.slice a L c) ∧ CodesAt w' B a ln L
set_option maxHeartbeats 4000000 in
set_option maxRecDepth 100000 in
theorem codes_any (a : Option Addr) (len cap : Nat) (ln : Nat → Nat) (w : World) (hf : IntsAt w a len .i64 (fun i => (ln i : Int))) (h15 : ∀ i, ln i ≤ 15) (hl : len ≤ 320) (hkr : kr ln len 15 ≤ 32768) :
    Calls Tryz.prog 151 #[.slice a len cap] w fun e w' => CodesPost ln len w.heap.size e w' ∧ Below w.heap.size w w' := by
  obtain ⟨i0, hi, hz0, hz1, hz2⟩ := info_parts Tryz.info4
  obtain ⟨j0, hj, hy0, hy1, hy2⟩ := info_parts Tryz.info115
  have HF := hidM hf
  have H15 := hidM h15
  have HKR := hidM hkr
  have HST : Hid ((w.alloc (.cells #[] 115)).ownsRow w.heap.size 115 1 (.slice (some ⟨w.heap.size, 0, none⟩) 0 0) 0 (nilsV 0)) := World.ownsRow_lit w #[] 0 (Nat.le_refl _) (Nat.zero_le _) rfl
  have HB0 : Hid (Below w.heap.size w (w.alloc (.cells #[] 115))) := (Below.refl _ _).alloc (Nat.le_refl _) _
  clear hf h15 hkr
  go_enter Tryz.func151, Tryz.ntmps151
  go_wp2
  go_loopw [3, 14] (fun v i wr => ∃ (k g c : Nat), k ≤ len ∧ i = .int .i64 k ∧ v = .slice (some ⟨g, 0, none⟩) k c ∧ wr.ownsRow w.heap.size 115 1 (.slice (some ⟨g, 0, none⟩) k c) k (nilsV k) ∧ Below w.heap.size w wr) (fun _ i _ => len - (intOf i).toNat)
  case atStart => exact ⟨0, w.heap.size, 0, Nat.zero_le _, rfl, rfl, HST.out, HB0.out⟩
  case round =>
    obtain ⟨k, g, c, hk, rfl, rfl, hown, hbr⟩ := hrel
    have HO := hidM hown
    have HB := hidM hbr
    clear hown hbr HST HB0
    by_cases hlt : k < len
    · go_wp2_with (first
        | (at_builtin; refine wpList_append_own _ rfl _ _ 170 rfl w.heap.size 115 j0 (.slice none 0 0) 1 24 Tryz.underlying170 hj hy0 hy1 hy2 rfl (by decide) _ _ _ rfl (World.ownsRow.alloc HO.out _) ⟨wr.heap.size, 0, none⟩ 1 1 [.slice none 0 0] ?c0 rfl ?c1 ?c2 ?c3 ?c4 ?c5 ?_))
      case c0 => rfl
      case c1 =>
        intro j u hj
        match j, hj with
        | 0, hj => simp at hj; subst hj; simp [Addr.add]
      case c2 => intro u hu; simp at hu; subst hu; rfl
      case c3 => unfold maxLen; omega
      case c4 => omega
      case c5 => have := HB.out.size; simp; omega
      intro v' w1 hown' hgrow hnil
      have HB1 : Hid (Below w.heap.size w w1) := (HB.out.alloc HB.out.size _).grown hgrow (by simp; have := HB.out.size; omega) (fun q hq => (World.ownsRow.lt HO.out q hq).1)
      obtain ⟨g', c', rfl⟩ : ∃ g' c', v' = .slice (some ⟨g', 0, none⟩) (k + 1) c' := by
        rcases hown'.2 with ⟨h0, _⟩ | ⟨g', cap', cur, hv, _⟩
        · exact absurd h0 hnil
        · exact ⟨g', cap', hv⟩
      have HO1 : Hid (w1.ownsRow w.heap.size 115 1 (.slice (some ⟨g', 0, none⟩) (k + 1) c') (k + 1) (nilsV (k + 1))) := by
        have e : nilsV (k + 1) = nilsV k ++ [.slice none 0 0] := by unfold nilsV; rw [List.replicate_succ']
        unfold Hid
        rw [e]; exact hown'
      clear hown' hgrow hnil
      go_wp2
      go_roundw
      case rel => exact ⟨k + 1, g', c', by omega, by go_num, rfl, HO1.out, HB1.out⟩
      case measure => simp [intOf]; omega
    · obtain rfl : k = len := by omega
      have HC0 : Hid (CSt w wr g ln k 1 0) := CSt.start rfl HO.out HB.out
      clear HO HB
      go_wp2
      go_loopw [4, 5] (fun cd i wr => ∃ n x : Nat, 1 ≤ n ∧ n ≤ 16 ∧ i = .int .i64 n ∧ x = fstC ln k (n - 1) + cnt ln (n - 1) k ∧ cd = .int .i64 (x : Int) ∧ CSt w wr g ln k n 0) (fun _ i _ => 16 - (intOf i).toNat)
      case atStart => exact ⟨1, 0, by decide, by decide, rfl, by simp [fstC, cnt_zero], rfl, HC0.out⟩
      case round =>
        obtain ⟨n, x, hn1, hn16, rfl, hx, rfl, hcs⟩ := hrel
        have HCS := hidM hcs
        have HX := hidM hx
        clear hcs HC0
        by_cases hn15 : n ≤ 15
        · have bx : x ≤ 32768 := by
            rw [hx]
            have h1 := code_fits ln k (n - 1) (by omega) HKR.out
            have h2 : 2 ^ (n - 1) ≤ 2 ^ 15 := Nat.pow_le_pow_right (by decide) (by omega)
            omega
          have HX2 : Hid (2 * x = fstC ln k n) := by
            unfold Hid
            obtain ⟨m, rfl⟩ : ∃ m, n = m + 1 := ⟨n - 1, by omega⟩
            rw [hx, Nat.add_sub_cancel, fstC]
          clear hx
          have d15 : decide ((n : Int) ≤ 15) = true := by simp; omega
          obtain ⟨wo, hwo⟩ : ∃ wo : World, wo = wr := ⟨_, rfl⟩
          rw [← hwo] at HCS ⊢
          clear hwo
          go_wp2
          go_loopw [4, 28] (fun cd i wr => ∃ s y : Nat, s ≤ k ∧ i = .int .i64 s ∧ y = fstC ln k n + cnt ln n s ∧ cd = .int .i64 (y : Int) ∧ CSt w wr g ln k n s) (fun _ i _ => k - (intOf i).toNat)
          case atStart => exact ⟨0, 2 * x, Nat.zero_le _, rfl, by rw [HX2.out]; rfl, val_int (by omega), HCS.out⟩
          case round =>
            obtain ⟨s, y, hs, rfl, hy, rfl, hcs⟩ := hrel
            clear HCS
            have HCS := hidM hcs
            have HY := hidM hy
            have byy : y ≤ 32768 := by
              rw [hy]
              have h1 := code_fits ln k n hn15 HKR.out
              have h2 : 2 ^ n ≤ 2 ^ 15 := Nat.pow_le_pow_right (by decide) hn15
              have h3 := cnt_mono ln n hs
              omega
            clear hcs hy
            by_cases hsk : s < k
            · obtain ⟨bb, off, rfl, hc⟩ := (HF.out.below HCS.out.bel).get s hsk
              have HCN : Hid (cnt ln n (s + 1) = cnt ln n s + (if ln s = n ∧ 0 < n then 1 else 0)) := rfl
              have H15s := hidM (H15.out s)
              obtain ⟨l, hl'⟩ : ∃ l, l = ln s := ⟨_, rfl⟩
              rw [← hl'] at hc HCN H15s
              have HL := hidM hl'
              clear hl'
              by_cases hne : l = n
              · subst hne
                have HCD : Hid (codeC ln k s = y) := by
                  unfold Hid codeC
                  rw [← HL.out, if_neg (by omega), HY.out]
                have HY2 : Hid (y + 1 = fstC ln k l + cnt ln l (s + 1)) := by unfold Hid; rw [HCN.out, if_pos ⟨rfl, by omega⟩, HY.out]; omega
                have HBS : Hid (Below wr.heap.size wr (wr.alloc (.cells #[] 4))) := (Below.refl _ _).alloc (Nat.le_refl _) _
                have HOS : Hid (OwnSI (wr.alloc (.cells #[] 4)) wr.heap.size (.slice (some ⟨wr.heap.size, 0, none⟩) 0 0) (hib y 0)) := ownS_empty wr
                obtain ⟨wm, hwm⟩ : ∃ wm : World, wm = wr := ⟨_, rfl⟩
                rw [← hwm] at HBS HOS HCS hc ⊢
                clear hwm
                go_wp2
                go_loopw [8, 9, 10] (fun v xx i wr => ∃ j z : Nat, j ≤ l ∧ i = .int .i64 j ∧ z = y / 2 ^ j ∧ xx = .int .i64 (z : Int) ∧ OwnSI wr wm.heap.size v (hib y j) ∧ Below wm.heap.size wm wr) (fun _ _ i _ => l - (intOf i).toNat)
                case atStart => exact ⟨0, y, Nat.zero_le _, rfl, by simp, rfl, HOS.out, HBS.out⟩
                case round =>
                  obtain ⟨j, z, hj', rfl, hz, rfl, hos, hbs⟩ := hrel
                  clear HOS HBS
                  have HOS := hidM hos
                  have HBS := hidM hbs
                  have HZ := hidM hz
                  have bz : z ≤ 32768 := by rw [hz]; exact Nat.le_trans (Nat.div_le_self _ _) byy
                  clear hos hbs hz
                  by_cases hjl : j < l
                  · obtain ⟨hol, g2, c2, rfl⟩ := HOS.out
                    have HOL := hidM hol
                    have HBZ := hidM HBS.out.size
                    have HLN : Hid ((hib y j).length = j) := hib_len y j
                    clear hol
                    go_wp2_with (first
                      | (at_builtin; refine wpList_append_own _ rfl _ _ 115 rfl wm.heap.size 4 i0 (.bool false) 1 1 Tryz.underlying115 hi hz0 hz1 hz2 rfl (by decide) _ 1 [.bool ((z : Int) % 2 == 1)] rfl (World.ownsRow_lit wr #[.bool ((z : Int) % 2 == 1)] 1 HBZ.out (by decide) rfl) ⟨g2, 0, none⟩ (hib y j).length c2 (boolsV (hib y j)) ?c0 ?c6 ?c1 ?c2 ?c3 ?c4 ?c5 ?_))
                    case c0 => rfl
                    case c6 => rw [boolsV_len]; omega
                    case c1 => exact World.ownsRow.cells (World.ownsRow.alloc HOL.out _) rfl
                    case c2 =>
                      intro u hu
                      simp only [boolsV, List.mem_map] at hu
                      obtain ⟨q, _, rfl⟩ := hu
                      rfl
                    case c3 => rw [HLN.out]; unfold maxLen; omega
                    case c4 => rw [HLN.out]; omega
                    case c5 => have := HBZ.out; simp; omega
                    intro v' w1 hown' hgrow hnil
                    have HB1 : Hid (Below wm.heap.size wm w1) := (HBS.out.alloc HBS.out.size _).grown hgrow (by simp; have := HBZ.out; omega) (fun q hq => by simp [Value.ownBlock] at hq; have := HBZ.out; omega)
                    have HO1 : Hid (OwnSI w1 wm.heap.size v' (hib y (j + 1))) := by
                      have e : boolsV (hib y (j + 1)) = [.bool ((z : Int) % 2 == 1)] ++ boolsV (hib y j) := by
                        rw [low_bitH, HZ.out]; rfl
                      have e2 : (hib y (j + 1)).length = 1 + (hib y j).length := by rw [hib_len, hib_len]; omega
                      have h1 : OwnL w1 wm.heap.size v' (hib y (j + 1)) := by
                        unfold OwnL
                        rw [e, e2]; exact hown'
                      refine ⟨h1, ?_⟩
                      rcases h1.2 with ⟨h0, _⟩ | ⟨g', cap', cur, hv, _⟩
                      · exact absurd h0 hnil
                      · exact ⟨g', cap', hv⟩
                    clear hown' hgrow hnil
                    go_wp2
                    go_roundw
                    case rel => exact ⟨j + 1, z / 2, by omega, by go_num, by rw [HZ.out, Nat.pow_succ, Nat.div_div_eq_div_mul], val_int (by omega), HO1.out, HB1.out⟩
                    case measure => simp [intOf]; omega
                  · obtain rfl : j = l := by omega
                    obtain ⟨hol, g2, c2, rfl⟩ := HOS.out
                    rw [hib_len]
                    have HC2 := hidM (HCS.out.below HBS.out)
                    have hg2 : g2 ≠ g ∧ w.heap.size ≤ g2 := by
                      have h1 := (World.ownsRow.lt hol g2 rfl).1
                      have h2 := HCS.out.lt
                      have h3 := HCS.out.bel.size
                      omega
                    have HC3 : Hid (CSt w (wr.setCell ⟨g, s, none⟩ (.slice (some ⟨g2, 0, none⟩) j c2)) g ln k j (s + 1)) := by
                      refine HC2.out.put hsk HL.out.symm (by omega) hg2 fun i hi => ?_
                      have h1 := World.ownsRow.cells (g := g2) hol rfl i _ (boolsV_at (hib y j) i (by rw [HCD.out] at hi; exact hi))
                      rw [Addr.add_lit] at h1
                      rw [h1]
                      simp only [HCD.out]
                    obtain ⟨cur, hcur, hsz⟩ := HC2.out.box
                    have hcc : wr.cell? ⟨g, s, none⟩ = some (cur[s]'(by omega)) := by rw [cell_of_row wr g s _ 115 (0, 0) hcur]; exact Array.getElem?_eq_getElem (by omega)
                    have hfz : wr.frozen? ⟨g, s, none⟩ = false := frozen_of_row wr g s _ 115 hcur
                    generalize cur[s]'(by omega) = old at *
                    have b3 : (s : Int) < (k : Int) := by omega
                    clear hcur hsz hol hc
                    go_wp2
                    go_roundw
                    case rel => exact ⟨s + 1, y + 1, by omega, by go_num, HY2.out, by go_num, HC3.out⟩
                    case measure => simp [intOf]; omega
              · have hnb : ((l : Int) == (n : Int)) = false := by simp; omega
                have HCX : Hid (CSt w wr g ln k n (s + 1)) := HCS.out.same fun t _ => by
                  unfold Did
                  have := HL.out
                  by_cases ht : t = s
                  · subst ht; omega
                  · omega
                have HY2 : Hid (y = fstC ln k n + cnt ln n (s + 1)) := by unfold Hid; rw [HCN.out, if_neg (by omega), HY.out]; rfl
                go_wp2
                go_roundw
                case rel => exact ⟨s + 1, y, by omega, by go_num, HY2.out, rfl, HCX.out⟩
                case measure => simp [intOf]; omega
            · obtain rfl : s = k := by omega
              have HCX : Hid (CSt w wr g ln s (n + 1) 0) := HCS.out.same fun t ht => by unfold Did; omega
              go_wp2
              go_roundw
              case rel => exact ⟨n + 1, y, by omega, by omega, by go_num, HY.out, rfl, HCX.out⟩
              case measure => simp [intOf]; omega
        · obtain rfl : n = 16 := by omega
          go_wp2
          go_ret
          exact ⟨⟨_,_, rfl, HCS.out.codes fun i => by have := H15.out i; omega⟩, HCS.out.bel⟩
set_option maxHeartbeats 1000000 in
set_option maxRecDepth 100000 in
theorem begins_any (a1 a2 : Option Addr) (c1 c2 : Nat) (k1 k2 : Nat) (l1 l2 : List Bool) (w : World) (h1 : BAt w a1 l1) (h2 : BAt w a2 l2) (e1 : l1.length = k1) (e2 : l2.length = k2) (hk1 : k1 ≤ 1000000000) :
    Calls Tryz.prog 241 #[.slice a1 k1 c1, .slice a2 k2 c2] w fun e w' => e = .returned (.bool (beg l1 l2)) ∧ ∃ n, w' = w.drewN n := by
  have H1 := hidM h1
  have H2 := hidM h2
  have E1 := hidM e1
  have E2 := hidM e2
  clear h1 h2 e1 e2
  by_cases hgt : k1 < k2
  · have HV : Hid (beg l1 l2 = false) := by unfold Hid beg; rw [E1.out, E2.out]; simp; omega
    rw [HV.out]
    go_enter Tryz.func241, Tryz.ntmps241
    go_wp2
    go_ret
    exact ⟨rfl, 0, rfl⟩
  · generalize hV : beg l1 l2 = V
    have HV := hidM hV
    clear hV
    go_enter Tryz.func241, Tryz.ntmps241
    go_wp2
    go_loopw [5, 13] (fun _ i wr => ∃ k n : Nat, k ≤ k2 ∧ i = .int .i64 k ∧ (∀ j (h1 : j < l2.length) (h2 : j < l1.length), j < k → l2[j] = l1[j]) ∧ wr = w.drewN n) (fun _ i _ => k2 - (intOf i).toNat)
    case atStart => exact ⟨0, 0, Nat.zero_le _, rfl, fun j _ _ hj => by omega, rfl⟩
    case round =>
      obtain ⟨k, n, hk, rfl, hall, rfl⟩ := hrel
      have HA := hidM hall
      clear hall
      by_cases hlt : k < k2
      · have q2 : k < l2.length := by rw [E2.out]; exact hlt
        have q1 : k < l1.length := by rw [E1.out]; omega
        obtain ⟨b1, o1, rfl, x1⟩ := H1.out.get k q1
        obtain ⟨b2, o2, rfl, x2⟩ := H2.out.get k q2
        have HN : Hid (∀ j (h1 : j < l2.length) (h2 : j < l1.length), l2[k] = l1[k] → j < k + 1 → l2[j] = l1[j]) := fun j h1 h2 he hj => by
          by_cases hjk : j = k
          · subst hjk; exact he
          · exact HA.out j h1 h2 (by omega)
        have HF : Hid (l2[k] ≠ l1[k] → beg l1 l2 = false) := fun h => beg_false_of q2 q1 h
        have b3 : (k : Int) < (k1 : Int) := by omega
        have b4 : (k : Int) < (k2 : Int) := by omega
        generalize l1[k] = u1 at *
        generalize l2[k] = u2 at *
        clear q1 q2
        by_cases hu : u2 = u1
        · subst hu
          cases u2
          · go_wp2
            go_quiet (fail)
            go_wp2
            go_roundw
            case rel => exact ⟨k + 1, _, by omega, by go_num, fun j h1 h2 hj => HN.out j h1 h2 trivial hj, rfl⟩
            case measure => simp [intOf]; omega
          · go_wp2
            go_quiet (fail)
            go_wp2
            go_roundw
            case rel => exact ⟨k + 1, _, by omega, by go_num, fun j h1 h2 hj => HN.out j h1 h2 trivial hj, rfl⟩
            case measure => simp [intOf]; omega
        · have HVF : Hid (V = false) := by unfold Hid; rw [← HV.out, HF.out hu]
          clear HN HF
          cases u1
          · cases u2
            · exact absurd rfl hu
            · go_wp2
              go_quiet (fail)
              go_wp2
              go_ret
              exact ⟨by rw [HVF.out]; rfl, _, World.drewN_drewN ..⟩
          · cases u2
            · go_wp2
              go_quiet (fail)
              go_wp2
              go_ret
              exact ⟨by rw [HVF.out]; rfl, _, World.drewN_drewN ..⟩
            · exact absurd rfl hu
      · have HVT : Hid (V = true) := by
          unfold Hid
          rw [← HV.out]
          exact beg_true_of (by rw [E1.out, E2.out]; omega) fun i h1 h2 => HA.out i h1 h2 (by have := E2.out; omega)
        go_wp2
        go_ret
        exact ⟨by rw [HVT.out]; rfl, n, rfl⟩
set_option maxRecDepth 100000 in
theorem BAt.drewN {w : World} {a : Option Addr} {l : List Bool} (h : BAt w a l) (n : Nat) : BAt (w.drewN n) a l := h
set_option maxHeartbeats 2000000 in
set_option maxRecDepth 100000 in
theorem rread_any (B : Nat) (a a2 : Option Addr) (L c c2 k2 : Nat) (ln : Nat → Nat) (b : List Bool) (w : World) (hC : CodesAt w B a ln L) (hb : BAt w a2 b) (e2 : b.length = k2) (hL : L ≤ 320) (h15 : ∀ i, ln i ≤ 15) (hk2 : k2 ≤ 1000000000) :
    Calls Tryz.prog 200 #[.slice a L c, .slice a2 k2 c2] w fun e w' => RefRead (csOf ln L) L b e ∧ ∃ n, w' = w.drewN n := by
  have HC := hidM hC
  have HBB := hidM hb
  have E2 := hidM e2
  have H15 := hidM h15
  clear hC hb e2 h15
  go_enter Tryz.func200, Tryz.ntmps200
  go_wp2
  go_loopw [7, 8, 9, 14] (fun sm _ _ i wr => ∃ (k n : Nat) (q : Bool), k ≤ L ∧ i = .int .i64 k ∧ sm = .bool q ∧ (q = false → ∀ j, j < k → (csOf ln L j).length = 0) ∧ (∀ j, j < k → 0 < (csOf ln L j).length → beg b (csOf ln L j) = false) ∧ wr = w.drewN n) (fun _ _ _ i _ => L - (intOf i).toNat)
  case atStart => exact ⟨0, 0, false, Nat.zero_le _, rfl, rfl, fun _ j hj => by omega, fun j hj => by omega, rfl⟩
  case round =>
    obtain ⟨k, n, q, hk, rfl, rfl, hq, hno, rfl⟩ := hrel
    have HQ := hidM hq
    have HNO := hidM hno
    clear hq hno
    by_cases hlt : k < L
    · obtain ⟨g, a', c', rfl, hcell, hbat⟩ := HC.out.get k hlt
      have HBA := hidM hbat
      have hk15 := H15.out k
      have HLN : Hid ((hib (codeC ln L k) (ln k)).length = ln k) := hib_len _ _
      have HCS : Hid (csOf ln L k = hib (codeC ln L k) (ln k)) := rfl
      have b3 : (k : Int) < (L : Int) := by omega
      obtain ⟨z, hz⟩ : ∃ z, z = ln k := ⟨_, rfl⟩
      obtain ⟨lb, hlb⟩ : ∃ lb, lb = hib (codeC ln L k) (ln k) := ⟨_, rfl⟩
      rw [← hlb] at HBA HLN HCS
      rw [← hz] at hcell hk15 HLN
      clear hbat hz hlb
      by_cases h0 : z = 0
      · subst h0
        have HQ2 : Hid (q = false → ∀ j, j < k + 1 → (csOf ln L j).length = 0) := fun h j hj => by
          by_cases he : j = k
          · subst he; rw [HCS.out, HLN.out]
          · exact HQ.out h j (by omega)
        have HN2 : Hid (∀ j, j < k + 1 → 0 < (csOf ln L j).length → beg b (csOf ln L j) = false) := fun j hj h0 => by
          by_cases he : j = k
          · subst he; rw [HCS.out, HLN.out] at h0; omega
          · exact HNO.out j (by omega) h0
        go_wp2
        go_roundw
        case rel => exact ⟨k + 1, n, q, by omega, by go_num, rfl, HQ2.out, HN2.out, rfl⟩
        case measure => simp [intOf]; omega
      · have hp : decide ((0 : Int) < (z : Int)) = true := by simp; omega
        go_wp2_with fail
        refine (begins_any a2 a' c2 c' k2 z b lb _ (HBB.out.drewN n) (HBA.out.drewN n) E2.out HLN.out hk2).mono ?_
        rintro e w1 ⟨rfl, n1, rfl⟩
        cases hbg : beg b lb
        · have HN2 : Hid (∀ j, j < k + 1 → 0 < (csOf ln L j).length → beg b (csOf ln L j) = false) := fun j hj h0 => by
            by_cases he : j = k
            · subst he; rw [HCS.out]; exact hbg
            · exact HNO.out j (by omega) h0
          clear hbg
          go_wp2
          go_roundw
          case rel => exact ⟨k + 1, _, true, by omega, by go_num, rfl, fun h => by simp at h, HN2.out, rfl⟩
          case measure => simp [intOf]; omega
        · have HFD : Hid (z = (csOf ln L k).length ∧ 0 < z ∧ beg b (csOf ln L k) = true) := by unfold Hid; rw [HCS.out, HLN.out]; exact ⟨rfl, by omega, hbg⟩
          clear hbg
          go_wp2
          go_ret3
          exact ⟨.inl ⟨k, z, hlt, HFD.out.1, HFD.out.2.1, HFD.out.2.2, rfl⟩, _, rfl⟩
    · obtain rfl : k = L := by omega
      cases q
      · have HEND : Hid (RefRead (csOf ln k) k b (.returned (.tuple #[.int .i64 0, .int .i64 0, .int .i64 3]))) := .inr ⟨HNO.out, .inr ⟨fun s hs h => by have := HQ.out rfl s hs; omega, rfl⟩⟩
        go_wp2
        go_ret3
        exact ⟨HEND.out, n, rfl⟩
      · clear HQ
        go_wp2
        go_loopw [11, 33] (fun _ i wr => ∃ j m : Nat, j ≤ k ∧ i = .int .i64 j ∧ (∀ s, s < j → b.length < (csOf ln k s).length → beg (csOf ln k s) b = false) ∧ wr = w.drewN m) (fun _ i _ => k - (intOf i).toNat)
        case atStart => exact ⟨0, n, Nat.zero_le _, rfl, fun s hs => by omega, rfl⟩
        case round =>
          obtain ⟨j, m, hj, rfl, hall, rfl⟩ := hrel
          have HA := hidM hall
          clear hall
          by_cases hjk : j < k
          · obtain ⟨g, a', c', rfl, hcell, hbat⟩ := HC.out.get j hjk
            have HBA := hidM hbat
            have hk15 := H15.out j
            have HLN : Hid ((hib (codeC ln k j) (ln j)).length = ln j) := hib_len _ _
            have HCS : Hid (csOf ln k j = hib (codeC ln k j) (ln j)) := rfl
            have b3 : (j : Int) < (k : Int) := by omega
            obtain ⟨z, hz⟩ : ∃ z, z = ln j := ⟨_, rfl⟩
            obtain ⟨lb, hlb⟩ : ∃ lb, lb = hib (codeC ln k j) (ln j) := ⟨_, rfl⟩
            rw [← hlb] at HBA HLN HCS
            rw [← hz] at hcell hk15 HLN
            clear hbat hz hlb
            by_cases hgt : k2 < z
            · go_wp2_with fail
              refine (begins_any a' a2 c' c2 z k2 lb b _ (HBA.out.drewN m) (HBB.out.drewN m) HLN.out E2.out (by omega)).mono ?_
              rintro e w1 ⟨rfl, n1, rfl⟩
              cases hbg : beg lb b
              · have HN2 : Hid (∀ s, s < j + 1 → b.length < (csOf ln k s).length → beg (csOf ln k s) b = false) := fun s hs h0 => by
                  by_cases he : s = j
                  · subst he; rw [HCS.out]; exact hbg
                  · exact HA.out s (by omega) h0
                clear hbg
                go_wp2
                go_roundw
                case rel => exact ⟨j + 1, _, by omega, by go_num, HN2.out, rfl⟩
                case measure => simp [intOf]; omega
              · have HEND : Hid (RefRead (csOf ln k) k b (.returned (.tuple #[.int .i64 0, .int .i64 0, .int .i64 6]))) := .inr ⟨HNO.out, .inl ⟨⟨j, hjk, by rw [HCS.out, HLN.out, E2.out]; exact hgt, by rw [HCS.out]; exact hbg⟩, rfl⟩⟩
                clear hbg
                go_wp2
                go_ret3
                exact ⟨HEND.out, _, rfl⟩
            · have HN2 : Hid (∀ s, s < j + 1 → b.length < (csOf ln k s).length → beg (csOf ln k s) b = false) := fun s hs h0 => by
                by_cases he : s = j
                · subst he; rw [HCS.out, HLN.out, E2.out] at h0; omega
                · exact HA.out s (by omega) h0
              go_wp2
              go_roundw
              case rel => exact ⟨j + 1, m, by omega, by go_num, HN2.out, rfl⟩
              case measure => simp [intOf]; omega
          · obtain rfl : j = k := by omega
            have HEND : Hid (RefRead (csOf ln j) j b (.returned (.tuple #[.int .i64 0, .int .i64 0, .int .i64 3]))) := .inr ⟨HNO.out, .inr ⟨HA.out, rfl⟩⟩
            go_wp2
            go_ret3
            exact ⟨HEND.out, m, rfl⟩

end Go.Proofs.YtddoemeellbhaaaGreatDoor
namespace Go.Proofs.YtddoemeellbhaaaGreatDoor
open Go.RowKit
/-- the document's stream: its bits, the place, what came out, the limit, the error -/
def XBox (w : World) (R : Nat) (bv : Value) (t : Nat) (v : Value) (most e : Nat) : Prop :=
  w.heap[R]? = some (.cells #[bv, .int .i64 (t : Int), v, .int .i64 (most : Int), .int .i64 (e : Int)] 118 (0, 0))
section
variable {w w' : World} {R t most e : Nat} {bv v : Value}
theorem XBox.c0 (h : XBox w R bv t v most e) : w.cell? ⟨R, 0, none⟩ = some bv := by rw [cell_of_row w R _ _ 118 (0, 0) h]; rfl
theorem XBox.c1 (h : XBox w R bv t v most e) : w.cell? ⟨R, 1, none⟩ = some (.int .i64 (t : Int)) := by rw [cell_of_row w R _ _ 118 (0, 0) h]; rfl
theorem XBox.c2 (h : XBox w R bv t v most e) : w.cell? ⟨R, 2, none⟩ = some v := by rw [cell_of_row w R _ _ 118 (0, 0) h]; rfl
theorem XBox.c3 (h : XBox w R bv t v most e) : w.cell? ⟨R, 3, none⟩ = some (.int .i64 (most : Int)) := by rw [cell_of_row w R _ _ 118 (0, 0) h]; rfl
theorem XBox.c4 (h : XBox w R bv t v most e) : w.cell? ⟨R, 4, none⟩ = some (.int .i64 (e : Int)) := by rw [cell_of_row w R _ _ 118 (0, 0) h]; rfl
theorem XBox.fz (h : XBox w R bv t v most e) (j : Nat) : w.frozen? ⟨R, j, none⟩ = false := frozen_of_row w R j _ 118 h
theorem XBox.lt (h : XBox w R bv t v most e) : R < w.heap.size := (Array.getElem?_eq_some_iff.1 h).1
theorem XBox.same (h : XBox w R bv t v most e) (hh : w'.heap[R]? = w.heap[R]?) : XBox w' R bv t v most e := hh.trans h
theorem XBox.set1 (h : XBox w R bv t v most e) (u : Nat) : XBox (w.setCell ⟨R, 1, none⟩ (.int .i64 (u : Int))) R bv u v most e := by unfold XBox; rw [heap_setCell_same w R _ _ 118 _ h]; rfl
theorem XBox.set2 (h : XBox w R bv t v most e) (u : Value) : XBox (w.setCell ⟨R, 2, none⟩ u) R bv t u most e := by unfold XBox; rw [heap_setCell_same w R _ _ 118 _ h]; rfl
theorem XBox.set4 (h : XBox w R bv t v most e) (u : Nat) : XBox (w.setCell ⟨R, 4, none⟩ (.int .i64 (u : Int))) R bv t v most u := by unfold XBox; rw [heap_setCell_same w R _ _ 118 _ h]; rfl
end
theorem bat_sub {w : World} {g : Nat} {l : List Bool} (h : BAt w (some ⟨g, 0, none⟩) l) (t n : Nat) : BAt w (some ⟨g, t, none⟩) ((l.drop t).take n) := by
  by_cases h0 : (l.drop t).take n = []
  · exact .inl h0
  · rcases h with hn | ⟨b, off, he, hc⟩
    · subst hn; simp at h0
    · simp only [Option.some.injEq, Addr.mk.injEq, and_true] at he
      obtain ⟨rfl, rfl⟩ := he
      refine .inr ⟨g, t, rfl, fun i hi => ?_⟩
      rw [List.length_take, List.length_drop] at hi
      have := hc (t + i) (by omega)
      rw [Nat.zero_add] at this
      rw [this, List.getElem_take, List.getElem_drop]
theorem BAt.block {w w' : World} {g : Nat} {l : List Bool} (h : BAt w (some ⟨g, 0, none⟩) l) (hg : w'.heap[g]? = w.heap[g]?) : BAt w' (some ⟨g, 0, none⟩) l := by
  rcases h with h0 | ⟨b, off, he, hc⟩
  · exact .inl h0
  · simp only [Option.some.injEq, Addr.mk.injEq, and_true] at he
    obtain ⟨rfl, rfl⟩ := he
    exact .inr ⟨g, 0, rfl, fun i hi => (World.cell?_of_block (a := ⟨g, 0 + i, none⟩) hg).trans (hc i hi)⟩
/-- the document's stream as it stands -/
structure StX (w : World) (R g c T : Nat) (X : List UInt8) (t most e : Nat) (v : Value) (o : List UInt8) : Prop where
  box : XBox w R (.slice (some ⟨g, 0, none⟩) T c) t v most e
  bits : BAt w (some ⟨g, 0, none⟩) (bitsL X)
  gR : g < R
  tot : T = total X
  cap : T ≤ c
  own : OwnB w (R + 1) v o
section
variable {w w' : World} {R g c T t most e : Nat} {X o : List UInt8} {v : Value}
theorem StX.drewN (h : StX w R g c T X t most e v o) (m : Nat) : StX (w.drewN m) R g c T X t most e v o := ⟨h.box, h.bits, h.gR, h.tot, h.cap, h.own⟩
theorem StX.only {t' e' : Nat} (h : StX w R g c T X t most e v o) (ho : Only R w w') (hb : XBox w' R (.slice (some ⟨g, 0, none⟩) T c) t' v most e') : StX w' R g c T X t' most e' v o :=
  ⟨hb, h.bits.block (ho.block g (by have := h.gR; omega)), h.gR, h.tot, h.cap, h.own.same fun k hk => ho.block k (by have := (h.own.ge hk).1; omega)⟩
theorem StX.later (h : StX w R g c T X t most e v o) (hb : Below w.heap.size w w') : StX w' R g c T X t most e v o :=
  ⟨h.box.same (hb.block R h.box.lt), h.bits.below hb, h.gR, h.tot, h.cap, h.own.same fun k hk => hb.block k (h.own.ge hk).2⟩
theorem StX.setE (h : StX w R g c T X t most e v o) (u : Nat) : StX (w.setCell ⟨R, 4, none⟩ (.int .i64 (u : Int))) R g c T X t most u v o ∧ Only R w (w.setCell ⟨R, 4, none⟩ (.int .i64 (u : Int))) :=
  have ho := (Only.refl R w).setCell (o := 4) (.int .i64 (u : Int))
  ⟨h.only ho (h.box.set4 u), ho⟩
theorem StX.setT (h : StX w R g c T X t most e v o) (u : Nat) : StX (w.setCell ⟨R, 1, none⟩ (.int .i64 (u : Int))) R g c T X u most e v o ∧ Only R w (w.setCell ⟨R, 1, none⟩ (.int .i64 (u : Int))) :=
  have ho := (Only.refl R w).setCell (o := 1) (.int .i64 (u : Int))
  ⟨h.only ho (h.box.set1 u), ho⟩
end
set_option maxRecDepth 100000 in
theorem rfail_any (R g c T t most u : Nat) (X o : List UInt8) (v : Value) (w : World) (hS : StX w R g c T X t most 0 v o) :
    Calls Tryz.prog 102 #[.pointer (some ⟨R, 0, none⟩), .int .i64 (u : Int)] w fun e w' => e = .returned (.tuple #[]) ∧ w' = w.setCell ⟨R, 4, none⟩ (.int .i64 (u : Int)) := by
  have c4 := hS.box.c4
  have f4 := hS.box.fz 4
  clear hS
  go_enter Tryz.func102, Tryz.ntmps102
  go_wp2
  exact bodyPost_end (results_none rfl _ _ _) rfl ⟨rfl, rfl⟩
end Go.Proofs.YtddoemeellbhaaaGreatDoor
namespace Go.Proofs.YtddoemeellbhaaaGreatDoor
open Go.RowKit
/-- what the document's number answers -/
def NumPost (R g c T : Nat) (X : List UInt8) (t most n : Nat) (v : Value) (o : List UInt8) (e : Ending) (w' : World) : Prop :=
  (∃ x, num X t n = some x ∧ x < 2 ^ n ∧ t + n ≤ T ∧ e = .returned (.int .i64 (x : Int)) ∧ StX w' R g c T X (t + n) most 0 v o) ∨
  (num X t n = none ∧ e = .returned (.int .i64 0) ∧ StX w' R g c T X t most 6 v o)
theorem num53 {R g c T t most n : Nat} {X o : List UInt8} {v : Value} {w : World} (hS : StX w R g c T X t most 0 v o) (hle : t + n ≤ T) (hn : n ≤ 16) (a : Option Addr) (cp m : Nat) (ha : a = some ⟨g, t, none⟩ ∨ n = 0) :
    Calls Tryz.prog 149 #[.slice a n cp] (w.drewN m) fun e w' => e = .returned (.int .u32 (bitsN X t n : Int)) ∧ w' = w.drewN m := by
  have hb16 : bitsN X t n < 65536 := Nat.lt_of_lt_of_le (bitsN_lt X t n) (by have : 2 ^ n ≤ 2 ^ 16 := Nat.pow_le_pow_right (by decide) hn; omega)
  have hbl := bitsL_sub X t n
  have hbat := bat_sub hS.bits t n
  have hln : (((bitsL X).drop t).take n).length = n := by rw [sub_len, ← hS.tot]; omega
  have h1 : BAt (w.drewN m) a (((bitsL X).drop t).take n) := by
    rcases ha with rfl | h0
    · exact hbat.drewN m
    · exact .inl (List.eq_nil_of_length_eq_zero (by rw [hln, h0]))
  have h2 := number_anyI a cp _ (w.drewN m) (by rw [hln]; omega) h1
  rw [hln, hbl, Nat.mod_eq_of_lt (by omega)] at h2
  exact h2
set_option maxHeartbeats 1000000 in
set_option maxRecDepth 100000 in
theorem rnum_any (R g c T t most n : Nat) (X o : List UInt8) (v : Value) (w : World) (hS : StX w R g c T X t most 0 v o) (hT : T ≤ 1000000) (ht : t ≤ T) (hn : n ≤ 16) :
    Calls Tryz.prog 103 #[.pointer (some ⟨R, 0, none⟩), .int .i64 (n : Int)] w fun e w' => NumPost R g c T X t most n v o e w' ∧ Only R w w' := by
  have c0 := hS.box.c0
  have c1 := hS.box.c1
  have c4 := hS.box.c4
  have hcap := hS.cap
  have HS := hidM hS
  obtain ⟨u, hu⟩ : ∃ u, u = t + n := ⟨_, rfl⟩
  have e1 : (t : Int) + (n : Int) = (u : Int) := by omega
  have HU := hidM hu
  by_cases hle : u ≤ T
  · have hN : num X t n = some (bitsN X t n) := by unfold num; rw [← hS.tot, if_pos (by omega)]
    have hlt := bitsN_lt X t n
    have HN := hidM hN
    have HLT := hidM hlt
    have hx32 : bitsN X t n < 65536 := Nat.lt_of_lt_of_le (bitsN_lt X t n) (by have : 2 ^ n ≤ 2 ^ 16 := Nat.pow_le_pow_right (by decide) hn; omega)
    have j1 : (t : Int) ≤ (u : Int) := by omega
    have j2 : (u : Int) ≤ (c : Int) := by omega
    have j3 : (u : Int) - (t : Int) = (n : Int) := by omega
    have j5 : u - t = n := by omega
    have wu : IntKind.i64.wrap (u : Int) = (u : Int) := by rw [IntKind.wrap_i64]; omega
    have wt : IntKind.i64.wrap (t : Int) = (t : Int) := by rw [IntKind.wrap_i64]; omega
    have hu9 : u ≤ 1000000 := by omega
    have ht9 : t ≤ 1000000 := by omega
    have HLE : Hid (t + n ≤ T) := by unfold Hid; omega
    clear hS hN hlt hu
    go_enter Tryz.func103, Tryz.ntmps103
    go_wp2
    go_quiet (fail)
    have HS1 := hidM (HS.out.drewN nq)
    have HO1 : Hid (Only R w (w.drewN nq)) := (Only.refl R w).drewN nq
    clear c0 c1 c4
    generalize w.drewN nq = w1 at *
    have c0 := HS1.out.box.c0
    have c1 := HS1.out.box.c1
    have f1 := HS1.out.box.fz 1
    have H53 := hidM (fun a cp m ha => num53 HS1.out HLE.out hn a cp m ha)
    have HFIN : Hid (∀ m, NumPost R g c T X t most n v o (.returned (.int .i64 (bitsN X t n : Int))) ((w1.drewN m).setCell ⟨R, 1, none⟩ (.int .i64 (u : Int))) ∧ Only R w ((w1.drewN m).setCell ⟨R, 1, none⟩ (.int .i64 (u : Int)))) := fun m => by
      have h1 := (HS1.out.drewN m).setT u
      exact ⟨.inl ⟨_, HN.out, HLT.out, HLE.out, rfl, by rw [← HU.out]; exact h1.1⟩, (HO1.out.drewN m).trans h1.2⟩
    generalize bitsN X t n = x at *
    clear HN HLT HLE HS HO1
    by_cases hct : c = t
    · have h0 : n = 0 := by omega
      have HH := hidM h0
      clear h0
      go_wp2
      go_quiet ((go_at_call 149; with_reducible exact Calls.quiet_of_same (H53.out _ _ _ (.inr HH.out))))
      go_wp2
      go_ret
      exact HFIN.out _
    · go_wp2
      go_quiet ((go_at_call 149; with_reducible exact Calls.quiet_of_same (H53.out _ _ _ (.inl rfl))))
      go_wp2
      go_ret
      exact HFIN.out _
  · have hN : num X t n = none := by unfold num; rw [← hS.tot, if_neg (by omega)]
    have HN := hidM hN
    have HF := hidM (fun m => rfail_any R g c T t most 6 X o v (w.drewN m) (hS.drewN m))
    clear hS hN hu
    go_enter Tryz.func103, Tryz.ntmps103
    go_wp2
    go_quiet (fail)
    go_wp2_with fail
    refine (HF.out _).mono ?_
    rintro _ _ ⟨rfl, rfl⟩
    go_wp2
    go_ret
    have h1 := (HS.out.drewN nq).setE 6
    exact ⟨.inr ⟨HN.out, rfl, h1.1⟩, ((Only.refl R w).drewN nq).trans h1.2⟩
end Go.Proofs.YtddoemeellbhaaaGreatDoor
namespace Go.Proofs.YtddoemeellbhaaaGreatDoor
open Go.RowKit
set_option maxRecDepth 100000 in
theorem rnum_err (R g c T t most e n : Nat) (X o : List UInt8) (v : Value) (w : World) (hS : StX w R g c T X t most e v o) (he : e ≠ 0) :
    Calls Tryz.prog 103 #[.pointer (some ⟨R, 0, none⟩), .int .i64 (n : Int)] w fun e w' => e = .returned (.int .i64 0) ∧ w' = w := by
  have c4 := hS.box.c4
  have e0 : ((e : Int) == 0) = false := by simp; omega
  clear hS
  go_enter Tryz.func103, Tryz.ntmps103
  go_wp2
  go_ret
  exact ⟨rfl, rfl⟩
/-- a step of the stream: the box and the row of what came out alone have turned -/
structure Stp (R : Nat) (v v' : Value) (w w' : World) : Prop where
  below : Below R w w'
  sep : Sep R v v' w w'
theorem Stp.refl (R : Nat) (v : Value) (w : World) : Stp R v v w w := ⟨Below.refl _ _, Sep.refl _ _ _⟩
theorem Stp.trans {R : Nat} {v v' v'' : Value} {w w' w'' : World} (h : Stp R v v' w w') (k : Stp R v' v'' w' w'') : Stp R v v'' w w'' := ⟨h.below.trans k.below, h.sep.trans k.sep⟩
theorem Only.stp {R : Nat} {v : Value} {w w' : World} (h : Only R w w') : Stp R v v w w' :=
  ⟨⟨h.os, h.tape, h.output, by rw [h.size]; exact Nat.le_refl _, fun k hk => h.block k (by omega)⟩, fun g h1 h2 h3 => ⟨h.block g h2, h3, by rw [h.size]; exact h1⟩⟩
theorem Below.stp {R : Nat} {v : Value} {w w' : World} (h : Below w.heap.size w w') (hR : R ≤ w.heap.size) : Stp R v v w w' :=
  ⟨h.mono hR, fun g h1 _ h3 => ⟨h.block g h1, h3, Nat.lt_of_lt_of_le h1 h.size⟩⟩
theorem StX.grow {w w1 : World} {R g c T t most e : Nat} {X o : List UInt8} {v v' : Value} {x : UInt8} {ob : Obj} (h : StX w R g c T X t most e v o) (hg : (w.alloc ob).grownBy w1 v.ownBlock)
    (hown : w1.ownsRow (R + 1) 5 1 v' (o.length + 1) (bytesV o ++ [.int .u8 (x.toNat : Int)])) (hloc : v'.ownBlock = v.ownBlock ∨ v'.ownBlock = some (w.heap.size + 1)) :
    (w1.cell? ⟨R, 2, none⟩ = some v ∧ w1.frozen? ⟨R, 2, none⟩ = false) ∧ StX (w1.setCell ⟨R, 2, none⟩ v') R g c T X t most e v' (o ++ [x]) ∧ Stp R v v' w (w1.setCell ⟨R, 2, none⟩ v') := by
  have hlt := h.box.lt
  have hgR := h.gR
  have hsz : (w.alloc ob).heap.size = w.heap.size + 1 := by simp
  have far : ∀ k, k < w.heap.size → some k ≠ v.ownBlock → w1.heap[k]? = w.heap[k]? := fun k h1 h2 => (hg.block k (by omega) h2).trans (Below.heap_alloc w ob k h1)
  have n1 : some R ≠ v.ownBlock := fun e => by have := (h.own.ge e.symm).1; omega
  have n0 : some g ≠ v.ownBlock := fun e => by have := (h.own.ge e.symm).1; omega
  have b1 : XBox w1 R (.slice (some ⟨g, 0, none⟩) T c) t v most e := h.box.same (far _ hlt n1)
  have ho : OwnB w1 (R + 1) v' (o ++ [x]) := by
    unfold OwnB
    rw [bytesV_app, List.length_append]
    exact hown
  refine ⟨⟨b1.c2, b1.fz 2⟩, ⟨b1.set2 v', ?_, h.gR, h.tot, h.cap, ownsRow_setCell_below ho (show R < R + 1 by omega) v'⟩, ⟨?_, ?_⟩⟩
  · exact h.bits.block ((Below.heap_setCell w1 ⟨R, 2, none⟩ v' g (by show g ≠ R; omega)).trans (far g (by omega) n0))
  · refine ⟨?_, ?_, ?_, ?_, fun k hk => ?_⟩
    · exact hg.os
    · exact hg.tape
    · exact hg.output
    · have := hg.size; simp at this ⊢; omega
    · rw [Below.heap_setCell w1 ⟨R, 2, none⟩ v' k (by show k ≠ R; omega)]
      exact far k (by omega) (fun e => by have := (h.own.ge e.symm).1; omega)
  · intro k h1 h2 h3
    refine ⟨(Below.heap_setCell w1 ⟨R, 2, none⟩ v' k h2).trans (far k h1 h3), ?_, ?_⟩
    · rcases hloc with h4 | h4
      · rw [h4]; exact h3
      · rw [h4]; intro e; simp only [Option.some.injEq] at e; omega
    · have := hg.size; simp at this ⊢; omega
/-- what the document's put does -/
def PutX (R g c T : Nat) (X : List UInt8) (t most : Nat) (v : Value) (o : List UInt8) (x : UInt8) (w : World) (e : Ending) (w' : World) : Prop :=
  e = .returned (.tuple #[]) ∧
  ((most ≤ o.length ∧ StX w' R g c T X t most 2 v o ∧ Stp R v v w w') ∨
   (o.length < most ∧ ∃ v', StX w' R g c T X t most 0 v' (o ++ [x]) ∧ Stp R v v' w w'))
set_option maxHeartbeats 1000000 in
set_option maxRecDepth 100000 in
theorem rput_any (R g c T t most : Nat) (X o : List UInt8) (x : UInt8) (v : Value) (w : World) (hS : StX w R g c T X t most 0 v o) (hm : most ≤ 65536) (hl : o.length ≤ most) :
    Calls Tryz.prog 150 #[.pointer (some ⟨R, 0, none⟩), .int .u8 (x.toNat : Int)] w fun e w' => PutX R g c T X t most v o x w e w' := by
  obtain ⟨a, cp, rfl⟩ := hS.own.shape
  obtain ⟨i0, hi, hz0, hz1, hz2⟩ := info5_parts
  have c2 := hS.box.c2
  have c3 := hS.box.c3
  have c4 := hS.box.c4
  have HS := hidM hS
  clear hS
  go_enter Tryz.func150, Tryz.ntmps150
  by_cases hfull : most ≤ o.length
  · have k1 : (most : Int) ≤ (o.length : Int) := by omega
    have HF := hidM (fun m => rfail_any R g c T t most 2 X o _ (w.drewN m) (HS.out.drewN m))
    go_wp2
    go_quiet (fail)
    go_wp2_with fail
    refine (HF.out _).mono ?_
    rintro _ _ ⟨rfl, rfl⟩
    have h1 := (HS.out.drewN nq).setE 2
    have HS2 := hidM h1.1
    have HO2 : Hid (Only R w ((w.drewN nq).setCell ⟨R, 4, none⟩ (.int .i64 ((2 : Nat) : Int)))) := ((Only.refl R w).drewN nq).trans h1.2
    clear h1 c2 c3 c4
    generalize (w.drewN nq).setCell ⟨R, 4, none⟩ (.int .i64 ((2 : Nat) : Int)) = w2 at *
    have c4 : w2.cell? ⟨R, 4, none⟩ = some (.int .i64 2) := HS2.out.box.c4
    go_wp2
    exact bodyPost_end (results_none rfl _ _ _) rfl ⟨rfl, .inl ⟨hfull, HS2.out, HO2.out.stp⟩⟩
  · have k1 : ¬ (most : Int) ≤ (o.length : Int) := by omega
    go_wp2
    go_quiet (fail)
    have HS1 := hidM (HS.out.drewN nq)
    have HO1 : Hid (Stp R (.slice a o.length cp) (.slice a o.length cp) w (w.drewN nq)) := ((Only.refl R w).drewN nq).stp
    clear c2 c3 c4
    generalize w.drewN nq = w1 at *
    have c2 := HS1.out.box.c2
    have c4 := HS1.out.box.c4
    have hR1 := HS1.out.box.lt
    go_wp2_with (first
      | (at_builtin; go_loud (refine wpList_append_own_at _ rfl _ _ 81 rfl (R + 1) 5 i0 (.int .u8 0) 1 1 Tryz.underlying81 hi hz0 hz1 hz2 rfl (by decide) (.slice a o.length cp) o.length (bytesV o) rfl (World.ownsRow.alloc HS1.out.own _) ⟨w1.heap.size, 0, none⟩ 1 1 [.int .u8 (x.toNat : Int)] ?f0 rfl ?f1 ?f2 ?f3 ?f4 ?f5 ?_)))
    try (case f0 => rfl)
    case f1 => exact World.news_of_block (heap_alloc_new _ _)
    case f2 => first | rfl | (intro u hu; simp at hu; subst hu; rfl)
    case f3 => first | (unfold maxLen; omega) | (simp [maxLen]; omega)
    case f4 => first | omega | (simp; omega)
    case f5 => first | omega | (simp; omega)
    intro v' w6 hown hgrow _ hloc
    obtain ⟨⟨k0, k2⟩, hst, hkp⟩ := HS1.out.grow (x := x) hgrow hown hloc
    have HST := hidM hst
    have HKP := hidM (HO1.out.trans hkp)
    obtain ⟨a2, c9, rfl⟩ := own_slice hown
    clear hown hgrow hloc hst hkp
    go_wp2
    exact bodyPost_end (results_none rfl _ _ _) rfl ⟨rfl, .inr ⟨by omega, _, HST.out, HKP.out⟩⟩
set_option maxRecDepth 100000 in
theorem rput_err (R g c T t most e : Nat) (X o : List UInt8) (y : Int) (v : Value) (w : World) (hS : StX w R g c T X t most e v o) (he : e ≠ 0) :
    Calls Tryz.prog 150 #[.pointer (some ⟨R, 0, none⟩), .int .u8 y] w fun e w' => e = .returned (.tuple #[]) ∧ ∃ m, w' = w.drewN m := by
  have c4 := hS.box.c4
  have e0 : ((e : Int) == 0) = false := by simp; omega
  clear hS
  go_enter Tryz.func150, Tryz.ntmps150
  go_wp2
  go_quiet (fail)
  go_wp2
  exact bodyPost_end (results_none rfl _ _ _) rfl ⟨rfl, _, rfl⟩
end Go.Proofs.YtddoemeellbhaaaGreatDoor
namespace Go.Proofs.YtddoemeellbhaaaGreatDoor
open Go.RowKit
theorem SymR.total (c : Cd) (X : List UInt8) (t : Nat) : ∃ r, SymR c X t r := by
  by_cases h : ∃ s, Next c X t s
  · obtain ⟨s, hs⟩ := h
    exact ⟨_, .hit s hs⟩
  · have hn : ∀ s, ¬ Next c X t s := fun s hs => h ⟨s, hs⟩
    rcases Nat.lt_or_ge (Go.Proofs.YtddoemeellbhaaaGreatDoor.total X) (t + lgs c.ln c.L) with h1 | h1
    · exact ⟨_, .short hn h1⟩
    · exact ⟨_, .none hn h1⟩
/-- a set that the document can read -/
structure Cd.Good (c : Cd) : Prop where
  ok : c.Ok
  fit : Fit c.ln c.L
/-- the rows of a set's codes lie from B on -/
def CodR (w : World) (B : Nat) (a : Option Addr) (c : Cd) : Prop := CodesAt w B a c.ln c.L
/-- what the document's symbol answers -/
def SymX (cd : Cd) (R g c T : Nat) (X : List UInt8) (t most : Nat) (v : Value) (o : List UInt8) (e : Ending) (w' : World) : Prop :=
  (∃ s t' : Nat, SymR cd X t (.inr (s, t')) ∧ t' ≤ T ∧ s < cd.L ∧ e = .returned (.int .i64 (s : Int)) ∧ StX w' R g c T X t' most 0 v o) ∨
  (∃ r : Nat, (r = 6 ∨ r = 3) ∧ SymR cd X t (.inl r) ∧ e = .returned (.int .i64 0) ∧ StX w' R g c T X t most r v o)
def symV (t : Nat) : Nat ⊕ (Nat × Nat) → Value
  | .inl e => .tuple #[.int .i64 0, .int .i64 0, .int .i64 (e : Int)]
  | .inr (s, t') => .tuple #[.int .i64 (s : Int), .int .i64 ((t' - t : Nat) : Int), .int .i64 0]
theorem read86 {R g c T t most B k : Nat} {X o : List UInt8} {v : Value} {w : World} {cd : Cd} {a : Option Addr} (hS : StX w R g c T X t most 0 v o) (hc : cd.Good) (hC : CodR w B a cd) (ht : t ≤ T) (_hT : T ≤ 1000000) (hk : k = min 16 (T - t)) (r : Nat ⊕ (Nat × Nat)) (hr : SymR cd X t r) (a2 : Option Addr) (cl cp m : Nat) (ha : a2 = some ⟨g, t, none⟩ ∨ k = 0) :
    Calls Tryz.prog 200 #[.slice a cd.L cl, .slice a2 k cp] (w.drewN m) fun e w' => e = .returned (symV t r) ∧ ∃ n, w' = (w.drewN m).drewN n := by
  have hbat := bat_sub hS.bits t 16
  have hln : (((bitsL X).drop t).take 16).length = k := by rw [sub_len, ← hS.tot, hk]
  have h1 : BAt (w.drewN m) a2 (((bitsL X).drop t).take 16) := by
    rcases ha with rfl | h0
    · exact hbat.drewN m
    · exact .inl (List.eq_nil_of_length_eq_zero (by rw [hln, h0]))
  have hC' : CodesAt (w.drewN m) B a cd.ln cd.L := hC.keep fun _ _ _ => rfl
  refine (rread_any B a a2 cd.L cl cp k cd.ln _ (w.drewN m) hC' h1 hln hc.ok.few hc.ok.short (by omega)).mono ?_
  rintro e w' ⟨hp, hw⟩
  refine ⟨?_, hw⟩
  rcases sym_of_ref hc.fit hc.ok.short rfl (by rw [← hS.tot]; exact ht) hp with ⟨s, n, h2, h3, h4, h5, h6, h7⟩ | ⟨q, h2, h3, h4⟩
  · have := hr.det hc.ok h2
    subst this
    rw [h7, symV, show t + n - t = n by omega]
  · have := hr.det hc.ok h3
    subst this
    rw [h4, symV]
set_option maxHeartbeats 1000000 in
set_option maxRecDepth 100000 in
theorem rsym_any (R g c T t most B : Nat) (X o : List UInt8) (v : Value) (w : World) (cd : Cd) (a : Option Addr) (cl : Nat) (hS : StX w R g c T X t most 0 v o) (hc : cd.Good) (hC : CodR w B a cd) (hT : T ≤ 1000000) (ht : t ≤ T) :
    Calls Tryz.prog 153 #[.pointer (some ⟨R, 0, none⟩), .slice a cd.L cl] w fun e w' => SymX cd R g c T X t most v o e w' ∧ Only R w w' := by
  obtain ⟨r, hr⟩ := SymR.total cd X t
  obtain ⟨k, hk⟩ : ∃ k, k = min 16 (T - t) := ⟨_, rfl⟩
  obtain ⟨u, hu⟩ : ∃ u, u = t + k := ⟨_, rfl⟩
  have H86 := hidM (fun a2 cp m ha => read86 hS hc hC ht hT hk r hr a2 cl cp m ha)
  have HR := hidM hr
  have HS := hidM hS
  have c0 := hS.box.c0
  have c1 := hS.box.c1
  have c4 := hS.box.c4
  have hcap := hS.cap
  have hm1 : ((if (T : Int) < (t : Int) + 16 then (T : Int) else (t : Int) + 16) = (u : Int)) := by split <;> omega
  have j1 : (t : Int) ≤ (u : Int) := by omega
  have j2 : (u : Int) ≤ (c : Int) := by omega
  have j3 : (u : Int) - (t : Int) = (k : Int) := by omega
  have j5 : u - t = k := by omega
  have wu : IntKind.i64.wrap (u : Int) = (u : Int) := by rw [IntKind.wrap_i64]; omega
  have wt : IntKind.i64.wrap ((t : Int) + 16) = (t : Int) + 16 := by rw [IntKind.wrap_i64]; omega
  have hu9 : u ≤ 1000000 := by omega
  have ht9 : t ≤ 1000000 := by omega
  have HCT : Hid (c = t → k = 0) := fun h => by omega
  clear hS hr hC hk hu
  go_enter Tryz.func153, Tryz.ntmps153
  have hm2 : ((if T < t + 16 then (T : Int) else (t : Int) + 16) = (u : Int)) := by split <;> omega
  rcases r with e0 | ⟨s, t'⟩
  · have he0 : e0 = 6 ∨ e0 = 3 := by cases HR.out <;> simp
    have hne : ((e0 : Int) == 0) = false := by simp; omega
    have H86' : Hid (∀ (a2 : Option Addr) (cp m : Nat), (a2 = some ⟨g, t, none⟩ ∨ k = 0) → Calls Tryz.prog 200 #[.slice a cd.L cl, .slice a2 k cp] (w.drewN m) fun e w' => e = .returned (.tuple #[.int .i64 0, .int .i64 0, .int .i64 (e0 : Int)]) ∧ ∃ n, w' = (w.drewN m).drewN n) := H86.out
    have HFIN : Hid (∀ m, SymX cd R g c T X t most v o (.returned (.int .i64 0)) ((w.drewN m).setCell ⟨R, 4, none⟩ (.int .i64 (e0 : Int))) ∧ Only R w ((w.drewN m).setCell ⟨R, 4, none⟩ (.int .i64 (e0 : Int)))) := fun m => by
      have h1 := (HS.out.drewN m).setE e0
      exact ⟨.inr ⟨e0, he0, HR.out, rfl, h1.1⟩, ((Only.refl R w).drewN m).trans h1.2⟩
    have HF := hidM (fun m => rfail_any R g c T t most e0 X o _ (w.drewN m) (HS.out.drewN m))
    clear H86 HR HS he0
    by_cases hct : c = t
    · have hut : u = t := by have := HCT.out hct; omega
      have hk0 : k = 0 := HCT.out hct
      clear HCT
      subst hut hct hk0
      have H0 := hidM (fun a2 cp m => H86'.out a2 cp m (.inr rfl))
      clear H86'
      go_wp2
      go_quiet ((go_at_call 200; with_reducible exact Calls.quiet_of (H0.out _ _ _)))
      go_wp2_with fail
      refine (HF.out _).mono ?_
      rintro _ _ ⟨rfl, rfl⟩
      go_wp2
      go_ret
      exact HFIN.out _
    · go_wp2
      go_quiet ((go_at_call 200; with_reducible exact Calls.quiet_of (H86'.out _ _ _ (.inl rfl))))
      go_wp2_with fail
      refine (HF.out _).mono ?_
      rintro _ _ ⟨rfl, rfl⟩
      go_wp2
      go_ret
      exact HFIN.out _
  · obtain ⟨n, hn⟩ : ∃ n, n = t' - t := ⟨_, rfl⟩
    have hlt := HR.out.lt
    have htt : t' ≤ T := by rw [HS.out.tot]; exact hlt.2.2
    have h320 := hc.ok.few
    have H86' : Hid (∀ (a2 : Option Addr) (cp m : Nat), (a2 = some ⟨g, t, none⟩ ∨ k = 0) → Calls Tryz.prog 200 #[.slice a cd.L cl, .slice a2 k cp] (w.drewN m) fun e w' => e = .returned (.tuple #[.int .i64 (s : Int), .int .i64 (n : Int), .int .i64 0]) ∧ ∃ n, w' = (w.drewN m).drewN n) := by rw [hn]; exact H86.out
    have HFIN : Hid (∀ m, SymX cd R g c T X t most v o (.returned (.int .i64 (s : Int))) ((w.drewN m).setCell ⟨R, 1, none⟩ (.int .i64 (t' : Int))) ∧ Only R w ((w.drewN m).setCell ⟨R, 1, none⟩ (.int .i64 (t' : Int)))) := fun m => by
      have h1 := (HS.out.drewN m).setT t'
      exact ⟨.inl ⟨s, t', HR.out, htt, hlt.1, rfl, h1.1⟩, ((Only.refl R w).drewN m).trans h1.2⟩
    have f1 := HS.out.box.fz 1
    have e1 : (t : Int) + (n : Int) = (t' : Int) := by omega
    have ht'9 : t' ≤ 1000000 := by omega
    clear H86 HR HS hlt hn
    by_cases hct : c = t
    · have hut : u = t := by have := HCT.out hct; omega
      have hk0 : k = 0 := HCT.out hct
      clear HCT
      subst hut hct hk0
      have H0 := hidM (fun a2 cp m => H86'.out a2 cp m (.inr rfl))
      clear H86'
      go_wp2
      go_quiet ((go_at_call 200; with_reducible exact Calls.quiet_of (H0.out _ _ _)))
      go_wp2
      go_ret
      exact HFIN.out _
    · go_wp2
      go_quiet ((go_at_call 200; with_reducible exact Calls.quiet_of (H86'.out _ _ _ (.inl rfl))))
      go_wp2
      go_ret
      exact HFIN.out _
end Go.Proofs.YtddoemeellbhaaaGreatDoor
namespace Go.Proofs.YtddoemeellbhaaaGreatDoor
open Go.RowKit
set_option maxRecDepth 100000 in
theorem up_any (t : Nat) (w : World) (ht : t ≤ 1000000) :
    Calls Tryz.prog 108 #[.int .i64 (t : Int)] w fun e w' => e = .returned (.int .i64 ((8 * ((t + 7) / 8) : Nat) : Int)) ∧ w' = w := by
  go_enter Tryz.func108, Tryz.ntmps108
  obtain ⟨a, ha⟩ : ∃ a, a = (t + 7) / 8 := ⟨_, rfl⟩
  obtain ⟨q, hq⟩ : ∃ q, q = 8 * a := ⟨_, rfl⟩
  have e1 : ((t : Int) + 7) / 8 = (a : Int) := by omega
  have e2 : (a : Int) * 8 = (q : Int) := by omega
  have hq9 : q ≤ 1000008 := by omega
  rw [← ha, ← hq]
  clear ha hq
  go_wp2
  go_ret
  exact ⟨rfl, rfl⟩
/-- what the document's stored block does -/
def StoX (R g c T : Nat) (X : List UInt8) (t most : Nat) (v : Value) (o : List UInt8) (w : World) (w' : World) : Prop :=
  match storedR X most t o with
  | .bad n => n ≠ 0 ∧ ∃ v' o' t', StX w' R g c T X t' most n v' o' ∧ Stp R v v' w w'
  | .good t' o' => ∃ v', StX w' R g c T X t' most 0 v' o' ∧ Stp R v v' w w' ∧ t' ≤ T ∧ o'.length ≤ most
theorem num_some {X : List UInt8} {t n x : Nat} (h : num X t n = some x) : x = bitsN X t n ∧ t + n ≤ total X := by
  unfold num at h
  split at h
  · simp only [Option.some.injEq] at h; exact ⟨h.symm, by omega⟩
  · cases h
theorem num_nothing {X : List UInt8} {t n : Nat} (h : num X t n = none) : total X < t + n := by
  unfold num at h
  split at h
  · cases h
  · omega
/-- within a stored block's bytes -/
def StoL (R g c T : Nat) (X : List UInt8) (t most : Nat) (v : Value) (o : List UInt8) (a : Nat) (w : World) (i : Nat) (wr : World) : Prop :=
  (∃ v', StX wr R g c T X (8 * (a + 4 + i)) most 0 v' (o ++ (X.drop (a + 4)).take i) ∧ Stp R v v' w wr ∧ a + 4 + i ≤ X.length ∧ o.length + i ≤ most) ∨
  (∃ e v' o' t', e ≠ 0 ∧ storedR X most t o = .bad e ∧ StX wr R g c T X t' most e v' o' ∧ Stp R v v' w wr)
set_option maxHeartbeats 2000000 in
set_option maxRecDepth 100000 in
theorem rstor_any (R g c T t most : Nat) (X o : List UInt8) (v : Value) (w : World) (hS : StX w R g c T X t most 0 v o) (hT : T ≤ 1000000) (ht : t ≤ T) (hm : most ≤ 65536) (hl : o.length ≤ most) :
    Calls Tryz.prog 104 #[.pointer (some ⟨R, 0, none⟩)] w fun e w' => e = .returned (.tuple #[]) ∧ StoX R g c T X t most v o w w' := by
  have c1 := hS.box.c1
  have f1 := hS.box.fz 1
  have HS := hidM hS
  have hlen : T = 8 * X.length := hS.tot
  have HTL := hidM hlen
  obtain ⟨a, ha⟩ : ∃ a, a = (t + 7) / 8 := ⟨_, rfl⟩
  obtain ⟨q, hq⟩ : ∃ q, q = 8 * a := ⟨_, rfl⟩
  have hqT : q ≤ T := by omega
  have HUP := hidM (up_any t w (by omega))
  rw [← ha, ← hq] at HUP
  have HA := hidM ha
  have HQ := hidM hq
  clear hS ha hq hlen
  go_enter Tryz.func104, Tryz.ntmps104
  go_wp2_with fail
  refine HUP.out.mono ?_
  rintro _ w0 ⟨rfl, h0⟩
  rw [h0]
  clear h0 w0
  go_wp2_with fail
  have h1 := HS.out.setT q
  have HS1 := hidM h1.1
  have HP1 := hidM (h1.2.stp (v := v))
  clear h1 c1 f1 HUP
  generalize w.setCell ⟨R, 1, none⟩ (.int .i64 (q : Int)) = w1 at *
  refine (rnum_any R g c T q most 16 X o v w1 HS1.out hT hqT (by decide)).mono ?_
  rintro _ w2 ⟨hp, ho⟩
  have HP2 := hidM (HP1.out.trans (ho.stp (v := v)))
  clear ho HP1 HS1
  rcases hp with ⟨n, hn, hn16, hq16, rfl, hst⟩ | ⟨hn, rfl, hst⟩
  · have HS2 := hidM hst
    have hN := num_some hn
    have HN := hidM hN.1
    have hn2 : n < 65536 := hn16
    clear hst hn hN hn16
    go_wp2_with fail
    refine (rnum_any R g c T (q + 16) most 16 X o v w2 HS2.out hT hq16 (by decide)).mono ?_
    rintro _ w3 ⟨hp, ho⟩
    have HP3 := hidM (HP2.out.trans (ho.stp (v := v)))
    clear ho HP2 HS2
    rcases hp with ⟨m, hmm, hm16, hq32, rfl, hst⟩ | ⟨hmm, rfl, hst⟩
    · have HS3 := hidM hst
      have hM := num_some hmm
      have HM := hidM hM.1
      have hm2 : m < 65536 := hm16
      have hal : a + 4 ≤ X.length := by have := HTL.out; have := HQ.out; omega
      have c4 := HS3.out.box.c4
      clear hst hmm hM hm16
      obtain ⟨z, hz⟩ : ∃ z, z = n + m := ⟨_, rfl⟩
      have ez : (n : Int) + (m : Int) = (z : Int) := by omega
      by_cases h65 : z = 65535
      · have HGO : Hid (storedR X most t o = if most < o.length + min n (X.length - (a + 4)) then .bad 2 else if min n (X.length - (a + 4)) < n then .bad 6 else .good (8 * (a + 4 + n)) (o ++ (X.drop (a + 4)).take n)) :=
          stored_go HA.out hal (by rw [← HQ.out, ← HN.out]) (by rw [← HQ.out, ← HM.out]) (by omega)
        have HL0 : Hid (StoL R g c T X t most v o a w 0 w3) := by
          refine .inl ⟨v, ?_, HP3.out, by omega, by omega⟩
          have h1 := HS3.out
          rw [List.take_zero, List.append_nil, show 8 * (a + 4 + 0) = q + 16 + 16 by have := HQ.out; omega]
          exact h1
        subst h65
        clear HS3 HP3 hz HM HN
        go_wp2
        go_loopw [4, 5] (fun i _ wr => ∃ k : Nat, k ≤ n ∧ i = .int .i64 k ∧ StoL R g c T X t most v o a w k wr) (fun i _ _ => n - (intOf i).toNat)
        case atStart => exact ⟨0, Nat.zero_le _, rfl, HL0.out⟩
        case round =>
          obtain ⟨k, hk, rfl, hL⟩ := hrel
          clear HL0 c4
          rcases hL with ⟨v', hst, hsp, hkl, hom⟩ | ⟨e, v', o', t', he, hb, hst, hsp⟩
          · have HST := hidM hst
            have HSP := hidM hsp
            have c4 := hst.box.c4
            clear hst hsp
            by_cases hkn : k < n
            · have hk1 : (k : Int) < (n : Int) := by omega
              have HOL : Hid ((o ++ (X.drop (a + 4)).take k).length = o.length + k) := by unfold Hid; rw [List.length_append, List.length_take, List.length_drop]; omega
              go_wp2_with fail
              refine (rnum_any R g c T (8 * (a + 4 + k)) most 8 X _ v' wr HST.out hT (by have := HTL.out; omega) (by decide)).mono ?_
              rintro _ w4 ⟨hp, ho⟩
              have HP4 := hidM (HSP.out.trans (ho.stp (v := v')))
              clear ho
              rcases hp with ⟨x, hx, hx8, hx9, rfl, hst⟩ | ⟨hx, rfl, hst⟩
              · have hkX : a + 4 + k < X.length := by have := HTL.out; omega
                have hxe : x = X[a + 4 + k].toNat := by rw [(num_some hx).1, bits_byte X _ hkX]
                have HNX := hidM (take_oneI X (a + 4) k hkX)
                obtain ⟨b, hb⟩ : ∃ b, b = X[a + 4 + k] := ⟨_, rfl⟩
                rw [← hb] at hxe HNX
                subst hxe
                have hb256 := byte_lt b
                have HST4 := hidM hst
                clear hst hx hx8 hx9 hb
                go_wp2_with fail
                refine (rput_any R g c T _ most X _ b v' w4 HST4.out hm (by rw [HOL.out]; exact hom)).mono ?_
                rintro _ w5 ⟨rfl, hp⟩
                have HL1 : Hid (StoL R g c T X t most v o a w (k + 1) w5) := by
                  rcases hp with ⟨h1, h2, h3⟩ | ⟨h1, v2, h2, h3⟩
                  · rw [HOL.out] at h1
                    refine .inr ⟨2, v', _,_, by decide, ?_, h2, HP4.out.trans h3⟩
                    rw [HGO.out, if_pos (by omega)]
                  · rw [HOL.out] at h1
                    refine .inl ⟨v2, ?_, HP4.out.trans h3, by omega, by omega⟩
                    rw [HNX.out, ← List.append_assoc, show 8 * (a + 4 + (k + 1)) = 8 * (a + 4 + k) + 8 by omega]
                    exact h2
                clear hp
                go_wp2
                go_roundw
                case rel => exact ⟨k + 1, by omega, by go_num, HL1.out⟩
                case measure => simp [intOf]; omega
              · have HST4 := hidM hst
                have hno := num_nothing hx
                clear hst hx
                go_wp2_with fail
                refine (rput_err R g c T _ most 6 X _ 0 v' w4 HST4.out (by decide)).mono ?_
                rintro _ w5 ⟨rfl, m5, rfl⟩
                have HL1 : Hid (StoL R g c T X t most v o a w (k + 1) (w4.drewN m5)) := by
                  refine .inr ⟨6, v', _,_, by decide, ?_, HST4.out.drewN m5, HP4.out.trans (((Only.refl R w4).drewN m5).stp)⟩
                  unfold total at hno
                  rw [HGO.out, if_neg (by omega), if_pos (by omega)]
                clear hno
                generalize w4.drewN m5 = w5 at *
                go_wp2
                go_roundw
                case rel => exact ⟨k + 1, by omega, by go_num, HL1.out⟩
                case measure => simp [intOf]; omega
            · have hkn' : k = n := by omega
              have hk1 : ¬ (k : Int) < (n : Int) := by omega
              have HEND : Hid (StoX R g c T X t most v o w wr) := by
                unfold Hid StoX
                rw [HGO.out, if_neg (by omega), if_neg (by omega)]
                subst hkn'
                refine ⟨v', HST.out, HSP.out, by have := HTL.out; omega, ?_⟩
                rw [List.length_append, List.length_take, List.length_drop]; omega
              go_wp2
              exact bodyPost_end (results_none rfl _ _ _) rfl ⟨rfl, HEND.out⟩
          · have HEND : Hid (StoX R g c T X t most v o w wr) := by
              unfold Hid StoX
              rw [hb]
              exact ⟨he, v', o', t', hst, hsp⟩
            have c4 := hst.box.c4
            have e0 : ((e : Int) == 0) = false := by simp; omega
            clear hst hsp hb
            by_cases hkn : k < n
            · have hk1 : (k : Int) < (n : Int) := by omega
              go_wp2
              exact bodyPost_end (results_none rfl _ _ _) rfl ⟨rfl, HEND.out⟩
            · have hk1 : ¬ (k : Int) < (n : Int) := by omega
              go_wp2
              exact bodyPost_end (results_none rfl _ _ _) rfl ⟨rfl, HEND.out⟩
      · have e65 : ((z : Int) == 65535) = false := by simp; omega
        have hz9 : z ≤ 131072 := by omega
        have HB : Hid (storedR X most t o = .bad 3) := stored_text HA.out hal (by rw [← HQ.out, ← HN.out]) (by rw [← HQ.out, ← HM.out]) (by omega)
        have h1 := HS3.out.setE 3
        have HS4 := hidM h1.1
        have HP4 := hidM (HP3.out.trans (h1.2.stp (v := v)))
        have HF := hidM (rfail_any R g c T _ most 3 X o v w3 HS3.out)
        clear h1 HS3 HP3 hz
        go_wp2_with fail
        refine HF.out.mono ?_
        rintro _ _ ⟨rfl, rfl⟩
        clear HF c4
        generalize w3.setCell ⟨R, 4, none⟩ (.int .i64 ((3 : Nat) : Int)) = w4 at *
        have c4 : w4.cell? ⟨R, 4, none⟩ = some (.int .i64 3) := HS4.out.box.c4
        have HEND : Hid (StoX R g c T X t most v o w w4) := by
          unfold Hid StoX
          rw [HB.out]
          exact ⟨by decide, v, o, _, HS4.out, HP4.out⟩
        clear HS4 HP4 HB
        go_wp2
        go_loopw [4, 5] (fun i _ wr => i = .int .i64 0 ∧ wr = w4) (fun _ _ _ => 0)
        case atStart => exact ⟨rfl, rfl⟩
        case round =>
          obtain ⟨rfl, rfl⟩ := hrel
          by_cases hn0 : (0 : Int) < (n : Int)
          · go_wp2
            exact bodyPost_end (results_none rfl _ _ _) rfl ⟨rfl, HEND.out⟩
          · go_wp2
            exact bodyPost_end (results_none rfl _ _ _) rfl ⟨rfl, HEND.out⟩
    · have HB : Hid (storedR X most t o = .bad 6) := stored_short HA.out (by have := num_nothing hmm; unfold total at this; have := HQ.out; omega)
      have c4 : w3.cell? ⟨R, 4, none⟩ = some (.int .i64 6) := hst.box.c4
      have HEND : Hid (StoX R g c T X t most v o w w3) := by
        unfold Hid StoX
        rw [HB.out]
        exact ⟨by decide, v, o, _, hst, HP3.out⟩
      clear hst hmm HB
      go_wp2
      go_loopw [4, 5] (fun i _ wr => i = .int .i64 0 ∧ wr = w3) (fun _ _ _ => 0)
      case atStart => exact ⟨rfl, rfl⟩
      case round =>
        obtain ⟨rfl, rfl⟩ := hrel
        by_cases hn0 : (0 : Int) < (n : Int)
        · go_wp2
          exact bodyPost_end (results_none rfl _ _ _) rfl ⟨rfl, HEND.out⟩
        · go_wp2
          exact bodyPost_end (results_none rfl _ _ _) rfl ⟨rfl, HEND.out⟩
  · have HB : Hid (storedR X most t o = .bad 6) := stored_short HA.out (by have := num_nothing hn; unfold total at this; have := HQ.out; omega)
    have c4 : w2.cell? ⟨R, 4, none⟩ = some (.int .i64 6) := hst.box.c4
    have HEND : Hid (StoX R g c T X t most v o w w2) := by
      unfold Hid StoX
      rw [HB.out]
      exact ⟨by decide, v, o, _, hst, HP2.out⟩
    have HF := hidM (rnum_err R g c T _ most 6 16 X o v w2 hst (by decide))
    clear hst hn HB
    go_wp2_with fail
    refine HF.out.mono ?_
    rintro _ w0 ⟨rfl, h0⟩
    rw [h0]
    clear h0 w0 HF
    go_wp2
    go_loopw [4, 5] (fun i _ wr => i = .int .i64 0 ∧ wr = w2) (fun _ _ _ => 0)
    case atStart => exact ⟨rfl, rfl⟩
    case round =>
      obtain ⟨rfl, rfl⟩ := hrel
      by_cases hn0 : (0 : Int) < 1
      · go_wp2
        exact bodyPost_end (results_none rfl _ _ _) rfl ⟨rfl, HEND.out⟩
      · go_wp2
        exact bodyPost_end (results_none rfl _ _ _) rfl ⟨rfl, HEND.out⟩
end Go.Proofs.YtddoemeellbhaaaGreatDoor
namespace Go.Proofs.YtddoemeellbhaaaGreatDoor
open Go.RowKit
/-- two rows of numbers of the call's own -/
structure TwoN (w : World) (B : Nat) (u : Value) (lu : List Nat) (v : Value) (lv : List Nat) : Prop where
  a : OwnN w B u lu
  b : OwnN w B v lv
  ne : ∀ g, u.ownBlock = some g → v.ownBlock ≠ some g
theorem OwnN.same {w w' : World} {B : Nat} {v : Value} {l : List Nat} (h : OwnN w B v l) (hh : ∀ g, v.ownBlock = some g → w'.heap[g]? = w.heap[g]?) : OwnN w' B v l := by
  refine ⟨h.1, ?_⟩
  rcases h.2 with h0 | ⟨g, cap, cur, hv, hg, hc, hr⟩
  · exact .inl h0
  · exact .inr ⟨g, cap, cur, hv, hg, by rw [hh g (by rw [hv]; rfl)]; exact hc, hr⟩
theorem OwnN.ge {w : World} {B : Nat} {v : Value} {l : List Nat} (h : OwnN w B v l) {g : Nat} (hg : v.ownBlock = some g) : B ≤ g ∧ g < w.heap.size := World.ownsRow.lt h g hg
theorem TwoN.swap {w : World} {B : Nat} {u v : Value} {lu lv : List Nat} (h : TwoN w B u lu v lv) : TwoN w B v lv u lu := ⟨h.b, h.a, fun g h1 h2 => h.ne g h2 h1⟩
theorem TwoN.push {w w1 : World} {B : Nat} {u v u' : Value} {lu lv : List Nat} {x : Nat} {ob : Obj} (h : TwoN w B u lu v lv) (hg : (w.alloc ob).grownBy w1 u.ownBlock)
    (hown : w1.ownsRow B 3 1 u' (lu.length + 1) (natsV lu ++ [.int .i64 (x : Int)])) (hloc : u'.ownBlock = u.ownBlock ∨ u'.ownBlock = some (w.heap.size + 1)) : TwoN w1 B u' (lu ++ [x]) v lv := by
  have hsz : (w.alloc ob).heap.size = w.heap.size + 1 := by simp
  refine ⟨?_, h.b.same fun g hg2 => ?_, fun g h1 h2 => ?_⟩
  · unfold OwnN
    rw [natsV_app, List.length_append]
    exact hown
  · have h3 := h.b.ge hg2
    exact (hg.block g (by omega) (fun e => h.ne g e.symm hg2)).trans (Below.heap_alloc w ob g h3.2)
  · have h3 := h.b.ge h2
    rcases hloc with h4 | h4
    · exact h.ne g (h4 ▸ h1) h2
    · rw [h4] at h1
      simp only [Option.some.injEq] at h1
      omega
theorem TwoN.below {w wr w1 : World} {B : Nat} {u v : Value} {lu lv : List Nat} {ob : Obj} (h : TwoN wr B u lu v lv) (hb : Below B w wr) (hB : B ≤ wr.heap.size) (hg : (wr.alloc ob).grownBy w1 u.ownBlock) : Below B w w1 :=
  (hb.alloc hB ob).grown hg (by simp; omega) (fun k hk => (h.a.ge hk).1)
theorem TwoN.start (w : World) : TwoN ((w.alloc (.cells #[] 3)).alloc (.cells #[] 3)) w.heap.size (.slice (some ⟨w.heap.size, 0, none⟩) 0 0) [] (.slice (some ⟨w.heap.size + 1, 0, none⟩) 0 0) [] := by
  refine ⟨World.ownsRow.alloc (World.ownsRow_lit w #[] 0 (Nat.le_refl _) (Nat.zero_le _) rfl) _, ?_, fun g h1 h2 => ?_⟩
  · have h := World.ownsRow_lit (base := w.heap.size) (w.alloc (.cells #[] 3)) #[] 0 (e := 3) (size := 1) (by simp) (Nat.zero_le _) rfl
    unfold OwnN
    simpa [natsV] using h
  · simp only [Value.ownBlock, Option.some.injEq] at h1 h2
    omega
/-- a table: the block, what it holds -/
def TabN (w : World) (B : Nat) (v : Value) (n : Nat) (f : Nat → Nat) : Prop := ∃ g c, v = .slice (some ⟨g, 0, none⟩) n c ∧ B ≤ g ∧ g < w.heap.size ∧ ∀ i, i < n → w.cell? ⟨g, i, none⟩ = some (.int .i64 (f i : Int))
theorem OwnN.tab {w : World} {B n : Nat} {v : Value} {f : Nat → Nat} (h : OwnN w B v ((List.range n).map f)) (hn : 0 < n) : TabN w B v n f := by
  obtain ⟨a, c, hv, hs⟩ := h.shape
  have hl : ((List.range n).map f).length = n := by simp
  obtain ⟨g, rfl, h1, h2, h3⟩ := hs (by omega)
  rw [hl] at hv
  refine ⟨g, c, hv, h1, h2, fun i hi => ?_⟩
  rw [h3 i (by omega)]
  simp
theorem TabN.keep {w w' : World} {B n : Nat} {v : Value} {f : Nat → Nat} (h : TabN w B v n f) (hk : ∀ k, B ≤ k → k < w.heap.size → w'.heap[k]? = w.heap[k]?) (hsz : w.heap.size ≤ w'.heap.size) : TabN w' B v n f := by
  obtain ⟨g, c, hv, h1, h2, h3⟩ := h
  exact ⟨g, c, hv, h1, by omega, fun i hi => (World.cell?_of_block (a := ⟨g, i, none⟩) (hk g h1 h2)).trans (h3 i hi)⟩
theorem TabN.base {w : World} {B B' n : Nat} {v : Value} {f : Nat → Nat} (h : TabN w B v n f) (hB : B' ≤ B) : TabN w B' v n f := by
  obtain ⟨g, c, hv, h1, h2, h3⟩ := h
  exact ⟨g, c, hv, by omega, h2, h3⟩
theorem range_next (f : Nat → Nat) (n : Nat) : (List.range (n + 1)).map f = (List.range n).map f ++ [f n] := by rw [List.range_succ, List.map_append]; rfl
theorem range_len (f : Nat → Nat) (n : Nat) : ((List.range n).map f).length = n := by simp
theorem results_tmp4 {fn : Func} {t u v x : Tmp} (h : fn.results = #[.tmp t, .tmp u, .tmp v, .tmp x]) (tmps : Array Value) (P : Program) (w : World) :
    (results fn tmps).run P w = .ok (.tuple #[tmps.getD t undef, tmps.getD u undef, tmps.getD v undef, tmps.getD x undef]) w := by
  simp [results, h]
/-- what the document's Lengths answers -/
def LensX (B : Nat) (e : Ending) (w' : World) : Prop := ∃ u1 u2 u3 u4, e = .returned (.tuple #[u1, u2, u3, u4]) ∧ TabN w' B u1 29 (fun i => (lenOf (257 + i)).1) ∧ TabN w' B u2 29 (fun i => (lenOf (257 + i)).2) ∧ TabN w' B u3 30 (fun i => (distOf i).1) ∧ TabN w' B u4 30 (fun i => (distOf i).2)
theorem lens_fin {w w2 wr : World} {u1 u2 u v : Value} {f3 f4 : Nat → Nat} (h1 : TabN w2 w.heap.size u1 29 (fun i => (lenOf (257 + i)).1)) (h2 : TabN w2 w.heap.size u2 29 (fun i => (lenOf (257 + i)).2)) (hT : TwoN wr w2.heap.size u ((List.range 30).map f3) v ((List.range 30).map f4)) (hB2 : Below w.heap.size w w2) (hB : Below w2.heap.size w2 wr)
    (hf3 : (fun i => (distOf i).1) = f3) (hf4 : (fun i => (distOf i).2) = f4) : LensX w.heap.size (.returned (.tuple #[u1, u2, u, v])) wr ∧ Below w.heap.size w wr := by
  refine ⟨⟨u1, u2, u, v, rfl, h1.keep (fun k _ h2 => hB.block k h2) hB.size, h2.keep (fun k _ h2 => hB.block k h2) hB.size, ?_, ?_⟩, hB2.trans (hB.mono hB2.size)⟩
  · rw [hf3]; exact (hT.a.tab (by decide)).base hB2.size
  · rw [hf4]; exact (hT.b.tab (by decide)).base hB2.size
set_option maxHeartbeats 4000000 in
set_option maxRecDepth 100000 in
theorem rlens_any (w : World) : Calls Tryz.prog 152 #[] w fun e w' => LensX w.heap.size e w' ∧ Below w.heap.size w w' := by
  obtain ⟨i0, hi, hz0, hz1, hz2⟩ := info3_parts
  have HT0 := hidM (TwoN.start w)
  have HB0 : Hid (Below w.heap.size w ((w.alloc (.cells #[] 3)).alloc (.cells #[] 3))) := ((Below.refl _ w).alloc (Nat.le_refl _) _).alloc (by simp) _
  generalize hf1 : (fun i => (lenOf (257 + i)).1) = f1 at *
  generalize hf2 : (fun i => (lenOf (257 + i)).2) = f2 at *
  have HF1 := hidM hf1
  have HF2 := hidM hf2
  clear hf1 hf2
  go_enter Tryz.func152, Tryz.ntmps152
  go_wp2
  generalize (w.alloc (.cells #[] 3)).alloc (.cells #[] 3) = w0 at *
  go_loopw [4, 5, 6, 7, 8] (fun u v n i _ wr => ∃ j : Nat, j ≤ 28 ∧ i = .int .i64 j ∧ n = .int .i64 (lenN j : Int) ∧ TwoN wr w.heap.size u ((List.range j).map f1) v ((List.range j).map f2) ∧ Below w.heap.size w wr) (fun _ _ _ i _ _ => 28 - (intOf i).toNat)
  case atStart => exact ⟨0, by decide, rfl, rfl, HT0.out, HB0.out⟩
  case round =>
    obtain ⟨j, hj, rfl, rfl, hT, hB⟩ := hrel
    have HT := hidM hT
    have HB := hidM hB
    have hBs := hB.size
    clear hT hB HT0 HB0
    by_cases hlt : j < 28
    · obtain ⟨k, hk⟩ : ∃ k, k = f2 j := ⟨_, rfl⟩
      obtain ⟨n, hn⟩ : ∃ n, n = lenN j := ⟨_, rfl⟩
      obtain ⟨n', hn'⟩ : ∃ n', n' = lenN (j + 1) := ⟨_, rfl⟩
      obtain ⟨p, hp⟩ : ∃ p, p = 2 ^ k := ⟨_, rfl⟩
      have h3 := lenN_eq ⟨j, hlt⟩
      simp only at h3
      have hk2 : k = (if j < 8 then 0 else j / 4 - 1) := by rw [hk, ← HF2.out]; exact h3.2.1
      have hk5 : k ≤ 5 := by rw [hk2]; split <;> omega
      have hp9 : p ≤ 32 := by rw [hp]; have : 2 ^ k ≤ 2 ^ 5 := Nat.pow_le_pow_right (by decide) hk5; omega
      have hn9 : n ≤ 258 := by rw [hn]; exact h3.2.2
      have en : (n : Int) + (p : Int) = (n' : Int) := by
        rw [hn', hp, hn, hk, ← HF2.out]
        show _ = ((lenN j + 2 ^ (lenOf (257 + j)).2 : Nat) : Int)
        simp
      have wp : ((2 : Int) ^ k) = (p : Int) := by rw [hp]; simp
      have HN1 : Hid ((List.range (j + 1)).map f1 = (List.range j).map f1 ++ [n]) := by
        unfold Hid; rw [range_next, hn, h3.1, ← HF1.out]
      have HN2 : Hid ((List.range (j + 1)).map f2 = (List.range j).map f2 ++ [k]) := by
        unfold Hid; rw [range_next, hk]
      have HL1 := hidM (range_len f1 j)
      have HL2 := hidM (range_len f2 j)
      have HNN := hidM hn'
      have hn'9 : n' ≤ 290 := by omega
      rw [← hn]
      generalize (List.range j).map f1 = l1 at *
      generalize (List.range j).map f2 = l2 at *
      clear hk hn hn' hp h3
      by_cases h8 : j < 8
      · have hk0 : k = 0 := by rw [hk2, if_pos h8]
        subst hk0
        have hp1 : p = 1 := by have := wp; simp at this; omega
        subst hp1
        clear hk2
        go_wp2_with (first
          | (at_builtin; go_loud (refine wpList_append_own_at _ rfl _ _ 121 rfl w.heap.size 3 i0 (.int .i64 0) 1 8 Tryz.underlying121 hi hz0 hz1 hz2 rfl (by decide) _ _ (natsV l1) rfl (World.ownsRow.alloc HT.out.a _) ⟨wr.heap.size, 0, none⟩ 1 1 [.int .i64 (n : Int)] ?f0 rfl ?f1 ?f2 ?f3 ?f4 ?f5 ?_)))
        try (case f0 => rfl)
        case f1 => exact World.news_of_block (heap_alloc_new _ _)
        case f2 => first | rfl | (intro u hu; simp at hu; subst hu; rfl)
        case f3 => first | (unfold maxLen; have := HL1.out; omega) | (simp [maxLen]; omega)
        case f4 => first | (have := HL1.out; omega) | (simp; omega)
        case f5 => first | omega | (simp; omega)
        intro u1 w1 hown hgrow _ hloc
        have HT1 := hidM (HT.out.push hgrow hown (by simpa using hloc))
        have HB1 := hidM (HT.out.below HB.out hBs hgrow)
        have hBs1 := HB1.out.size
        clear hown hgrow hloc HT HB hBs
        have HTS := hidM HT1.out.swap
        clear HT1
        go_wp2_with (first
          | (at_builtin; go_loud (refine wpList_append_own_at _ rfl _ _ 121 rfl w.heap.size 3 i0 (.int .i64 0) 1 8 Tryz.underlying121 hi hz0 hz1 hz2 rfl (by decide) _ _ (natsV l2) rfl (World.ownsRow.alloc HTS.out.a _) ⟨w1.heap.size, 0, none⟩ 1 1 [.int .i64 ((0 : Nat) : Int)] ?f0 rfl ?f1 ?f2 ?f3 ?f4 ?f5 ?_)))
        try (case f0 => rfl)
        case f1 => exact World.news_of_block (heap_alloc_new _ _)
        case f2 => first | rfl | (intro u hu; simp at hu; subst hu; rfl)
        case f3 => first | (unfold maxLen; have := HL2.out; omega) | (simp [maxLen]; omega)
        case f4 => first | (have := HL2.out; omega) | (simp; omega)
        case f5 => first | omega | (simp; omega)
        intro u2 w2 hown hgrow _ hloc
        have HT2 := hidM (HTS.out.push hgrow hown (by simpa using hloc)).swap
        have HB2 := hidM (HTS.out.below HB1.out hBs1 hgrow)
        clear hown hgrow hloc HTS HB1 hBs1
        go_wp2
        go_roundw
        case rel => exact ⟨j + 1, by omega, by go_num, by rw [← HNN.out] <;> exact congrArg _ (by omega), by rw [HN1.out, HN2.out]; exact HT2.out, HB2.out⟩
        case measure => simp [intOf]; omega
      · have hk4 : (j : Int) / 4 - 1 = (k : Int) := by rw [hk2, if_neg h8]; omega
        have hj4 : (j : Int) / 4 ≤ 28 := by omega
        clear hk2
        go_wp2_with (first
          | (at_builtin; go_loud (refine wpList_append_own_at _ rfl _ _ 121 rfl w.heap.size 3 i0 (.int .i64 0) 1 8 Tryz.underlying121 hi hz0 hz1 hz2 rfl (by decide) _ _ (natsV l1) rfl (World.ownsRow.alloc HT.out.a _) ⟨wr.heap.size, 0, none⟩ 1 1 [.int .i64 (n : Int)] ?f0 rfl ?f1 ?f2 ?f3 ?f4 ?f5 ?_)))
        try (case f0 => rfl)
        case f1 => exact World.news_of_block (heap_alloc_new _ _)
        case f2 => first | rfl | (intro u hu; simp at hu; subst hu; rfl)
        case f3 => first | (unfold maxLen; have := HL1.out; omega) | (simp [maxLen]; omega)
        case f4 => first | (have := HL1.out; omega) | (simp; omega)
        case f5 => first | omega | (simp; omega)
        intro u1 w1 hown hgrow _ hloc
        have HT1 := hidM (HT.out.push hgrow hown (by simpa using hloc))
        have HB1 := hidM (HT.out.below HB.out hBs hgrow)
        have hBs1 := HB1.out.size
        clear hown hgrow hloc HT HB hBs
        have HTS := hidM HT1.out.swap
        clear HT1
        go_wp2_with (first
          | (at_builtin; go_loud (refine wpList_append_own_at _ rfl _ _ 121 rfl w.heap.size 3 i0 (.int .i64 0) 1 8 Tryz.underlying121 hi hz0 hz1 hz2 rfl (by decide) _ _ (natsV l2) rfl (World.ownsRow.alloc HTS.out.a _) ⟨w1.heap.size, 0, none⟩ 1 1 [.int .i64 (k : Int)] ?f0 rfl ?f1 ?f2 ?f3 ?f4 ?f5 ?_)))
        try (case f0 => rfl)
        case f1 => exact World.news_of_block (heap_alloc_new _ _)
        case f2 => first | rfl | (intro u hu; simp at hu; subst hu; rfl)
        case f3 => first | (unfold maxLen; have := HL2.out; omega) | (simp [maxLen]; omega)
        case f4 => first | (have := HL2.out; omega) | (simp; omega)
        case f5 => first | omega | (simp; omega)
        intro u2 w2 hown hgrow _ hloc
        have HT2 := hidM (HTS.out.push hgrow hown (by simpa using hloc)).swap
        have HB2 := hidM (HTS.out.below HB1.out hBs1 hgrow)
        clear hown hgrow hloc HTS HB1 hBs1
        go_wp2
        go_roundw
        case rel => exact ⟨j + 1, by omega, by go_num, by rw [← HNN.out] <;> exact congrArg _ (by omega), by rw [HN1.out, HN2.out]; exact HT2.out, HB2.out⟩
        case measure => simp [intOf]; omega
    · obtain rfl : j = 28 := by omega
      have HN1 : Hid ((List.range 29).map (fun i => (lenOf (257 + i)).1) = (List.range 28).map f1 ++ [258]) := by unfold Hid; rw [range_next, ← HF1.out]; rfl
      have HN2 : Hid ((List.range 29).map (fun i => (lenOf (257 + i)).2) = (List.range 28).map f2 ++ [0]) := by unfold Hid; rw [range_next, ← HF2.out]; rfl
      have HL1 := hidM (range_len f1 28)
      have HL2 := hidM (range_len f2 28)
      generalize (List.range 28).map f1 = l1 at *
      generalize (List.range 28).map f2 = l2 at *
      generalize lenN 28 = n28 at *
      clear HF1 HF2
      go_wp2_with (first
        | (at_builtin; go_loud (refine wpList_append_own_at _ rfl _ _ 121 rfl w.heap.size 3 i0 (.int .i64 0) 1 8 Tryz.underlying121 hi hz0 hz1 hz2 rfl (by decide) _ _ (natsV l1) rfl (World.ownsRow.alloc HT.out.a _) ⟨wr.heap.size, 0, none⟩ 1 1 [.int .i64 ((258 : Nat) : Int)] ?f0 rfl ?f1 ?f2 ?f3 ?f4 ?f5 ?_)))
      try (case f0 => rfl)
      case f1 => exact World.news_of_block (heap_alloc_new _ _)
      case f2 => first | rfl | (intro u hu; simp at hu; subst hu; rfl)
      case f3 => first | (unfold maxLen; have := HL1.out; omega) | (simp [maxLen]; omega)
      case f4 => first | (have := HL1.out; omega) | (simp; omega)
      case f5 => first | omega | (simp; omega)
      intro u1 w1 hown hgrow _ hloc
      have HT1 := hidM (HT.out.push (x := 258) hgrow hown (by simpa using hloc)).swap
      have HB1 := hidM (HT.out.below HB.out hBs hgrow)
      have hBs1 := HB1.out.size
      clear hown hgrow hloc HT HB hBs
      go_wp2_with (first
        | (at_builtin; go_loud (refine wpList_append_own_at _ rfl _ _ 121 rfl w.heap.size 3 i0 (.int .i64 0) 1 8 Tryz.underlying121 hi hz0 hz1 hz2 rfl (by decide) _ _ (natsV l2) rfl (World.ownsRow.alloc HT1.out.a _) ⟨w1.heap.size, 0, none⟩ 1 1 [.int .i64 ((0 : Nat) : Int)] ?f0 rfl ?f1 ?f2 ?f3 ?f4 ?f5 ?_)))
      try (case f0 => rfl)
      case f1 => exact World.news_of_block (heap_alloc_new _ _)
      case f2 => first | rfl | (intro u hu; simp at hu; subst hu; rfl)
      case f3 => first | (unfold maxLen; have := HL2.out; omega) | (simp [maxLen]; omega)
      case f4 => first | (have := HL2.out; omega) | (simp; omega)
      case f5 => first | omega | (simp; omega)
      intro u2 w2 hown hgrow _ hloc
      have HT2 := hidM (HT1.out.push (x := 0) hgrow hown (by simpa using hloc)).swap
      have HB2 := hidM (HT1.out.below HB1.out hBs1 hgrow)
      have hBs2 := HB2.out.size
      clear hown hgrow hloc HT1 HB1 hBs1
      have HU1 : Hid (TabN w2 w.heap.size u1 29 (fun i => (lenOf (257 + i)).1)) := (HN1.out ▸ HT2.out.a : OwnN w2 w.heap.size u1 ((List.range 29).map _)).tab (by decide)
      have HU2 : Hid (TabN w2 w.heap.size u2 29 (fun i => (lenOf (257 + i)).2)) := (HN2.out ▸ HT2.out.b : OwnN w2 w.heap.size u2 ((List.range 29).map _)).tab (by decide)
      clear HT2 HN1 HN2 HL1 HL2
      have HV0 := hidM (TwoN.start w2)
      have HC0 : Hid (Below w2.heap.size w2 ((w2.alloc (.cells #[] 3)).alloc (.cells #[] 3))) := ((Below.refl _ w2).alloc (Nat.le_refl _) _).alloc (by simp) _
      generalize hf3 : (fun i => (distOf i).1) = f3 at *
      generalize hf4 : (fun i => (distOf i).2) = f4 at *
      have HF3 := hidM hf3
      have HF4 := hidM hf4
      clear hf3 hf4
      go_wp2
      generalize (w2.alloc (.cells #[] 3)).alloc (.cells #[] 3) = w3 at *
      go_loopw [6, 9, 10, 11, 12] (fun n u v i _ wr => ∃ j : Nat, j ≤ 30 ∧ i = .int .i64 j ∧ n = .int .i64 (distN j : Int) ∧ TwoN wr w2.heap.size u ((List.range j).map f3) v ((List.range j).map f4) ∧ Below w2.heap.size w2 wr) (fun _ _ _ i _ _ => 30 - (intOf i).toNat)
      case atStart => exact ⟨0, by decide, rfl, rfl, HV0.out, HC0.out⟩
      case round =>
        obtain ⟨j, hj, rfl, rfl, hT, hB⟩ := hrel
        have HT := hidM hT
        have HB := hidM hB
        have hBs := hB.size
        clear hT hB HV0 HC0 hlt
        by_cases hlt : j < 30
        · obtain ⟨k, hk⟩ : ∃ k, k = f4 j := ⟨_, rfl⟩
          obtain ⟨n, hn⟩ : ∃ n, n = distN j := ⟨_, rfl⟩
          obtain ⟨n', hn'⟩ : ∃ n', n' = distN (j + 1) := ⟨_, rfl⟩
          obtain ⟨p, hp⟩ : ∃ p, p = 2 ^ k := ⟨_, rfl⟩
          have h3 := distN_eq ⟨j, hlt⟩
          simp only at h3
          have hk2 : k = (if j < 4 then 0 else j / 2 - 1) := by rw [hk, ← HF4.out]; exact h3.2.1
          have hk5 : k ≤ 13 := by rw [hk2]; split <;> omega
          have hp9 : p ≤ 8192 := by rw [hp]; have : 2 ^ k ≤ 2 ^ 13 := Nat.pow_le_pow_right (by decide) hk5; omega
          have hn9 : n ≤ 32768 := by rw [hn]; exact h3.2.2
          have en : (n : Int) + (p : Int) = (n' : Int) := by
            rw [hn', hp, hn, hk, ← HF4.out]
            show _ = ((distN j + 2 ^ (distOf j).2 : Nat) : Int)
            simp
          have wp : ((2 : Int) ^ k) = (p : Int) := by rw [hp]; simp
          have HN1 : Hid ((List.range (j + 1)).map f3 = (List.range j).map f3 ++ [n]) := by
            unfold Hid; rw [range_next, hn, h3.1, ← HF3.out]
          have HN2 : Hid ((List.range (j + 1)).map f4 = (List.range j).map f4 ++ [k]) := by
            unfold Hid; rw [range_next, hk]
          have HL1 := hidM (range_len f3 j)
          have HL2 := hidM (range_len f4 j)
          have HNN := hidM hn'
          have hn'9 : n' ≤ 50000 := by omega
          rw [← hn]
          generalize (List.range j).map f3 = l1 at *
          generalize (List.range j).map f4 = l2 at *
          clear hk hn hn' hp h3 HF3 HF4
          by_cases h8 : j < 4
          · have hk0 : k = 0 := by rw [hk2, if_pos h8]
            subst hk0
            have hp1 : p = 1 := by have := wp; simp at this; omega
            subst hp1
            clear hk2
            go_wp2_with (first
              | (at_builtin; go_loud (refine wpList_append_own_at _ rfl _ _ 121 rfl w2.heap.size 3 i0 (.int .i64 0) 1 8 Tryz.underlying121 hi hz0 hz1 hz2 rfl (by decide) _ _ (natsV l1) rfl (World.ownsRow.alloc HT.out.a _) ⟨wr.heap.size, 0, none⟩ 1 1 [.int .i64 (n : Int)] ?f0 rfl ?f1 ?f2 ?f3 ?f4 ?f5 ?_)))
            try (case f0 => rfl)
            case f1 => exact World.news_of_block (heap_alloc_new _ _)
            case f2 => first | rfl | (intro u hu; simp at hu; subst hu; rfl)
            case f3 => first | (unfold maxLen; have := HL1.out; omega) | (simp [maxLen]; omega)
            case f4 => first | (have := HL1.out; omega) | (simp; omega)
            case f5 => first | omega | (simp; omega)
            intro u3 w4 hown hgrow _ hloc
            have HT1 := hidM (HT.out.push hgrow hown (by simpa using hloc)).swap
            have HB1 := hidM (HT.out.below HB.out hBs hgrow)
            have hBs1 := HB1.out.size
            clear hown hgrow hloc HT HB hBs
            go_wp2_with (first
              | (at_builtin; go_loud (refine wpList_append_own_at _ rfl _ _ 121 rfl w2.heap.size 3 i0 (.int .i64 0) 1 8 Tryz.underlying121 hi hz0 hz1 hz2 rfl (by decide) _ _ (natsV l2) rfl (World.ownsRow.alloc HT1.out.a _) ⟨w4.heap.size, 0, none⟩ 1 1 [.int .i64 ((0 : Nat) : Int)] ?f0 rfl ?f1 ?f2 ?f3 ?f4 ?f5 ?_)))
            try (case f0 => rfl)
            case f1 => exact World.news_of_block (heap_alloc_new _ _)
            case f2 => first | rfl | (intro u hu; simp at hu; subst hu; rfl)
            case f3 => first | (unfold maxLen; have := HL2.out; omega) | (simp [maxLen]; omega)
            case f4 => first | (have := HL2.out; omega) | (simp; omega)
            case f5 => first | omega | (simp; omega)
            intro u4 w5 hown hgrow _ hloc
            have HT2 := hidM (HT1.out.push hgrow hown (by simpa using hloc)).swap
            have HB3 := hidM (HT1.out.below HB1.out hBs1 hgrow)
            clear hown hgrow hloc HT1 HB1 hBs1
            go_wp2
            go_roundw
            case rel => exact ⟨j + 1, by omega, by go_num, by rw [← HNN.out] <;> exact congrArg _ (by omega), by rw [HN1.out, HN2.out]; exact HT2.out, HB3.out⟩
            case measure => simp [intOf]; omega
          · have hk4 : (j : Int) / 2 - 1 = (k : Int) := by rw [hk2, if_neg h8]; omega
            have hj4 : (j : Int) / 2 ≤ 28 := by omega
            clear hk2
            go_wp2_with (first
              | (at_builtin; go_loud (refine wpList_append_own_at _ rfl _ _ 121 rfl w2.heap.size 3 i0 (.int .i64 0) 1 8 Tryz.underlying121 hi hz0 hz1 hz2 rfl (by decide) _ _ (natsV l1) rfl (World.ownsRow.alloc HT.out.a _) ⟨wr.heap.size, 0, none⟩ 1 1 [.int .i64 (n : Int)] ?f0 rfl ?f1 ?f2 ?f3 ?f4 ?f5 ?_)))
            try (case f0 => rfl)
            case f1 => exact World.news_of_block (heap_alloc_new _ _)
            case f2 => first | rfl | (intro u hu; simp at hu; subst hu; rfl)
            case f3 => first | (unfold maxLen; have := HL1.out; omega) | (simp [maxLen]; omega)
            case f4 => first | (have := HL1.out; omega) | (simp; omega)
            case f5 => first | omega | (simp; omega)
            intro u3 w4 hown hgrow _ hloc
            have HT1 := hidM (HT.out.push hgrow hown (by simpa using hloc)).swap
            have HB1 := hidM (HT.out.below HB.out hBs hgrow)
            have hBs1 := HB1.out.size
            clear hown hgrow hloc HT HB hBs
            go_wp2_with (first
              | (at_builtin; go_loud (refine wpList_append_own_at _ rfl _ _ 121 rfl w2.heap.size 3 i0 (.int .i64 0) 1 8 Tryz.underlying121 hi hz0 hz1 hz2 rfl (by decide) _ _ (natsV l2) rfl (World.ownsRow.alloc HT1.out.a _) ⟨w4.heap.size, 0, none⟩ 1 1 [.int .i64 (k : Int)] ?f0 rfl ?f1 ?f2 ?f3 ?f4 ?f5 ?_)))
            try (case f0 => rfl)
            case f1 => exact World.news_of_block (heap_alloc_new _ _)
            case f2 => first | rfl | (intro u hu; simp at hu; subst hu; rfl)
            case f3 => first | (unfold maxLen; have := HL2.out; omega) | (simp [maxLen]; omega)
            case f4 => first | (have := HL2.out; omega) | (simp; omega)
            case f5 => first | omega | (simp; omega)
            intro u4 w5 hown hgrow _ hloc
            have HT2 := hidM (HT1.out.push hgrow hown (by simpa using hloc)).swap
            have HB3 := hidM (HT1.out.below HB1.out hBs1 hgrow)
            clear hown hgrow hloc HT1 HB1 hBs1
            go_wp2
            go_roundw
            case rel => exact ⟨j + 1, by omega, by go_num, by rw [← HNN.out] <;> exact congrArg _ (by omega), by rw [HN1.out, HN2.out]; exact HT2.out, HB3.out⟩
            case measure => simp [intOf]; omega
        · obtain rfl : j = 30 := by omega
          have HEND := hidM (lens_fin HU1.out HU2.out HT.out HB2.out HB.out HF3.out HF4.out)
          generalize distN 30 = n30 at *
          go_wp2
          refine bodyPost_ret (results_tmp4 rfl _ _ _) rfl ?_
          exact HEND.out
end Go.Proofs.YtddoemeellbhaaaGreatDoor
namespace Go.Proofs.YtddoemeellbhaaaGreatDoor
open Go.RowKit
/-- what the document's Fixed answers -/
def FixX (B : Nat) (e : Ending) (w' : World) : Prop := ∃ u v, e = .returned (.tuple #[u, v]) ∧ TabN w' B u 288 fixLit.ln ∧ TabN w' B v 32 fixDist.ln
theorem fix_fin {w wr : World} {u v : Value} (hT : TwoN wr w.heap.size v ((List.range 32).map fixDist.ln) u ((List.range 288).map fixLit.ln)) (hB : Below w.heap.size w wr) : FixX w.heap.size (.returned (.tuple #[u, v])) wr ∧ Below w.heap.size w wr :=
  ⟨⟨u, v, rfl, hT.b.tab (by decide), hT.a.tab (by decide)⟩, hB⟩
set_option maxHeartbeats 4000000 in
set_option maxRecDepth 100000 in
theorem rfixed_any (w : World) : Calls Tryz.prog 105 #[] w fun e w' => FixX w.heap.size e w' ∧ Below w.heap.size w w' := by
  obtain ⟨i0, hi, hz0, hz1, hz2⟩ := info3_parts
  have HT0 := hidM (TwoN.start w)
  have HB0 : Hid (Below w.heap.size w ((w.alloc (.cells #[] 3)).alloc (.cells #[] 3))) := ((Below.refl _ w).alloc (Nat.le_refl _) _).alloc (by simp) _
  go_enter Tryz.func105, Tryz.ntmps105
  go_wp2
  generalize (w.alloc (.cells #[] 3)).alloc (.cells #[] 3) = w0 at *
  go_loopw [2, 4, 5] (fun u i _ wr => ∃ j : Nat, j ≤ 288 ∧ i = .int .i64 j ∧ TwoN wr w.heap.size u ((List.range j).map fixLit.ln) (.slice (some ⟨w.heap.size + 1, 0, none⟩) 0 0) [] ∧ Below w.heap.size w wr) (fun _ i _ _ => 288 - (intOf i).toNat)
  case atStart => exact ⟨0, by decide, rfl, HT0.out, HB0.out⟩
  case round =>
    obtain ⟨j, hj, rfl, hT, hB⟩ := hrel
    have HT := hidM hT
    have HB := hidM hB
    have hBs := hB.size
    clear hT hB HT0 HB0
    by_cases hlt : j < 288
    · by_cases h1 : j < 144
      · have g1 : ¬ (144 : Int) ≤ (j : Int) := by omega
        have n1 : ¬ 144 ≤ j := by omega
        have m1 : decide (144 ≤ j) = false := by simp; omega
        have b1 : decide ((144 : Int) ≤ (j : Int)) = false := by simp; omega
        have g2 : ¬ (256 : Int) ≤ (j : Int) := by omega
        have n2 : ¬ 256 ≤ j := by omega
        have m2 : decide (256 ≤ j) = false := by simp; omega
        have b2 : decide ((256 : Int) ≤ (j : Int)) = false := by simp; omega
        have HN : Hid ((List.range (j + 1)).map fixLit.ln = (List.range j).map fixLit.ln ++ [8]) := by
          have : fixLit.ln j = 8 := by
            unfold fixLit
            simp only
            repeat' split
            all_goals omega
          unfold Hid
          rw [range_next, this]
        have HL := hidM (range_len fixLit.ln j)
        generalize (List.range j).map fixLit.ln = l1 at *
        go_wp2_with (first
          | (at_builtin; go_loud (refine wpList_append_own_at _ rfl _ _ 121 rfl w.heap.size 3 i0 (.int .i64 0) 1 8 Tryz.underlying121 hi hz0 hz1 hz2 rfl (by decide) _ _ (natsV l1) rfl (World.ownsRow.alloc HT.out.a _) ⟨wr.heap.size, 0, none⟩ 1 1 [.int .i64 ((8 : Nat) : Int)] ?qa0 rfl ?qa1 ?qa2 ?qa3 ?qa4 ?qa5 ?_)))
        try (case qa0 => rfl)
        try (case qa1 => exact World.news_of_block (heap_alloc_new _ _))
        case qa2 => first | rfl | (intro u hu; simp at hu; subst hu; rfl)
        case qa3 => first | (unfold maxLen; have := HL.out; omega) | (simp [maxLen]; omega)
        case qa4 => first | (have := HL.out; omega) | (simp; omega)
        case qa5 => first | omega | (simp; omega)
        intro u1 w1 hown hgrow _ hloc
        have HT1 := hidM (HT.out.push (x := 8) hgrow hown (by simpa using hloc))
        have HB1 := hidM (HT.out.below HB.out hBs hgrow)
        clear hown hgrow hloc HT HB hBs
        go_wp2
        go_roundw
        case rel => exact ⟨j + 1, by omega, by go_num, by rw [HN.out]; exact HT1.out, HB1.out⟩
        case measure => simp [intOf]; omega
      · by_cases h2 : j < 256
        · have g1 : (144 : Int) ≤ (j : Int) := by omega
          have n1 : 144 ≤ j := by omega
          have m1 : decide (144 ≤ j) = true := by simp; omega
          have b1 : decide ((144 : Int) ≤ (j : Int)) = true := by simp; omega
          have g2 : ¬ (256 : Int) ≤ (j : Int) := by omega
          have n2 : ¬ 256 ≤ j := by omega
          have m2 : decide (256 ≤ j) = false := by simp; omega
          have b2 : decide ((256 : Int) ≤ (j : Int)) = false := by simp; omega
          have g3 : (j : Int) < 256 := by omega
          have n3 : j < 256 := by omega
          have m3 : decide (j < 256) = true := by simp; omega
          have HN : Hid ((List.range (j + 1)).map fixLit.ln = (List.range j).map fixLit.ln ++ [9]) := by
            have : fixLit.ln j = 9 := by
              unfold fixLit
              simp only
              repeat' split
              all_goals omega
            unfold Hid
            rw [range_next, this]
          have HL := hidM (range_len fixLit.ln j)
          generalize (List.range j).map fixLit.ln = l1 at *
          go_wp2_with (first
            | (at_builtin; go_loud (refine wpList_append_own_at _ rfl _ _ 121 rfl w.heap.size 3 i0 (.int .i64 0) 1 8 Tryz.underlying121 hi hz0 hz1 hz2 rfl (by decide) _ _ (natsV l1) rfl (World.ownsRow.alloc HT.out.a _) ⟨wr.heap.size, 0, none⟩ 1 1 [.int .i64 ((9 : Nat) : Int)] ?qb0 rfl ?qb1 ?qb2 ?qb3 ?qb4 ?qb5 ?_)))
          try (case qb0 => rfl)
          try (case qb1 => exact World.news_of_block (heap_alloc_new _ _))
          case qb2 => first | rfl | (intro u hu; simp at hu; subst hu; rfl)
          case qb3 => first | (unfold maxLen; have := HL.out; omega) | (simp [maxLen]; omega)
          case qb4 => first | (have := HL.out; omega) | (simp; omega)
          case qb5 => first | omega | (simp; omega)
          intro u1 w1 hown hgrow _ hloc
          have HT1 := hidM (HT.out.push (x := 9) hgrow hown (by simpa using hloc))
          have HB1 := hidM (HT.out.below HB.out hBs hgrow)
          clear hown hgrow hloc HT HB hBs
          go_wp2
          go_roundw
          case rel => exact ⟨j + 1, by omega, by go_num, by rw [HN.out]; exact HT1.out, HB1.out⟩
          case measure => simp [intOf]; omega
        · by_cases h3 : j < 280
          · have g1 : (144 : Int) ≤ (j : Int) := by omega
            have n1 : 144 ≤ j := by omega
            have m1 : decide (144 ≤ j) = true := by simp; omega
            have b1 : decide ((144 : Int) ≤ (j : Int)) = true := by simp; omega
            have g2 : (256 : Int) ≤ (j : Int) := by omega
            have n2 : 256 ≤ j := by omega
            have m2 : decide (256 ≤ j) = true := by simp; omega
            have b2 : decide ((256 : Int) ≤ (j : Int)) = true := by simp; omega
            have g3 : ¬ (j : Int) < 256 := by omega
            have n3 : ¬ j < 256 := by omega
            have m3 : decide (j < 256) = false := by simp; omega
            have g4 : (j : Int) < 280 := by omega
            have n4 : j < 280 := by omega
            have m4 : decide (j < 280) = true := by simp; omega
            have HN : Hid ((List.range (j + 1)).map fixLit.ln = (List.range j).map fixLit.ln ++ [7]) := by
              have : fixLit.ln j = 7 := by
                unfold fixLit
                simp only
                repeat' split
                all_goals omega
              unfold Hid
              rw [range_next, this]
            have HL := hidM (range_len fixLit.ln j)
            generalize (List.range j).map fixLit.ln = l1 at *
            go_wp2_with (first
              | (at_builtin; go_loud (refine wpList_append_own_at _ rfl _ _ 121 rfl w.heap.size 3 i0 (.int .i64 0) 1 8 Tryz.underlying121 hi hz0 hz1 hz2 rfl (by decide) _ _ (natsV l1) rfl (World.ownsRow.alloc HT.out.a _) ⟨wr.heap.size, 0, none⟩ 1 1 [.int .i64 ((7 : Nat) : Int)] ?qc0 rfl ?qc1 ?qc2 ?qc3 ?qc4 ?qc5 ?_)))
            try (case qc0 => rfl)
            try (case qc1 => exact World.news_of_block (heap_alloc_new _ _))
            case qc2 => first | rfl | (intro u hu; simp at hu; subst hu; rfl)
            case qc3 => first | (unfold maxLen; have := HL.out; omega) | (simp [maxLen]; omega)
            case qc4 => first | (have := HL.out; omega) | (simp; omega)
            case qc5 => first | omega | (simp; omega)
            intro u1 w1 hown hgrow _ hloc
            have HT1 := hidM (HT.out.push (x := 7) hgrow hown (by simpa using hloc))
            have HB1 := hidM (HT.out.below HB.out hBs hgrow)
            clear hown hgrow hloc HT HB hBs
            go_wp2
            go_roundw
            case rel => exact ⟨j + 1, by omega, by go_num, by rw [HN.out]; exact HT1.out, HB1.out⟩
            case measure => simp [intOf]; omega
          · have g1 : (144 : Int) ≤ (j : Int) := by omega
            have n1 : 144 ≤ j := by omega
            have m1 : decide (144 ≤ j) = true := by simp; omega
            have b1 : decide ((144 : Int) ≤ (j : Int)) = true := by simp; omega
            have g2 : (256 : Int) ≤ (j : Int) := by omega
            have n2 : 256 ≤ j := by omega
            have m2 : decide (256 ≤ j) = true := by simp; omega
            have b2 : decide ((256 : Int) ≤ (j : Int)) = true := by simp; omega
            have g3 : ¬ (j : Int) < 256 := by omega
            have n3 : ¬ j < 256 := by omega
            have m3 : decide (j < 256) = false := by simp; omega
            have g4 : ¬ (j : Int) < 280 := by omega
            have n4 : ¬ j < 280 := by omega
            have m4 : decide (j < 280) = false := by simp; omega
            have HN : Hid ((List.range (j + 1)).map fixLit.ln = (List.range j).map fixLit.ln ++ [8]) := by
              have : fixLit.ln j = 8 := by
                unfold fixLit
                simp only
                repeat' split
                all_goals omega
              unfold Hid
              rw [range_next, this]
            have HL := hidM (range_len fixLit.ln j)
            generalize (List.range j).map fixLit.ln = l1 at *
            go_wp2_with (first
              | (at_builtin; go_loud (refine wpList_append_own_at _ rfl _ _ 121 rfl w.heap.size 3 i0 (.int .i64 0) 1 8 Tryz.underlying121 hi hz0 hz1 hz2 rfl (by decide) _ _ (natsV l1) rfl (World.ownsRow.alloc HT.out.a _) ⟨wr.heap.size, 0, none⟩ 1 1 [.int .i64 ((8 : Nat) : Int)] ?qd0 rfl ?qd1 ?qd2 ?qd3 ?qd4 ?qd5 ?_)))
            try (case qd0 => rfl)
            try (case qd1 => exact World.news_of_block (heap_alloc_new _ _))
            case qd2 => first | rfl | (intro u hu; simp at hu; subst hu; rfl)
            case qd3 => first | (unfold maxLen; have := HL.out; omega) | (simp [maxLen]; omega)
            case qd4 => first | (have := HL.out; omega) | (simp; omega)
            case qd5 => first | omega | (simp; omega)
            intro u1 w1 hown hgrow _ hloc
            have HT1 := hidM (HT.out.push (x := 8) hgrow hown (by simpa using hloc))
            have HB1 := hidM (HT.out.below HB.out hBs hgrow)
            clear hown hgrow hloc HT HB hBs
            go_wp2
            go_roundw
            case rel => exact ⟨j + 1, by omega, by go_num, by rw [HN.out]; exact HT1.out, HB1.out⟩
            case measure => simp [intOf]; omega
    · have h288 : j = 288 := by omega
      have hl1 : (List.range j).map fixLit.ln = (List.range 288).map fixLit.ln := by rw [h288]
      generalize (List.range j).map fixLit.ln = l1 at *
      have HL1 := hidM hl1.symm
      clear hl1
      clear h288
      go_wp2
      go_loopw [3, 6] (fun v i wr => ∃ j : Nat, j ≤ 32 ∧ i = .int .i64 j ∧ TwoN wr w.heap.size v ((List.range j).map fixDist.ln) _ l1 ∧ Below w.heap.size w wr) (fun _ i _ => 32 - (intOf i).toNat)
      case atStart => exact ⟨0, by decide, rfl, HT.out.swap, HB.out⟩
      case round =>
        obtain ⟨j, hj2, rfl, hT, hB⟩ := hrel
        clear HT HB hBs
        have HT := hidM hT
        have HB := hidM hB
        have hBs := hB.size
        clear hT hB
        by_cases hlt2 : j < 32
        · have HN : Hid ((List.range (j + 1)).map fixDist.ln = (List.range j).map fixDist.ln ++ [5]) := by
            have : fixDist.ln j = 5 := by unfold fixDist; simp only; rw [if_pos hlt2]
            unfold Hid
            rw [range_next, this]
          have HL := hidM (range_len fixDist.ln j)
          generalize (List.range j).map fixDist.ln = l2 at *
          go_wp2_with (first
            | (at_builtin; go_loud (refine wpList_append_own_at _ rfl _ _ 121 rfl w.heap.size 3 i0 (.int .i64 0) 1 8 Tryz.underlying121 hi hz0 hz1 hz2 rfl (by decide) _ _ (natsV l2) rfl (World.ownsRow.alloc HT.out.a _) ⟨wr.heap.size, 0, none⟩ 1 1 [.int .i64 ((5 : Nat) : Int)] ?qe0 rfl ?qe1 ?qe2 ?qe3 ?qe4 ?qe5 ?_)))
          try (case qe0 => rfl)
          try (case qe1 => exact World.news_of_block (heap_alloc_new _ _))
          case qe2 => first | rfl | (intro u hu; simp at hu; subst hu; rfl)
          case qe3 => first | (unfold maxLen; have := HL.out; omega) | (simp [maxLen]; omega)
          case qe4 => first | (have := HL.out; omega) | (simp; omega)
          case qe5 => first | omega | (simp; omega)
          intro u1 w1 hown hgrow _ hloc
          have HT1 := hidM (HT.out.push (x := 5) hgrow hown (by simpa using hloc))
          have HB1 := hidM (HT.out.below HB.out hBs hgrow)
          clear hown hgrow hloc HT HB hBs
          go_wp2
          go_roundw
          case rel => exact ⟨j + 1, by omega, by go_num, by rw [HN.out]; exact HT1.out, HB1.out⟩
          case measure => simp [intOf]; omega
        · obtain rfl : j = 32 := by omega
          rw [← HL1.out] at HT
          have HEND := hidM (fix_fin HT.out HB.out)
          go_wp2
          go_ret2
          exact HEND.out
end Go.Proofs.YtddoemeellbhaaaGreatDoor
namespace Go.Proofs.YtddoemeellbhaaaGreatDoor
open Go.RowKit
set_option maxRecDepth 100000 in
theorem rsym_err (R g c T t most e : Nat) (X o : List UInt8) (v a : Value) (w : World) (hS : StX w R g c T X t most e v o) (he : e ≠ 0) :
    Calls Tryz.prog 153 #[.pointer (some ⟨R, 0, none⟩), a] w fun e w' => e = .returned (.int .i64 0) ∧ w' = w := by
  have c4 := hS.box.c4
  have e0 : ((e : Int) == 0) = false := by simp; omega
  clear hS
  go_enter Tryz.func153, Tryz.ntmps153
  go_wp2
  go_ret
  exact ⟨rfl, rfl⟩
/-- what the document's symbols of a block do -/
def PackX (cl cd : Cd) (R g c T : Nat) (X : List UInt8) (t most : Nat) (v : Value) (o : List UInt8) (w w' : World) : Prop :=
  (∃ e v' o' t', e ≠ 0 ∧ (∀ last, Run X most (.sym last cl cd) t o (.bad e)) ∧ StX w' R g c T X t' most e v' o' ∧ Stp R v v' w w') ∨
  (∃ t' v' o', (∀ last r, Run X most (.blk last) t' o' r → Run X most (.sym last cl cd) t o r) ∧ t < t' ∧ t' ≤ T ∧ o'.length ≤ most ∧ StX w' R g c T X t' most 0 v' o' ∧ Stp R v v' w w')
/-- blocks from B to E stand as they stood, and none is the row of what came out -/
def Frz (B E : Nat) (w3 : World) (v : Value) (wr : World) : Prop := E ≤ wr.heap.size ∧ ∀ k, B ≤ k → k < E → wr.heap[k]? = w3.heap[k]? ∧ some k ≠ v.ownBlock
theorem Frz.stp {B E R : Nat} {w3 wr w' : World} {v v' : Value} (h : Frz B E w3 v wr) (hs : Stp R v v' wr w') (hR : R < B) : Frz B E w3 v' w' :=
  ⟨Nat.le_trans h.1 hs.below.size, fun k h1 h2 => by
    obtain ⟨h3, h4⟩ := h.2 k h1 h2
    obtain ⟨h5, h6, _⟩ := hs.sep k (Nat.lt_of_lt_of_le h2 h.1) (by omega) h4
    exact ⟨h5.trans h3, h6⟩⟩
theorem Frz.codes {B : Nat} {w3 wr : World} {v : Value} {a : Option Addr} {cd : Cd} (h : Frz B w3.heap.size w3 v wr) (hC : CodR w3 B a cd) : CodR wr B a cd :=
  CodesAt.keep hC fun k h1 h2 => (h.2 k h1 h2).1
theorem Frz.cell {B g n i : Nat} {w3 wr : World} {v : Value} {f : Nat → Nat} (h : Frz B w3.heap.size w3 v wr) (h1 : B ≤ g) (h2 : g < w3.heap.size) (h3 : ∀ i, i < n → w3.cell? ⟨g, i, none⟩ = some (.int .i64 (f i : Int))) (hi : i < n) : wr.cell? ⟨g, i, none⟩ = some (.int .i64 (f i : Int)) :=
  (World.cell?_of_block (a := ⟨g, i, none⟩) (h.2 g h1 h2).1).trans (h3 i hi)
/-- a number's answer, named -/
def NumR (R g c T : Nat) (X : List UInt8) (t most n : Nat) (v : Value) (o : List UInt8) (x : Nat) (w' : World) : Prop :=
  x < 65536 ∧ ((num X t n = some x ∧ x < 2 ^ n ∧ t + n ≤ T ∧ StX w' R g c T X (t + n) most 0 v o) ∨ (x = 0 ∧ num X t n = none ∧ StX w' R g c T X t most 6 v o))
/-- two cells of tables, and nothing but the stream's box has turned -/
def TabS2 (w : World) (R g1 g2 j : Nat) (A K : Nat) (w' : World) : Prop := w'.cell? ⟨g1, j, none⟩ = some (.int .i64 (A : Int)) ∧ w'.cell? ⟨g2, j, none⟩ = some (.int .i64 (K : Int)) ∧ Hid (Only R w w')
theorem TabS2.of {w V : World} {R g1 g2 j A K : Nat} (h1 : w.cell? ⟨g1, j, none⟩ = some (.int .i64 (A : Int))) (h2 : w.cell? ⟨g2, j, none⟩ = some (.int .i64 (K : Int))) (h : Hid (DrewOf w V)) : TabS2 w R g1 g2 j A K V := by
  obtain ⟨n, rfl⟩ := h
  exact ⟨h1, h2, (Only.refl R w).drewN n⟩
theorem num_in (R g c T t most n : Nat) (X o : List UInt8) (v : Value) (w : World) (g1 g2 j A : Nat) (hS : StX w R g c T X t most 0 v o) (hT : T ≤ 1000000) (ht : t ≤ T) (hn : n ≤ 16) (h1 : w.cell? ⟨g1, j, none⟩ = some (.int .i64 (A : Int))) (h2 : w.cell? ⟨g2, j, none⟩ = some (.int .i64 (n : Int))) (n1 : g1 ≠ R) (n2 : g2 ≠ R) (V : World) (hV : Hid (DrewOf w V)) :
    Calls Tryz.prog 103 #[.pointer (some ⟨R, 0, none⟩), .int .i64 (n : Int)] V fun e w' => (∃ x : Nat, e = .returned (.int .i64 (x : Int)) ∧ Hid (NumR R g c T X t most n v o x w')) ∧ TabS2 w R g1 g2 j A n w' := by
  obtain ⟨m, rfl⟩ := hV
  refine (rnum_any R g c T t most n X o v (w.drewN m) (hS.drewN m) hT ht hn).mono ?_
  rintro e w' ⟨hp, ho⟩
  refine ⟨?_, (World.cell?_of_block (w := w.drewN m) (a := ⟨g1, j, none⟩) (ho.block g1 n1)).trans h1, (World.cell?_of_block (w := w.drewN m) (a := ⟨g2, j, none⟩) (ho.block g2 n2)).trans h2, ((Only.refl R w).drewN m).trans ho⟩
  rcases hp with ⟨x, h3, h4, h5, h6, h7⟩ | ⟨h3, h6, h7⟩
  · exact ⟨x, h6, Nat.lt_of_lt_of_le h4 (by have : 2 ^ n ≤ 2 ^ 16 := Nat.pow_le_pow_right (by decide) hn; omega), .inl ⟨h3, h4, h5, h7⟩⟩
  · exact ⟨0, h6, by decide, .inr ⟨rfl, h3, h7⟩⟩
/-- the bits that were taken, as the box tells them -/
def bitX (R : Nat) (w : World) : Nat := match w.cell? ⟨R, 1, none⟩ with
  | some (.int _ x) => x.toNat
  | _ => 0
theorem StX.bit {w : World} {R g c T t most e : Nat} {X o : List UInt8} {v : Value} (h : StX w R g c T X t most e v o) : bitX R w = t := by
  unfold bitX; rw [h.box.c1]; simp
/-- among a block's symbols -/
def PkI (cl cd : Cd) (R g c T : Nat) (X : List UInt8) (t most : Nat) (v : Value) (o : List UInt8) (w : World) (B : Nat) (w3 wr : World) : Prop :=
  (∃ t' v' o', (∀ last r, Run X most (.sym last cl cd) t' o' r → Run X most (.sym last cl cd) t o r) ∧ t ≤ t' ∧ t' ≤ T ∧ o'.length ≤ most ∧ StX wr R g c T X t' most 0 v' o' ∧ Stp R v v' w wr ∧ Frz B w3.heap.size w3 v' wr) ∨
  (∃ e v' o' t', e ≠ 0 ∧ (∀ last, Run X most (.sym last cl cd) t o (.bad e)) ∧ StX wr R g c T X t' most e v' o' ∧ Stp R v v' w wr)
/-- within a repeat -/
def RpI (R g c T : Nat) (X : List UInt8) (t2 most : Nat) (v' : Value) (o' : List UInt8) (d n : Nat) (wr : World) (j : Nat) (w' : World) : Prop :=
  (∃ v2, StX w' R g c T X t2 most 0 v2 (again o' d j) ∧ Stp R v' v2 wr w' ∧ o'.length + j ≤ most) ∨
  (most < o'.length + n ∧ ∃ v2 o2, StX w' R g c T X t2 most 2 v2 o2 ∧ Stp R v' v2 wr w')
theorem again_get (o : List UInt8) (d j : Nat) (hd : 0 < d) (hl : d ≤ o.length) : ∃ b, (again o d j)[(again o d j).length - d]? = some b ∧ again o d (j + 1) = again o d j ++ [b] := by
  have h1 := again_len o d j
  have h2 : (again o d j).length - d < (again o d j).length := by omega
  refine ⟨(again o d j)[(again o d j).length - d], List.getElem?_eq_getElem h2, ?_⟩
  rw [again, List.getElem?_eq_getElem h2]
  rfl
theorem OwnB.cellAt {w : World} {B : Nat} {v : Value} {l : List UInt8} (h : OwnB w B v l) {i : Nat} {b : UInt8} (hi : l[i]? = some b) : ∃ g c, v = .slice (some ⟨g, 0, none⟩) l.length c ∧ w.cell? ⟨g, i, none⟩ = some (.int .u8 (b.toNat : Int)) := by
  have hil : i < l.length := (List.getElem?_eq_some_iff.1 hi).1
  rcases h.2 with ⟨h0, h1⟩ | ⟨g, cap, cur, hv, hg, hc, hr⟩
  · omega
  · subst hv
    refine ⟨g, cap, rfl, ?_⟩
    have hb : l[i] = b := (List.getElem?_eq_some_iff.1 hi).2
    have := World.ownsRow.cells h (g := g) rfl i (.int .u8 (b.toNat : Int)) (by rw [← hb]; exact bytesV_at l i hil)
    rw [Addr.add_lit, Nat.zero_add] at this
    exact this
/-- put inside a drawn region -/
theorem put_in (R g c T t most : Nat) (X o : List UInt8) (x : UInt8) (v : Value) (w : World) (hS : StX w R g c T X t most 0 v o) (hm : most ≤ 65536) (hl : o.length ≤ most) (V : World) (hV : Hid (DrewOf w V)) :
    Calls Tryz.prog 150 #[.pointer (some ⟨R, 0, none⟩), .int .u8 (x.toNat : Int)] V fun e w' => e = .returned (.tuple #[]) ∧ Hid (PutX R g c T X t most v o x w e w') := by
  obtain ⟨m, rfl⟩ := hV
  refine (rput_any R g c T t most X o x v (w.drewN m) (hS.drewN m) hm hl).mono ?_
  rintro e w' ⟨h1, h2⟩
  have h0 : Stp R v v w (w.drewN m) := ((Only.refl R w).drewN m).stp
  refine ⟨h1, h1, ?_⟩
  rcases h2 with ⟨h3, h4, h5⟩ | ⟨h3, v', h4, h5⟩
  · exact .inl ⟨h3, h4, h0.trans h5⟩
  · exact .inr ⟨h3, v', h4, h0.trans h5⟩
theorem TabN.ints {w : World} {B n : Nat} {v : Value} {f : Nat → Nat} (h : TabN w B v n f) (h15 : ∀ i, f i ≤ 100000) (hn : n ≤ 1000) : ∃ a c, v = .slice a n c ∧ IntsAt w a n .i64 (fun i => (f i : Int)) := by
  obtain ⟨g, c, hv, h1, h2, h3⟩ := h
  refine ⟨_, c, hv, by unfold maxLen; omega, fun i => ?_, .inr ⟨g, 0, rfl, fun i hi => by rw [Nat.zero_add]; exact h3 i hi⟩⟩
  have := h15 i
  show (Lit.int .i64 ((f i : Nat) : Int)).wf = true
  exact WalkArith.wf_i64 ⟨by omega, by omega⟩
theorem wrap_small (z : Nat) (h : z ≤ 1000000) : IntKind.i64.wrap (z : Int) = (z : Int) := by rw [IntKind.wrap_i64]; omega
end Go.Proofs.YtddoemeellbhaaaGreatDoor
