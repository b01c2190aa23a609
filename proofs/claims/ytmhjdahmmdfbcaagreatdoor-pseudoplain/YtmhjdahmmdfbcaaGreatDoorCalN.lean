/-
  Stamps in order; the date of the next second.
-/
import Derived.Lib.Strings
import Derived.Test.YtmhjdahmmdfbcaaGreatDoorCalG
namespace Go.Proofs.YtmhjdahmmdfbcaaGreatDoor
open Go.RowKit
def valL (l : List UInt8) : Nat := l.foldl (fun n c => 10 * n + (c.toNat - 48)) 0
theorem val_fold (l : List UInt8) : ∀ n, l.foldl (fun n c => 10 * n + (c.toNat - 48)) n = n * 10 ^ l.length + valL l := by
  unfold valL
  induction l with
  | nil => intro n; simp
  | cons c r ih =>
    intro n
    simp only [List.foldl_cons, List.length_cons]
    rw [ih, ih (10 * 0 + _), Nat.pow_succ, Nat.add_mul]
    have e : 10 * n * 10 ^ r.length = n * (10 ^ r.length * 10) := by
      rw [Nat.mul_comm 10 n, Nat.mul_assoc, Nat.mul_comm 10]
    rw [e]
    simp only [Nat.mul_zero, Nat.zero_add]
    omega
theorem val_app (a b : List UInt8) : valL (a ++ b) = valL a * 10 ^ b.length + valL b := by
  show (a ++ b).foldl _ 0 = _
  rw [List.foldl_append, val_fold]
  rfl
theorem val_cons (c : UInt8) (r : List UInt8) : valL (c :: r) = (c.toNat - 48) * 10 ^ r.length + valL r := by
  have := val_app [c] r
  rw [show [c] ++ r = c :: r from rfl] at this
  rw [this]
  show (10 * 0 + (c.toNat - 48)) * _ + _ = _
  rw [Nat.mul_zero, Nat.zero_add]
theorem val_lt (l : List UInt8) (h : ∀ c ∈ l, isDig c) : valL l < 10 ^ l.length := by
  induction l with
  | nil => exact Nat.one_pos
  | cons c r ih =>
    have h1 := ih fun x hx => h x (List.mem_cons_of_mem _ hx)
    have h2 := h c List.mem_cons_self
    unfold isDig at h2
    rw [val_cons, List.length_cons, Nat.pow_succ]
    generalize 10 ^ r.length = P at *
    have : (c.toNat - 48) * P ≤ 9 * P := Nat.mul_le_mul_right _ (by omega)
    omega
theorem less_val (l : List UInt8) : ∀ l' : List UInt8, l.length = l'.length → (∀ c ∈ l, isDig c) → (∀ c ∈ l', isDig c) → Op.bytesLess l l' = decide (valL l < valL l') ∧ ((l == l') = decide (valL l = valL l')) := by
  induction l with
  | nil =>
    intro l' hl _ _
    cases l' with
    | nil => exact ⟨rfl, rfl⟩
    | cons _ _ => simp at hl
  | cons c r ih =>
    intro l' hl hd hd'
    cases l' with
    | nil => simp at hl
    | cons c' r' =>
      have hlr : r.length = r'.length := by simpa using hl
      have d1 := hd c List.mem_cons_self
      have d2 := hd' c' List.mem_cons_self
      have hr := fun x hx => hd x (List.mem_cons_of_mem _ hx)
      have hr' := fun x hx => hd' x (List.mem_cons_of_mem _ hx)
      obtain ⟨e1, e2⟩ := ih r' hlr hr hr'
      have v1 := val_lt r hr
      have v2 := val_lt r' hr'
      rw [val_cons, val_cons, ← hlr]
      rw [← hlr] at v2
      unfold isDig at d1 d2
      generalize 10 ^ r.length = P at *
      by_cases h1 : c = c'
      · subst h1
        constructor
        · simp only [Op.bytesLess]
          rw [e1]
          have : ¬ c < c := UInt8.lt_irrefl c
          simp [this]
        · rw [List.cons_beq_cons, e2]
          simp
      · have hne : c.toNat ≠ c'.toNat := fun h => h1 (UInt8.toNat_inj.1 h)
        have hb : (c == c') = false := by simpa using h1
        by_cases h2 : c.toNat < c'.toNat
        · have hm : (c.toNat - 48) * P + P ≤ (c'.toNat - 48) * P := by
            rw [← Nat.succ_mul]; exact Nat.mul_le_mul_right _ (by omega)
          constructor
          · simp only [Op.bytesLess]
            have : c < c' := h2
            simp [this]; omega
          · rw [List.cons_beq_cons, hb, Bool.false_and]
            exact (decide_eq_false (by omega)).symm
        · have hm : (c'.toNat - 48) * P + P ≤ (c.toNat - 48) * P := by
            rw [← Nat.succ_mul]; exact Nat.mul_le_mul_right _ (by omega)
          constructor
          · simp only [Op.bytesLess]
            have h3 : ¬ c < c' := h2
            simp [h3, hb]; omega
          · rw [List.cons_beq_cons, hb, Bool.false_and]
            exact (decide_eq_false (by omega)).symm
theorem dig_nat (d : Nat) (h : d < 10) : (dig d).toNat = 48 + d := by
  unfold dig; rw [UInt8.toNat_ofNat']; omega
theorem val2 (n : Nat) (h : n < 100) : valL (d2 n) = n := by
  show 10 * (10 * 0 + ((dig (n / 10)).toNat - 48)) + ((dig (n % 10)).toNat - 48) = n
  rw [dig_nat _ (by omega), dig_nat _ (by omega)]; omega
theorem val4 (n : Nat) (h : n < 10000) : valL (d4 n) = n := by
  show 10 * (10 * (10 * (10 * 0 + ((dig (n / 1000)).toNat - 48)) + ((dig (n / 100 % 10)).toNat - 48)) + ((dig (n / 10 % 10)).toNat - 48)) + ((dig (n % 10)).toNat - 48) = n
  rw [dig_nat _ (by omega), dig_nat _ (by omega), dig_nat _ (by omega), dig_nat _ (by omega)]; omega
theorem dig2 (n : Nat) (h : n < 100) : ∀ c ∈ d2 n, isDig c := by
  intro c hc
  unfold d2 at hc
  simp only [List.mem_cons, List.not_mem_nil, or_false] at hc
  unfold isDig
  rcases hc with rfl | rfl <;> rw [dig_nat _ (by omega)] <;> omega
theorem dig4 (n : Nat) (h : n < 10000) : ∀ c ∈ d4 n, isDig c := by
  intro c hc
  unfold d4 at hc
  simp only [List.mem_cons, List.not_mem_nil, or_false] at hc
  unfold isDig
  rcases hc with rfl | rfl | rfl | rfl <;> rw [dig_nat _ (by omega)] <;> omega
/-- the fourteen digits -/
def stL (y m d h mi s : Nat) : List UInt8 := d4 y ++ (d2 m ++ (d2 d ++ (d2 h ++ (d2 mi ++ d2 s))))
theorem stamp_list (y m d h mi s : Nat) : (stampT y m d h mi s).data.toList = stL y m d h mi s := by
  unfold stampT allT dayT timeT b4 b2 stL
  simp only [ByteArray.data_append, Array.toList_append, List.append_assoc, List.append_nil]
theorem st_val {y m d h mi s : Nat} (hy : y < 10000) (hm : m < 100) (hd : d < 100) (hh : h < 100) (hmi : mi < 100) (hs : s < 100) : valL (stL y m d h mi s) = keyN y m d h mi s := by
  unfold stL keyN dkN
  rw [val_app, val_app, val_app, val_app, val_app, val4 y hy, val2 m hm, val2 d hd, val2 h hh, val2 mi hmi, val2 s hs]
  show y * 10 ^ 10 + (m * 10 ^ 8 + (d * 10 ^ 6 + (h * 10 ^ 4 + (mi * 10 ^ 2 + s)))) = _
  omega
theorem st_dig {y m d h mi s : Nat} (hy : y < 10000) (hm : m < 100) (hd : d < 100) (hh : h < 100) (hmi : mi < 100) (hs : s < 100) : ∀ c ∈ stL y m d h mi s, isDig c := by
  intro c hc
  unfold stL at hc
  simp only [List.mem_append] at hc
  rcases hc with hc | hc | hc | hc | hc | hc
  · exact dig4 y hy c hc
  · exact dig2 m hm c hc
  · exact dig2 d hd c hc
  · exact dig2 h hh c hc
  · exact dig2 mi hmi c hc
  · exact dig2 s hs c hc
theorem IsDate.small {T y m d h mi s : Nat} (H : IsDate T y m d h mi s) : y < 10000 ∧ m < 100 ∧ d < 100 ∧ h < 100 ∧ mi < 100 ∧ s < 100 := by
  obtain ⟨_, a, b, c⟩ := clock (Nat.mod_lt T (by decide)) H.h2 H.mi2 H.s2
  have := H.day.y2; have := H.day.m2; have := H.day.d2; have := dm_le y m
  omega
theorem stamp_order {T y m d h mi s T' y' m' d' h' mi' s' : Nat} (H : IsDate T y m d h mi s) (H' : IsDate T' y' m' d' h' mi' s') :
    Op.bytesLess (stampT y m d h mi s).toList (stampT y' m' d' h' mi' s').toList = decide (T < T') ∧ ((stampT y m d h mi s).toList == (stampT y' m' d' h' mi' s').toList) = decide (T = T') := by
  rw [Lib.toList_data, Lib.toList_data, stamp_list, stamp_list]
  obtain ⟨a1, a2, a3, a4, a5, a6⟩ := H.small
  obtain ⟨b1, b2, b3, b4, b5, b6⟩ := H'.small
  obtain ⟨e1, e2⟩ := less_val _ (stL y' m' d' h' mi' s') (show (stL y m d h mi s).length = _ by rfl) (st_dig a1 a2 a3 a4 a5 a6) (st_dig b1 b2 b3 b4 b5 b6)
  rw [e1, e2, st_val a1 a2 a3 a4 a5 a6, st_val b1 b2 b3 b4 b5 b6]
  exact ⟨decide_eq_decide.2 (date_lt_iff H H').symm, decide_eq_decide.2 (date_eq_iff H H').symm⟩
/-- the date of the next second -/
theorem next_date {T y m d h mi s : Nat} (H : IsDate T y m d h mi s) (hT : T + 1 < 315537897600) :
    (s < 59 ∧ IsDate (T + 1) y m d h mi (s + 1) ∧ (T + 1) / 86400 = T / 86400) ∨
    (s = 59 ∧ mi < 59 ∧ IsDate (T + 1) y m d h (mi + 1) 0 ∧ (T + 1) / 86400 = T / 86400) ∨
    (s = 59 ∧ mi = 59 ∧ h < 23 ∧ IsDate (T + 1) y m d (h + 1) 0 0 ∧ (T + 1) / 86400 = T / 86400) ∨
    (s = 59 ∧ mi = 59 ∧ h = 23 ∧ (T + 1) / 86400 = T / 86400 + 1 ∧
      ((d + 1 ≤ dmN y m ∧ IsDate (T + 1) y m (d + 1) 0 0 0) ∨ (d = dmN y m ∧ m < 12 ∧ IsDate (T + 1) y (m + 1) 1 0 0 0) ∨ (d = dmN y m ∧ m = 12 ∧ IsDate (T + 1) (y + 1) 1 1 0 0 0))) := by
  obtain ⟨c1, c2, c3, c4⟩ := clock (Nat.mod_lt T (by decide)) H.h2 H.mi2 H.s2
  have hb := H.back
  have hD := H.day
  have hn := H.day.num
  have mk : ∀ {y m d h mi s : Nat}, h < 24 → mi < 60 → s < 60 → IsDay (dN y m d) y m d → T + 1 = dN y m d * 86400 + h * 3600 + mi * 60 + s → IsDate (T + 1) y m d h mi s := fun a b c e g => by rw [g]; exact date_mk a b c e
  rw [← hn] at hD
  by_cases h1 : s < 59
  · exact .inl ⟨h1, mk c2 c3 (by omega) hD (by omega), by omega⟩
  · by_cases h2 : mi < 59
    · exact .inr (.inl ⟨by omega, h2, mk c2 (by omega) (by omega) hD (by omega), by omega⟩)
    · by_cases h3 : h < 23
      · exact .inr (.inr (.inl ⟨by omega, by omega, h3, mk (by omega) (by omega) (by omega) hD (by omega), by omega⟩))
      · refine .inr (.inr (.inr ⟨by omega, by omega, by omega, by omega, ?_⟩))
        by_cases h4 : d + 1 ≤ dmN y m
        · refine .inl ⟨h4, mk (by decide) (by decide) (by decide) ⟨hD.y1, hD.y2, hD.m1, hD.m2, by omega, h4, rfl⟩ ?_⟩
          have := hD.d1
          unfold dN at hb ⊢
          omega
        · have hd2 : d = dmN y m := by have := hD.d2; omega
          by_cases h5 : m < 12
          · refine .inr (.inl ⟨hd2, h5, mk (by decide) (by decide) (by decide) ⟨hD.y1, hD.y2, by omega, by omega, by decide, ?_, rfl⟩ ?_⟩)
            · have := mdN_ge (leapN y) (m + 1) (by omega) (by omega)
              show 1 ≤ mdN (leapN y) (m + 1)
              omega
            · have := hD.d1
              unfold dN at hb ⊢
              rw [mA_succ]
              omega
          · have hm12 : m = 12 := by have := hD.m2; omega
            have hy := ahead_succ y hD.y1
            rw [← mA_year, mA_succ] at hy
            subst hm12
            have hd1 := hD.d1
            have hlt : aheadN (y + 1) < 3652059 := by
              unfold dN at hb
              omega
            have hy9 : y + 1 ≤ 9999 := by
              refine Classical.byContradiction fun hn => ?_
              have := ahead_mono (show 10000 ≤ y + 1 by omega)
              rw [ahead_last] at this
              omega
            refine .inr (.inr ⟨hd2, rfl, mk (by decide) (by decide) (by decide) ⟨by omega, hy9, by decide, by decide, by decide, by show 1 ≤ 31; decide, rfl⟩ ?_⟩)
            unfold dN at hb ⊢
            rw [mA_one]
            omega
end Go.Proofs.YtmhjdahmmdfbcaaGreatDoor
