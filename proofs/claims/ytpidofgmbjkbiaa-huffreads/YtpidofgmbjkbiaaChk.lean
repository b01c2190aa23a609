/-
  The document's Check of lengths: its sum by symbols is the sum by lengths; it refuses just where New does.
-/
import Derived.Test.YtpidofgmbjkbiaaHufE
namespace Go.Proofs.Ytpidofgmbjkbiaa
open Go.RowKit

/-- The sum, symbol by symbol; how many have a code; how many have a long one. -/
def sm (ln : Nat → Nat) : Nat → Nat
  | 0 => 0
  | k + 1 => sm ln k + (if ln k = 0 then 0 else 2 ^ (15 - ln k))
def nz (ln : Nat → Nat) : Nat → Nat
  | 0 => 0
  | k + 1 => nz ln k + (if ln k = 0 then 0 else 1)
def bg (ln : Nat → Nat) : Nat → Nat
  | 0 => 0
  | k + 1 => bg ln k + (if 1 < ln k then 1 else 0)
theorem kr_step (ln : Nat → Nat) (L n : Nat) : kr ln (L + 1) n = kr ln L n + (if 0 < ln L ∧ ln L ≤ n then 2 ^ (15 - ln L) else 0) := by
  induction n with
  | zero => rw [kr, kr, if_neg (by omega)]
  | succ n ih =>
    rw [kr, kr, ih, cnt]
    by_cases h1 : ln L = n + 1
    · rw [if_neg (by omega : ¬ (0 < ln L ∧ ln L ≤ n)), if_pos (⟨h1, by omega⟩ : ln L = n + 1 ∧ 0 < n + 1), if_pos (by omega : 0 < ln L ∧ ln L ≤ n + 1), h1, Nat.add_mul, Nat.one_mul]
      omega
    · rw [if_neg (by omega : ¬ (ln L = n + 1 ∧ 0 < n + 1)), Nat.add_zero (cnt ln (n + 1) L)]
      by_cases h2 : 0 < ln L ∧ ln L ≤ n
      · rw [if_pos h2, if_pos (by omega)]; omega
      · rw [if_neg h2, if_neg (by omega)]; omega
theorem sm_kr (ln : Nat → Nat) (h : ∀ i, ln i ≤ 15) (L : Nat) : sm ln L = kr ln L 15 := by
  induction L with
  | zero => simp [sm, kr, cnt]
  | succ L ih =>
    have := h L
    rw [sm, ih, kr_step]
    by_cases h0 : ln L = 0
    · rw [if_pos h0, if_neg (by omega)]
    · rw [if_neg h0, if_pos (by omega)]
theorem nz_split (ln : Nat → Nat) (L : Nat) : nz ln L = cnt ln 1 L + bg ln L := by
  induction L with
  | zero => rfl
  | succ L ih =>
    rw [nz, cnt, bg, ih]
    rcases (by omega : ln L = 0 ∨ ln L = 1 ∨ 1 < ln L) with h | h | h
    · rw [if_pos h, if_neg (by omega), if_neg (by omega)]; omega
    · rw [if_neg (by omega), if_pos (by omega), if_neg (by omega)]; omega
    · rw [if_neg (by omega), if_neg (by omega), if_pos h]; omega
theorem bg_lgs (ln : Nat → Nat) (L : Nat) : bg ln L = 0 ↔ lgs ln L ≤ 1 := by
  induction L with
  | zero => simp [bg, lgs]
  | succ L ih =>
    rw [bg, lgs]
    by_cases h : 1 < ln L
    · rw [if_pos h]; omega
    · rw [if_neg h]; omega
theorem cnt1_lgs (ln : Nat → Nat) (L : Nat) (h : 0 < cnt ln 1 L) : 1 ≤ lgs ln L := by
  induction L with
  | zero => simp [cnt] at h
  | succ L ih =>
    rw [cnt] at h
    rw [lgs]
    by_cases h1 : ln L = 1
    · omega
    · rw [if_neg (by omega)] at h
      have := ih (by omega)
      omega
theorem nz_le (ln : Nat → Nat) (L : Nat) : nz ln L ≤ L := by
  induction L with
  | zero => exact Nat.le_refl _
  | succ L ih => rw [nz]; split <;> omega
theorem nz_zero (ln : Nat → Nat) (L : Nat) : nz ln L = 0 ↔ lgs ln L = 0 := by
  induction L with
  | zero => simp [nz, lgs]
  | succ L ih =>
    rw [nz, lgs]
    by_cases h : ln L = 0
    · rw [if_pos h]; omega
    · rw [if_neg h]; omega
theorem sm_le (ln : Nat → Nat) (L : Nat) : sm ln L ≤ L * 32768 := by
  induction L with
  | zero => exact Nat.zero_le _
  | succ L ih =>
    have h2 : 2 ^ (15 - ln L) ≤ 2 ^ 15 := Nat.pow_le_pow_right (by decide) (by omega)
    rw [sm, Nat.add_mul, Nat.one_mul]
    refine Nat.add_le_add ih ?_
    split
    · exact Nat.zero_le _
    · exact h2
/-- The document's condition is New's. -/
theorem chk_fit (ln : Nat → Nat) (L : Nat) (h15 : ∀ i, ln i ≤ 15) : (32768 < sm ln L ∨ (sm ln L < 32768 ∧ 0 < nz ln L ∧ ¬ (nz ln L = 1 ∧ cnt ln 1 L = 1))) ↔ ¬ Fit ln L := by
  have e := sm_kr ln h15 L
  have e1 := nz_split ln L
  have e2 := bg_lgs ln L
  have e3 := nz_zero ln L
  have e4 := cnt1_lgs ln L
  rw [e]
  constructor
  · intro h hf
    rcases h with h | ⟨h1, h2, h3⟩
    · have := hf.le; omega
    · rcases hf with hf | hf | ⟨hf, hf1⟩
      · omega
      · omega
      · apply h3; omega
  · intro h
    unfold Fit at h
    by_cases h1 : 32768 < kr ln L 15
    · exact .inl h1
    · refine .inr ⟨by omega, by omega, ?_⟩
      rintro ⟨a, b⟩
      apply h
      omega

/-- What Check answers. -/
def ChkPost (f : Nat → Int) (len : Nat) (e : Ending) : Prop :=
  (320 < len ∧ e = .returned (.int .i64 2)) ∨
  (len ≤ 320 ∧ (∃ i, i < len ∧ (f i < 0 ∨ 15 < f i)) ∧ e = .returned (.int .i64 1)) ∨
  (len ≤ 320 ∧ ∃ ln : Nat → Nat, (∀ i, i < len → f i = (ln i : Int)) ∧ (∀ i, ln i ≤ 15) ∧
    ((¬ Fit ln len ∧ e = .returned (.int .i64 4)) ∨ (Fit ln len ∧ e = .returned (.int .i64 0))))
theorem half_step (i : Nat) : 32768 / 2 ^ (i + 1) = 32768 / 2 ^ i / 2 := by
  rw [Nat.pow_succ, Nat.div_div_eq_div_mul]
theorem half_end (n : Nat) (h : n ≤ 15) : 32768 / 2 ^ n = 2 ^ (15 - n) := by
  rw [show (32768 : Nat) = 2 ^ (15 - n) * 2 ^ n by rw [← Nat.pow_add, show 15 - n + n = 15 by omega]]
  exact Nat.mul_div_cancel _ (Nat.pow_pos (by decide))

set_option maxHeartbeats 2000000 in
theorem check_any (a : Option Addr) (len cap : Nat) (f : Nat → Int) (w : World) (hf : IntsAt w a len .i64 f) :
    Calls Try.prog 11 #[.slice a len cap] w fun e w' => ChkPost f len e ∧ w' = w := by
  have hlen : len ≤ 9223372036854775807 := by have := hf.1; unfold maxLen at this; omega
  have HF := hidM hf
  clear hf
  by_cases h320 : 320 < len
  · go_enter Try.func11, Try.ntmps11
    go_wp2
    go_ret
    exact ⟨.inl ⟨h320, rfl⟩, rfl⟩
  · obtain ⟨ln, hln⟩ : ∃ ln : Nat → Nat, ln = fun i => if 0 ≤ f i ∧ f i ≤ 15 then (f i).toNat else 0 := ⟨_, rfl⟩
    have H15 : Hid (∀ i, ln i ≤ 15) := fun i => by
      rw [hln]; simp only; split <;> omega
    have HLN : Hid (∀ i, 0 ≤ f i → f i ≤ 15 → f i = (ln i : Int)) := fun i h1 h2 => by
      rw [hln]; simp only; rw [if_pos ⟨h1, h2⟩]; omega
    clear hln
    go_enter Try.func11, Try.ntmps11
    go_wp2
    go_loop [3, 4, 5, 7, 8, 9, 15] (fun s c o _ _ _ i => ∃ k S C O : Nat, k ≤ len ∧ i = .int .i64 k ∧ S = sm ln k ∧ s = .int .i64 (S : Int) ∧ C = nz ln k ∧ c = .int .i64 (C : Int) ∧ O = cnt ln 1 k ∧ o = .int .i64 (O : Int) ∧ (∀ i, i < k → 0 ≤ f i ∧ f i ≤ 15)) (fun _ _ _ _ _ _ i => len - (intOf i).toNat)
    case atStart => exact ⟨0, 0, 0, 0, Nat.zero_le _, rfl, rfl, rfl, rfl, rfl, rfl, rfl, fun i hi => by omega⟩
    case round =>
      obtain ⟨k, S, C, O, hk, rfl, hS, rfl, hC, rfl, hO, rfl, hall⟩ := hrel
      have HA := hidM hall
      have HS := hidM hS
      have HC := hidM hC
      have HO := hidM hO
      have bS : S ≤ 10485760 := by have := sm_le ln k; omega
      have bC : C ≤ 320 := by have := nz_le ln k; omega
      have bO : O ≤ 320 := by have := cnt_le ln 1 k; omega
      clear hall hS hC hO
      by_cases hlt : k < len
      · obtain ⟨bb, off, rfl, hc⟩ := HF.out.get k hlt
        generalize hfk : f k = c at *
        have HFK := hidM hfk
        clear hfk
        by_cases hbad : c < 0 ∨ 15 < c
        · have HBD := hidM hbad
          rcases hbad with hb | hb
          · go_wp2
            go_ret
            exact ⟨.inr (.inl ⟨by omega, ⟨k, hlt, by rw [HFK.out]; exact HBD.out⟩, rfl⟩), rfl⟩
          · go_wp2
            go_ret
            exact ⟨.inr (.inl ⟨by omega, ⟨k, hlt, by rw [HFK.out]; exact HBD.out⟩, rfl⟩), rfl⟩
        · have hb1 : ¬ c < 0 := by omega
          have hb2 : ¬ 15 < c := by omega
          have HA2 : Hid (∀ i, i < k + 1 → 0 ≤ f i ∧ f i ≤ 15) := fun i hi => by
            rcases Nat.lt_or_ge i k with h | h
            · exact HA.out i h
            · have : i = k := by omega
              subst this; rw [HFK.out]; omega
          obtain ⟨n, hn⟩ : ∃ n, n = ln k := ⟨_, rfl⟩
          have hcn : c = (n : Int) := by have := HLN.out k (by rw [HFK.out]; omega) (by rw [HFK.out]; omega); rw [← HFK.out, this, hn]
          subst hcn
          have n15 : n ≤ 15 := by omega
          have HN := hidM hn
          have HSS : Hid (sm ln (k + 1) = S + (if n = 0 then 0 else 2 ^ (15 - n))) := by unfold Hid; rw [sm, HS.out, ← HN.out]
          have HCS : Hid (nz ln (k + 1) = C + (if n = 0 then 0 else 1)) := by unfold Hid; rw [nz, HC.out, ← HN.out]
          have HOS : Hid (cnt ln 1 (k + 1) = O + (if n = 1 then 1 else 0)) := by
            unfold Hid; rw [cnt, HO.out, ← HN.out]
            by_cases h1 : n = 1
            · rw [if_pos h1, if_pos ⟨h1, by decide⟩]
            · rw [if_neg h1, if_neg (by omega)]
          clear hn hbad
          by_cases h0 : n = 0
          · subst h0
            go_wp2
            refine ⟨⟨k + 1, S, C, O, by omega, by go_num, by rw [HSS.out]; rfl, rfl, by rw [HCS.out]; rfl, rfl, by rw [HOS.out]; rfl, rfl, HA2.out⟩, ?_⟩
            simp [intOf]; omega
          · have hpos : 0 < n := by omega
            go_wp2
            go_loop [8, 9] (fun p i => ∃ j q : Nat, j ≤ n ∧ i = .int .i64 j ∧ q = 32768 / 2 ^ j ∧ p = .int .i64 (q : Int)) (fun _ i => n - (intOf i).toNat)
            case atStart => exact ⟨0, 32768, Nat.zero_le _, rfl, by simp, rfl⟩
            case round =>
              obtain ⟨j, q, hj, rfl, hq, rfl⟩ := hrel
              have HQ := hidM hq
              have q1 : q ≤ 32768 := by rw [hq]; exact Nat.div_le_self _ _
              clear hq
              by_cases hjn : j < n
              · go_wp2
                refine ⟨⟨j + 1, q / 2, by omega, by go_num, by rw [HQ.out, half_step j], val_int (by omega)⟩, ?_⟩
                simp [intOf]; omega
              · have HE : Hid (q = 2 ^ (15 - n)) := by
                  have : j = n := by omega
                  unfold Hid; rw [HQ.out, this, half_end n n15]
                have HS2 : Hid (S + q = sm ln (k + 1)) := by unfold Hid; rw [HSS.out, HE.out, if_neg h0]
                have HC2 : Hid (C + 1 = nz ln (k + 1)) := by unfold Hid; rw [HCS.out, if_neg h0]
                by_cases h1 : n = 1
                · subst h1
                  go_wp2
                  refine ⟨⟨k + 1, S + q, C + 1, O + 1, by omega, by go_num, HS2.out, by go_num, HC2.out, by go_num, by rw [HOS.out]; rfl, by go_num, HA2.out⟩, ?_⟩
                  simp [intOf]; omega
                · have h1b : ((n : Int) == 1) = false := by simp; omega
                  go_wp2
                  refine ⟨⟨k + 1, S + q, C + 1, O, by omega, by go_num, HS2.out, by go_num, HC2.out, by go_num, by rw [HOS.out, if_neg h1]; rfl, rfl, HA2.out⟩, ?_⟩
                  simp [intOf]; omega
      · have hkl : k = len := by omega
        subst hkl
        have HFIT := hidM (chk_fit ln k H15.out)
        rw [← HS.out, ← HC.out, ← HO.out] at HFIT
        have HEND : Hid (∀ v : Int, ((¬ Fit ln k ∧ v = 4) ∨ (Fit ln k ∧ v = 0)) → ChkPost f k (.returned (.int .i64 v))) := fun v hv =>
          .inr (.inr ⟨by omega, ln, fun i hi => HLN.out i (HA.out i hi).1 (HA.out i hi).2, H15.out, by
            rcases hv with ⟨h1, rfl⟩ | ⟨h1, rfl⟩
            · exact .inl ⟨h1, rfl⟩
            · exact .inr ⟨h1, rfl⟩⟩)
        by_cases c1 : 32768 < S
        · have HX : Hid (¬ Fit ln k) := HFIT.out.1 (.inl c1)
          go_wp2
          go_ret
          exact ⟨HEND.out 4 (.inl ⟨HX.out, rfl⟩), rfl⟩
        · have i1 : decide ((32768 : Int) < (S : Int)) = false := by simp; omega
          by_cases c2 : S < 32768
          · have i2 : decide ((S : Int) < (32768 : Int)) = true := by simp; omega
            have HC2 := hidM c2
            clear c1 c2
            by_cases c3 : C = 0
            · subst c3
              have HX : Hid (Fit ln k) := Classical.not_not.1 fun h => by have := HFIT.out.2 h; have := HC2.out; omega
              go_wp2
              go_ret
              exact ⟨HEND.out 0 (.inr ⟨HX.out, rfl⟩), rfl⟩
            · have c3' : 0 < C := by omega
              by_cases c4 : C = 1
              · subst c4
                by_cases c5 : O = 1
                · subst c5
                  have HX : Hid (Fit ln k) := Classical.not_not.1 fun h => by have := HFIT.out.2 h; have := HC2.out; omega
                  go_wp2
                  go_ret
                  exact ⟨HEND.out 0 (.inr ⟨HX.out, rfl⟩), rfl⟩
                · have b5 : ((O : Int) == 1) = false := by simp; omega
                  have HX : Hid (¬ Fit ln k) := HFIT.out.1 (.inr ⟨HC2.out, by decide, fun h => c5 h.2⟩)
                  go_wp2
                  go_ret
                  exact ⟨HEND.out 4 (.inl ⟨HX.out, rfl⟩), rfl⟩
              · have b4 : ((C : Int) == 1) = false := by simp; omega
                have HX : Hid (¬ Fit ln k) := HFIT.out.1 (.inr ⟨HC2.out, c3', fun h => c4 h.1⟩)
                go_wp2
                go_ret
                exact ⟨HEND.out 4 (.inl ⟨HX.out, rfl⟩), rfl⟩
          · have HX : Hid (Fit ln k) := Classical.not_not.1 fun h => by have := HFIT.out.2 h; omega
            have i2 : decide ((S : Int) < (32768 : Int)) = false := by simp; omega
            clear c1 c2
            go_wp2
            go_ret
            exact ⟨HEND.out 0 (.inr ⟨HX.out, rfl⟩), rfl⟩
end Go.Proofs.Ytpidofgmbjkbiaa
