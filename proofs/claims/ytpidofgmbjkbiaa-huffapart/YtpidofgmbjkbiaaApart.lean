/-
  HuffApart: no code begins another one: the walk.
-/
import Derived.Test.YtpidofgmbjkbiaaHufE
namespace Go.Proofs.Ytpidofgmbjkbiaa
open Go.RowKit

theorem shl_facts (c k : Nat) (hk : k ≤ 15) (hc : c < 2 ^ k) : ∃ P : Nat, IntKind.u32.wrap (2 ^ k) = (P : Int) ∧ c < P ∧ (2 : Int) ^ k % 4294967296 = (P : Int) := by
  have h1 : 2 ^ k ≤ 2 ^ 15 := Nat.pow_le_pow_right (by decide) hk
  refine ⟨2 ^ k, ?_, hc, ?_⟩
  · rw [IntKind.wrap_u32', show ((2 : Int) ^ k) = ((2 ^ k : Nat) : Int) by simp]
    generalize 2 ^ k = q at *
    simp at h1
    omega
  · rw [show ((2 : Int) ^ k) = ((2 ^ k : Nat) : Int) by simp]
    generalize 2 ^ k = q at *
    simp at h1
    omega
theorem shr_ne (c d j : Nat) (h : c / 2 ^ j ≠ d) : (((c : Int) / 2 ^ j == (d : Int)) : Bool) = false := by
  have e : (c : Int) / 2 ^ j = ((c / 2 ^ j : Nat) : Int) := by simp
  rw [e]
  generalize c / 2 ^ j = q at *
  simp
  omega

set_option maxRecDepth 20000 in
set_option maxHeartbeats 4000000 in
theorem apart_walk (a : Option Addr) (len cap : Nat) (f : Nat → Int) (w : World) (hf : IntsAt w a len .i64 f) (hn : a = none → len = 0 ∧ cap = 0) (hcap : len ≤ cap) :
    Calls Try.prog 6 #[.slice a len cap] w fun e w' => e = .returned (.bool true) ∧ Below w.heap.size w w' := by
  have HF := hidM hf
  have HN := hidM hn
  have HCAP := hidM hcap
  obtain ⟨m, hm⟩ : ∃ m, m = min len 400 := ⟨_, rfl⟩
  have HM := hidM hm
  have m400 : m ≤ 400 := by omega
  clear hf hn hcap hm
  go_enter Try.func6, Try.ntmps6
  go_wp2_with fail
  refine (few_any a len cap m f w HF.out HM.out HN.out HCAP.out).mono ?_
  rintro e w1 ⟨⟨a1, c1, rfl, hf1⟩, hb1⟩
  have HF1 := hidM hf1
  have HB1 := hidM hb1
  clear hf1 hb1
  go_wp2_with fail
  refine (new_any a1 m c1 f w1 HF1.out).mono ?_
  rintro e w2 ⟨hp, hb2⟩
  have HB2 : Hid (Below w.heap.size w w2) := HB1.out.trans (hb2.mono HB1.out.size)
  clear hb2
  have hcase : (∃ r : Int, r ≠ 0 ∧ e = .returned (.tuple #[.pointer none, .int .i64 r])) ∨ (m ≤ 320 ∧ ∃ ln b, (∀ i, ln i ≤ 15) ∧ Fit ln m ∧ e = .returned (.tuple #[.pointer (some ⟨b, 0, none⟩), .int .i64 0]) ∧ Tab w2 b ln m) := by
    rcases hp with ⟨_, he⟩ | ⟨_, _, he⟩ | ⟨h3, ln, _, h15, ⟨_, he⟩ | ⟨hfit, b, he, ht⟩⟩
    · exact .inl ⟨2, by decide, he⟩
    · exact .inl ⟨1, by decide, he⟩
    · exact .inl ⟨4, by decide, he⟩
    · exact .inr ⟨h3, ln, b, h15, hfit, he, ht⟩
  clear hp
  rcases hcase with ⟨r, hr, rfl⟩ | ⟨h320, ln, b, h15, hfit, rfl, htab⟩
  · have hrb : (r != 0) = true := by simpa using hr
    go_wp2_with fail
    refine (hawake_any w2).mono ?_
    rintro e w3 ⟨rfl, hb3⟩
    have HB3 : Hid (Below w.heap.size w w3) := HB2.out.trans (hb3.mono HB2.out.size)
    clear hb3
    go_wp2
    go_ret
    exact ⟨rfl, HB3.out⟩
  · have H15 := hidM h15
    have HKR := hidM hfit.le
    have HT := hidM htab
    clear h15 hfit htab
    go_wp2_with fail
    refine (few_any a len cap m f w2 (HF.out.below HB2.out) HM.out HN.out HCAP.out).mono ?_
    rintro e w3 ⟨⟨a3, c3, rfl, hf3⟩, hb3⟩
    have HB3 : Hid (Below w.heap.size w w3) := HB2.out.trans (hb3.mono HB2.out.size)
    have HT3 := hidM (HT.out.below hb3)
    clear hb3 hf3 HT HB2
    go_wp2
    go_loopw [6, 7, 8, 9, 10, 11] (fun i _ _ _ _ _ wr => ∃ s : Nat, s ≤ m ∧ i = .int .i64 s ∧ Tab wr b ln m ∧ Below w.heap.size w wr) (fun i _ _ _ _ _ _ => m - (intOf i).toNat)
    case atStart => exact ⟨0, Nat.zero_le _, rfl, HT3.out, HB3.out⟩
    case round =>
      obtain ⟨s, hs, rfl, ht, hbr⟩ := hrel
      have HT := hidM ht
      have HB := hidM hbr
      clear ht hbr HT3 HB3
      by_cases hlt : s < m
      · go_wp2_with fail
        refine (code_in b s ln m wr HT.out hlt).mono ?_
        rintro e w4 ⟨rfl, hb4⟩
        have HB4 : Hid (Below w.heap.size w w4) := HB.out.trans (hb4.mono HB.out.size)
        have HT4 := hidM (HT.out.below hb4)
        have hk15 := H15.out s
        obtain ⟨P, hP, hcP, hP2⟩ := shl_facts (codeC ln m s) (ln s) hk15 (codeC_lt ln m s hlt hk15 HKR.out)
        obtain ⟨c, hc⟩ : ∃ c, c = codeC ln m s := ⟨_, rfl⟩
        obtain ⟨k, hk⟩ : ∃ k, k = ln s := ⟨_, rfl⟩
        rw [← hc, ← hk]
        rw [← hk] at hP hP2 hk15
        rw [← hc] at hcP
        have HC := hidM hc
        have HK := hidM hk
        clear hb4 hc hk HT HB
        have hge : decide ((P : Int) ≤ (c : Int)) = false := by simp; omega
        have hge2 : decide (P ≤ c) = false := by simp; omega
        have hk1 : decide ((k : Int) < 0) = false := by simp
        have hk2 : decide ((15 : Int) < (k : Int)) = false := by simp; omega
        go_wp2
        clear hP hP2 hge hge2 hcP hk1 hk2
        go_loopw [9, 10, 11] (fun i _ _ wr => ∃ x : Nat, x ≤ s ∧ i = .int .i64 x ∧ Tab wr b ln m ∧ Below w.heap.size w wr) (fun i _ _ _ => s - (intOf i).toNat)
        case atStart => exact ⟨0, Nat.zero_le _, rfl, HT4.out, HB4.out⟩
        case round =>
          obtain ⟨x, hx, rfl, ht, hbr⟩ := hrel
          have HT := hidM ht
          have HB := hidM hbr
          clear ht hbr HT4 HB4
          by_cases hxs : x < s
          · by_cases hk0 : k = 0
            · subst hk0
              go_wp2
              go_roundw
              case rel => exact ⟨s + 1, by omega, by go_num, HT.out, HB.out⟩
              case measure => simp [intOf]; omega
            · have hkp : 0 < k := by omega
              have hxm : x < m := by omega
              go_wp2_with fail
              refine (code_in b x ln m wr HT.out hxm).mono ?_
              rintro e w5 ⟨rfl, hb5⟩
              have HB5 : Hid (Below w.heap.size w w5) := HB.out.trans (hb5.mono HB.out.size)
              have HT5 := hidM (HT.out.below hb5)
              have hn15 := H15.out x
              obtain ⟨d, hd⟩ : ∃ d, d = codeC ln m x := ⟨_, rfl⟩
              obtain ⟨n, hn⟩ : ∃ n, n = ln x := ⟨_, rfl⟩
              have HA1 : Hid (0 < n → n < k → c / 2 ^ (k - n) ≠ d) := fun h1 h2 => by
                rw [HC.out, HK.out, hd, hn]
                exact codeC_apart ln m s x hxm (H15.out s) (by rw [← hn]; exact h1) (by rw [← hn, ← HK.out]; exact h2)
              have HA2 : Hid (k < n → d / 2 ^ (n - k) ≠ c) := fun h2 => by
                rw [HC.out, HK.out, hd, hn]
                exact codeC_apart ln m x s hlt hn15 (by rw [← HK.out]; exact hkp) (by rw [← hn, ← HK.out]; exact h2)
              have HA3 : Hid (n = k → d < c) := fun h2 => by
                rw [HC.out, hd]
                exact codeC_rise ln m s x hxs (by rw [← hn, ← HK.out]; exact h2) (by rw [← hn, h2]; exact hkp)
              rw [← hd, ← hn]
              rw [← hn] at hn15
              clear hb5 hd hn HT HB
              by_cases hn0 : n = 0
              · subst hn0
                go_wp2
                go_roundw
                case rel => exact ⟨x + 1, by omega, by go_num, HT5.out, HB5.out⟩
                case measure => simp [intOf]; omega
              · have hn0b : ((n : Int) == 0) = false := by simp; omega
                rcases Nat.lt_trichotomy n k with h | h | h
                · obtain ⟨j, hj⟩ : ∃ j, j = k - n := ⟨_, rfl⟩
                  have ej : (k : Int) - (n : Int) = (j : Int) := by omega
                  have hne := shr_ne c d j (by rw [hj]; exact HA1.out (by omega) h)
                  have l1 : decide ((n : Int) ≤ (k : Int)) = true := by simp; omega
                  have l2 : decide ((k : Int) ≤ (n : Int)) = false := by simp; omega
                  have l3 : ((n : Int) == (k : Int)) = false := by simp; omega
                  have j32 : j ≤ 15 := by omega
                  clear hj
                  go_wp2
                  go_roundw
                  case rel => exact ⟨x + 1, by omega, by go_num, HT5.out, HB5.out⟩
                  case measure => simp [intOf]; omega
                · subst h
                  have hdc := HA3.out rfl
                  have l1 : ((c : Int) == (d : Int)) = false := by simp; omega
                  have l2 : ((d : Int) == (c : Int)) = false := by simp; omega
                  have l3 : decide ((c : Int) ≤ (d : Int)) = false := by simp; omega
                  go_wp2
                  go_roundw
                  case rel => exact ⟨x + 1, by omega, by go_num, HT5.out, HB5.out⟩
                  case measure => simp [intOf]; omega
                · obtain ⟨j, hj⟩ : ∃ j, j = n - k := ⟨_, rfl⟩
                  have ej : (n : Int) - (k : Int) = (j : Int) := by omega
                  have hne := shr_ne d c j (by rw [hj]; exact HA2.out h)
                  have l1 : decide ((n : Int) ≤ (k : Int)) = false := by simp; omega
                  have l2 : decide ((k : Int) ≤ (n : Int)) = true := by simp; omega
                  have l3 : ((n : Int) == (k : Int)) = false := by simp; omega
                  have j32 : j ≤ 15 := by omega
                  clear hj
                  go_wp2
                  go_roundw
                  case rel => exact ⟨x + 1, by omega, by go_num, HT5.out, HB5.out⟩
                  case measure => simp [intOf]; omega
          · go_wp2
            go_roundw
            case rel => exact ⟨s + 1, by omega, by go_num, HT.out, HB.out⟩
            case measure => simp [intOf]; omega
      · go_wp2_with fail
        refine (hawake_any wr).mono ?_
        rintro e w4 ⟨rfl, hb4⟩
        have HB4 : Hid (Below w.heap.size w w4) := HB.out.trans (hb4.mono HB.out.size)
        clear hb4
        go_wp2
        go_ret
        exact ⟨rfl, HB4.out⟩
end Go.Proofs.Ytpidofgmbjkbiaa
