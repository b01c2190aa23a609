/-
  HuffAll: in a set of codes without a gap every long enough row of bits begins with a code: the walk.
-/
import Derived.Test.YtpidofgmbjkbiaaHufR
namespace Go.Proofs.Ytpidofgmbjkbiaa
open Go.RowKit

/-- Without a gap there is always a code. -/
theorem hit_some (ln : Nat → Nat) (L V : Nat) (hk : kr ln L 15 = 32768) (h15 : lgs ln L ≤ 15) (hno : ∀ j, 1 ≤ j → j ≤ lgs ln L → ¬ Hit ln L V j) : False := by
  have key : ∀ j, j ≤ lgs ln L → fstC ln L j + cnt ln j L ≤ rv V j := by
    intro j
    induction j with
    | zero => intro _; rw [cnt_zero]; exact Nat.le_refl _
    | succ j ih =>
      intro hj
      have h1 := ih (by omega)
      have h2 := hno (j + 1) (by omega) hj
      unfold Hit at h2
      have h3 : fstC ln L (j + 1) ≤ rv V (j + 1) := by rw [fstC, rv]; omega
      omega
  have h1 := key _ (Nat.le_refl _)
  have h2 := fst_kr_all ln L (lgs ln L) h15
  rw [← kr_flat ln L (lgs ln L) 15 h15 (Nat.le_refl _), hk] at h2
  have h3 := rv_lt V (lgs ln L)
  have h4 : 2 ^ lgs ln L * 2 ^ (15 - lgs ln L) = 32768 := by rw [← Nat.pow_add, show lgs ln L + (15 - lgs ln L) = 15 by omega]
  have h5 : (fstC ln L (lgs ln L) + cnt ln (lgs ln L) L) * 2 ^ (15 - lgs ln L) < 2 ^ lgs ln L * 2 ^ (15 - lgs ln L) := Nat.mul_lt_mul_of_pos_right (by omega) (Nat.pow_pos (by decide))
  omega
/-- How many of the first k lengths are above 0. -/
def ncod (ln : Nat → Nat) : Nat → Nat
  | 0 => 0
  | k + 1 => ncod ln k + (if 0 < ln k then 1 else 0)
theorem ncod_le (ln : Nat → Nat) (k : Nat) : ncod ln k ≤ k := by
  induction k with
  | zero => exact Nat.le_refl _
  | succ k ih => rw [ncod]; split <;> omega
theorem ncod_one (ln : Nat → Nat) (k : Nat) (h : ∀ i, i < k → ln i ≤ 1) : ncod ln k = cnt ln 1 k := by
  induction k with
  | zero => rfl
  | succ k ih =>
    have h1 := h k (by omega)
    rw [ncod, cnt, ih (fun i hi => h i (by omega))]
    by_cases h0 : 0 < ln k
    · rw [if_pos h0, if_pos (by omega)]
    · rw [if_neg h0, if_neg (by omega)]
theorem fit_many (ln : Nat → Nat) (L : Nat) (h : Fit ln L) (hn : 1 < ncod ln L) : kr ln L 15 = 32768 := by
  rcases h with h | h | ⟨h, h1⟩
  · exact h
  · exfalso
    have h2 := ncod_one ln L (fun i hi => by have := lgs_ge ln L i hi; omega)
    have h3 := cnt_none ln 1 L (fun i hi => by have := lgs_ge ln L i hi; omega)
    omega
  · exfalso
    have h2 := ncod_one ln L (fun i hi => by have := lgs_ge ln L i hi; omega)
    omega
def leftM (w : World) (rb N : Nat) : Nat := N - (match w.cell? ⟨rb, 1, none⟩ with
  | some v => (intOf v).toNat
  | none => 0)
theorem RBox.left {w : World} {b : Nat} {s : ByteArray} {t : Nat} (h : RBox w b s t) (N : Nat) : leftM w b N = N - t := by
  unfold leftM; rw [h.taken]; simp [intOf]

set_option maxRecDepth 20000 in
set_option maxHeartbeats 4000000 in
theorem all_walk (s : ByteArray) (a : Option Addr) (len cap : Nat) (f : Nat → Int) (w : World) (hf : IntsAt w a len .i64 f) (hn : a = none → len = 0 ∧ cap = 0) (hcap : len ≤ cap) :
    Calls Try.prog 7 #[.slice a len cap, .string s] w fun e w' => e = .returned (.bool true) ∧ Below w.heap.size w w' := by
  have HF := hidM hf
  have HN := hidM hn
  have HCAP := hidM hcap
  obtain ⟨m, hm⟩ : ∃ m, m = min len 400 := ⟨_, rfl⟩
  have HM := hidM hm
  have m400 : m ≤ 400 := by omega
  clear hf hn hcap hm
  go_enter Try.func7, Try.ntmps7
  by_cases h10 : 10 < s.size
  · go_wp2_with fail
    have hS : (s.extract 0 10).size ≤ 10 := by simp; omega
    generalize s.extract 0 10 = S at *
    refine (few_any a len cap m f w HF.out HM.out HN.out HCAP.out).mono ?_
    rintro e w1 ⟨⟨a1, c1, rfl, hf1⟩, hb1⟩
    have HF1 := hidM hf1
    have HB1 := hidM hb1
    clear hf1 hb1
    go_wp2_with fail
    refine (new_any a1 m c1 f w1 HF1.out).mono ?_
    rintro e w2 ⟨hp, hb2⟩
    have HB2 : Hid (Below w.heap.size w w2) := HB1.out.trans (hb2.mono HB1.out.size)
    clear hb2
    have hcase : (∃ r : Int, r ≠ 0 ∧ e = .returned (.tuple #[.pointer none, .int .i64 r])) ∨ (m ≤ 320 ∧ ∃ ln b, (∀ i, i < m → f i = ((ln i : Nat) : Int)) ∧ (∀ i, ln i ≤ 15) ∧ Fit ln m ∧ e = .returned (.tuple #[.pointer (some ⟨b, 0, none⟩), .int .i64 0]) ∧ Tab w2 b ln m) := by
      rcases hp with ⟨_, he⟩ | ⟨_, _, he⟩ | ⟨h3, ln, hfl, h15, ⟨_, he⟩ | ⟨hfit, b, he, ht⟩⟩
      · exact .inl ⟨2, by decide, he⟩
      · exact .inl ⟨1, by decide, he⟩
      · exact .inl ⟨4, by decide, he⟩
      · exact .inr ⟨h3, ln, b, hfl, h15, hfit, he, ht⟩
    clear hp
    rcases hcase with ⟨r, hr, rfl⟩ | ⟨h320, ln, b, hfl, h15, hfit, rfl, htab⟩
    · have hrb : (r != 0) = true := by simpa using hr
      go_wp2_with fail
      refine (hawake_any w2).mono ?_
      rintro e w3 ⟨rfl, hb3⟩
      have HB3 : Hid (Below w.heap.size w w3) := HB2.out.trans (hb3.mono HB2.out.size)
      clear hb3
      go_wp2
      go_ret
      exact ⟨rfl, HB3.out⟩
    · have H15 := hidM h15
      have HFIT := hidM hfit
      have HT := hidM htab
      have HFL := hidM hfl
      clear h15 hfit htab hfl
      go_wp2_with fail
      refine (few_any a len cap m f w2 (HF.out.below HB2.out) HM.out HN.out HCAP.out).mono ?_
      rintro e w3 ⟨⟨a3, c3, rfl, hf3⟩, hb3⟩
      have HB3 : Hid (Below w.heap.size w w3) := HB2.out.trans (hb3.mono HB2.out.size)
      have HBT : Hid (Below w2.heap.size w2 w3) := hb3
      have HF3 := hidM hf3
      clear hb3 hf3
      go_wp2
      go_loopw [7, 9, 34] (fun cd _ i wr => ∃ k y : Nat, k ≤ m ∧ i = .int .i64 k ∧ y = ncod ln k ∧ cd = .int .i64 (y : Int) ∧ wr = w3) (fun _ _ i _ => m - (intOf i).toNat)
      case atStart => exact ⟨0, 0, Nat.zero_le _, rfl, rfl, rfl, rfl⟩
      case round =>
        obtain ⟨k, y, hk, rfl, hy, rfl, rfl⟩ := hrel
        have HY := hidM hy
        have hy4 : y ≤ 400 := by have := ncod_le ln k; omega
        clear hy
        by_cases hlt : k < m
        · obtain ⟨bb, off, rfl, hc⟩ := HF3.out.get k hlt
          rw [HFL.out k hlt] at hc
          have hk15 := H15.out k
          have HNC : Hid (ncod ln (k + 1) = ncod ln k + (if 0 < ln k then 1 else 0)) := rfl
          generalize ln k = n at *
          by_cases hn0 : 0 < n
          · have HN1 : Hid (y + 1 = ncod ln (k + 1)) := by unfold Hid; rw [HNC.out, if_pos hn0, ← HY.out]
            go_wp2
            go_roundw
            case rel => exact ⟨k + 1, y + 1, by omega, by go_num, HN1.out, by go_num, trivial⟩
            case measure => simp [intOf]; omega
          · have HN1 : Hid (y = ncod ln (k + 1)) := by unfold Hid; rw [HNC.out, if_neg hn0, ← HY.out]; rfl
            go_wp2
            go_roundw
            case rel => exact ⟨k + 1, y, by omega, by go_num, HN1.out, rfl, trivial⟩
            case measure => simp [intOf]; omega
        · have HKM : Hid (y = ncod ln m) := by unfold Hid; rw [HY.out, show k = m by omega]
          go_wp2_with fail
          refine (newR_any S _ (by omega)).mono ?_
          rintro e w4 ⟨rfl, hr4, hb4⟩
          have HRB : Hid (w2.heap.size ≤ wr.heap.size) := HBT.out.size
          have HRW : Hid (w.heap.size ≤ wr.heap.size) := HB3.out.size
          have HB4 : Hid (Below w.heap.size w w4) := HB3.out.trans (hb4.mono HB3.out.size)
          have HBT4 : Hid (Below w2.heap.size w2 w4) := HBT.out.trans (hb4.mono HBT.out.size)
          have HR4 := hidM hr4
          clear hr4 hb4 HBT HB3 HF3
          generalize wr.heap.size = rb at *
          by_cases hy1 : 1 < y
          · have HKR : Hid (kr ln m 15 = 32768) := fit_many ln m HFIT.out (by rw [← HKM.out]; exact hy1)
            have HLG : Hid (lgs ln m ≤ 15) := lgs_le ln 15 H15.out m
            go_wp2
            go_loopw [11, 12] (fun _ _ wr => ∃ t l : Nat, t + l = 8 * S.size ∧ RBox wr rb S t ∧ Below w.heap.size w wr ∧ Below w2.heap.size w2 wr) (fun _ _ wr => leftM wr rb 100)
            case atStart => exact ⟨0, 8 * S.size, by omega, HR4.out, HB4.out, HBT4.out⟩
            case round =>
              obtain ⟨t, l, htl, hrx, hbx, hbt⟩ := hrel
              have HTL := hidM htl
              have HRX := hidM hrx
              have HBX := hidM hbx
              have HBTX := hidM hbt
              have l80 : l ≤ 80 := by omega
              have t80 : t ≤ 80 := by omega
              clear htl hrx hbx hbt HR4 HB4 HBT4
              go_wp2_with fail
              refine (left_any rb S t l _ HRX.out (by omega) HTL.out).mono ?_
              rintro e w5 ⟨rfl, m5, rfl⟩
              by_cases hl15 : 15 ≤ l
              · go_wp2_with fail
                refine (read_any w2 b rb ln m S t l _ HT.out (below_drewN HBTX.out _) HRB.out (HRX.out.drewN _) (by omega) HTL.out h320 H15.out (by rw [HKR.out]; exact Nat.le_refl _)).mono ?_
                rintro e w6 ⟨⟨d, hpost, hr6⟩, ho6⟩
                have hok : ∃ sy : Nat, e = .returned (.tuple #[.int .i64 (sy : Int), .int .i64 0]) ∧ 0 < d ∧ d ≤ l := by
                  rcases hpost with ⟨sy, _, h0, hll, _, he, hd⟩ | ⟨hlt, _⟩ | ⟨_, hno, _⟩
                  · exact ⟨sy, he, by omega, by omega⟩
                  · have := HLG.out; omega
                  · exact absurd hno (fun hno => hit_some ln m _ HKR.out HLG.out hno)
                obtain ⟨sy, rfl, hd0, hdl⟩ := hok
                have HR6 := hidM hr6
                have HB6 : Hid (Below w.heap.size w w6) := (below_drewN HBX.out _).trans (ho6.below (by have := HRW.out; omega))
                have HBT6 : Hid (Below w2.heap.size w2 w6) := (below_drewN HBTX.out _).trans (ho6.below HRB.out)
                have HM6 := hidM (hr6.left 100)
                have HM5 := hidM (HRX.out.left 100)
                clear hpost hr6 ho6
                go_wp2
                refine ⟨⟨t + d, l - d, by have := HTL.out; omega, HR6.out, HB6.out, HBT6.out⟩, ?_⟩
                rw [HM6.out, HM5.out]
                omega
              · have hlb : decide ((15 : Int) ≤ (l : Int)) = false := by simp; omega
                go_wp2_with fail
                refine (hawake_any _).mono ?_
                rintro e w6 ⟨rfl, hb6⟩
                have HB6 : Hid (Below w.heap.size w w6) := (below_drewN HBX.out _).trans (hb6.mono (below_drewN HBX.out m5).size)
                clear hb6
                go_wp2
                go_ret
                exact ⟨rfl, HB6.out⟩
          · go_wp2
            refine wp_loop_rounds 1 ?_
            rw [rounds_succ]
            go_wp2_with fail
            refine (hawake_any _).mono ?_
            rintro e w6 ⟨rfl, hb6⟩
            have HB6 : Hid (Below w.heap.size w w6) := HB4.out.trans (hb6.mono HB4.out.size)
            clear hb6
            go_wp2
            go_ret
            exact ⟨rfl, HB6.out⟩
  · have hS : s.size ≤ 10 := by omega
    clear h10
    go_wp2_with fail
    refine (few_any a len cap m f w HF.out HM.out HN.out HCAP.out).mono ?_
    rintro e w1 ⟨⟨a1, c1, rfl, hf1⟩, hb1⟩
    have HF1 := hidM hf1
    have HB1 := hidM hb1
    clear hf1 hb1
    go_wp2_with fail
    refine (new_any a1 m c1 f w1 HF1.out).mono ?_
    rintro e w2 ⟨hp, hb2⟩
    have HB2 : Hid (Below w.heap.size w w2) := HB1.out.trans (hb2.mono HB1.out.size)
    clear hb2
    have hcase : (∃ r : Int, r ≠ 0 ∧ e = .returned (.tuple #[.pointer none, .int .i64 r])) ∨ (m ≤ 320 ∧ ∃ ln b, (∀ i, i < m → f i = ((ln i : Nat) : Int)) ∧ (∀ i, ln i ≤ 15) ∧ Fit ln m ∧ e = .returned (.tuple #[.pointer (some ⟨b, 0, none⟩), .int .i64 0]) ∧ Tab w2 b ln m) := by
      rcases hp with ⟨_, he⟩ | ⟨_, _, he⟩ | ⟨h3, ln, hfl, h15, ⟨_, he⟩ | ⟨hfit, b, he, ht⟩⟩
      · exact .inl ⟨2, by decide, he⟩
      · exact .inl ⟨1, by decide, he⟩
      · exact .inl ⟨4, by decide, he⟩
      · exact .inr ⟨h3, ln, b, hfl, h15, hfit, he, ht⟩
    clear hp
    rcases hcase with ⟨r, hr, rfl⟩ | ⟨h320, ln, b, hfl, h15, hfit, rfl, htab⟩
    · have hrb : (r != 0) = true := by simpa using hr
      go_wp2_with fail
      refine (hawake_any w2).mono ?_
      rintro e w3 ⟨rfl, hb3⟩
      have HB3 : Hid (Below w.heap.size w w3) := HB2.out.trans (hb3.mono HB2.out.size)
      clear hb3
      go_wp2
      go_ret
      exact ⟨rfl, HB3.out⟩
    · have H15 := hidM h15
      have HFIT := hidM hfit
      have HT := hidM htab
      have HFL := hidM hfl
      clear h15 hfit htab hfl
      go_wp2_with fail
      refine (few_any a len cap m f w2 (HF.out.below HB2.out) HM.out HN.out HCAP.out).mono ?_
      rintro e w3 ⟨⟨a3, c3, rfl, hf3⟩, hb3⟩
      have HB3 : Hid (Below w.heap.size w w3) := HB2.out.trans (hb3.mono HB2.out.size)
      have HBT : Hid (Below w2.heap.size w2 w3) := hb3
      have HF3 := hidM hf3
      clear hb3 hf3
      go_wp2
      go_loopw [7, 9, 34] (fun cd _ i wr => ∃ k y : Nat, k ≤ m ∧ i = .int .i64 k ∧ y = ncod ln k ∧ cd = .int .i64 (y : Int) ∧ wr = w3) (fun _ _ i _ => m - (intOf i).toNat)
      case atStart => exact ⟨0, 0, Nat.zero_le _, rfl, rfl, rfl, rfl⟩
      case round =>
        obtain ⟨k, y, hk, rfl, hy, rfl, rfl⟩ := hrel
        have HY := hidM hy
        have hy4 : y ≤ 400 := by have := ncod_le ln k; omega
        clear hy
        by_cases hlt : k < m
        · obtain ⟨bb, off, rfl, hc⟩ := HF3.out.get k hlt
          rw [HFL.out k hlt] at hc
          have hk15 := H15.out k
          have HNC : Hid (ncod ln (k + 1) = ncod ln k + (if 0 < ln k then 1 else 0)) := rfl
          generalize ln k = n at *
          by_cases hn0 : 0 < n
          · have HN1 : Hid (y + 1 = ncod ln (k + 1)) := by unfold Hid; rw [HNC.out, if_pos hn0, ← HY.out]
            go_wp2
            go_roundw
            case rel => exact ⟨k + 1, y + 1, by omega, by go_num, HN1.out, by go_num, trivial⟩
            case measure => simp [intOf]; omega
          · have HN1 : Hid (y = ncod ln (k + 1)) := by unfold Hid; rw [HNC.out, if_neg hn0, ← HY.out]; rfl
            go_wp2
            go_roundw
            case rel => exact ⟨k + 1, y, by omega, by go_num, HN1.out, rfl, trivial⟩
            case measure => simp [intOf]; omega
        · have HKM : Hid (y = ncod ln m) := by unfold Hid; rw [HY.out, show k = m by omega]
          go_wp2_with fail
          refine (newR_any s _ (by omega)).mono ?_
          rintro e w4 ⟨rfl, hr4, hb4⟩
          have HRB : Hid (w2.heap.size ≤ wr.heap.size) := HBT.out.size
          have HRW : Hid (w.heap.size ≤ wr.heap.size) := HB3.out.size
          have HB4 : Hid (Below w.heap.size w w4) := HB3.out.trans (hb4.mono HB3.out.size)
          have HBT4 : Hid (Below w2.heap.size w2 w4) := HBT.out.trans (hb4.mono HBT.out.size)
          have HR4 := hidM hr4
          clear hr4 hb4 HBT HB3 HF3
          generalize wr.heap.size = rb at *
          by_cases hy1 : 1 < y
          · have HKR : Hid (kr ln m 15 = 32768) := fit_many ln m HFIT.out (by rw [← HKM.out]; exact hy1)
            have HLG : Hid (lgs ln m ≤ 15) := lgs_le ln 15 H15.out m
            go_wp2
            go_loopw [11, 12] (fun _ _ wr => ∃ t l : Nat, t + l = 8 * s.size ∧ RBox wr rb s t ∧ Below w.heap.size w wr ∧ Below w2.heap.size w2 wr) (fun _ _ wr => leftM wr rb 100)
            case atStart => exact ⟨0, 8 * s.size, by omega, HR4.out, HB4.out, HBT4.out⟩
            case round =>
              obtain ⟨t, l, htl, hrx, hbx, hbt⟩ := hrel
              have HTL := hidM htl
              have HRX := hidM hrx
              have HBX := hidM hbx
              have HBTX := hidM hbt
              have l80 : l ≤ 80 := by omega
              have t80 : t ≤ 80 := by omega
              clear htl hrx hbx hbt HR4 HB4 HBT4
              go_wp2_with fail
              refine (left_any rb s t l _ HRX.out (by omega) HTL.out).mono ?_
              rintro e w5 ⟨rfl, m5, rfl⟩
              by_cases hl15 : 15 ≤ l
              · go_wp2_with fail
                refine (read_any w2 b rb ln m s t l _ HT.out (below_drewN HBTX.out _) HRB.out (HRX.out.drewN _) (by omega) HTL.out h320 H15.out (by rw [HKR.out]; exact Nat.le_refl _)).mono ?_
                rintro e w6 ⟨⟨d, hpost, hr6⟩, ho6⟩
                have hok : ∃ sy : Nat, e = .returned (.tuple #[.int .i64 (sy : Int), .int .i64 0]) ∧ 0 < d ∧ d ≤ l := by
                  rcases hpost with ⟨sy, _, h0, hll, _, he, hd⟩ | ⟨hlt, _⟩ | ⟨_, hno, _⟩
                  · exact ⟨sy, he, by omega, by omega⟩
                  · have := HLG.out; omega
                  · exact absurd hno (fun hno => hit_some ln m _ HKR.out HLG.out hno)
                obtain ⟨sy, rfl, hd0, hdl⟩ := hok
                have HR6 := hidM hr6
                have HB6 : Hid (Below w.heap.size w w6) := (below_drewN HBX.out _).trans (ho6.below (by have := HRW.out; omega))
                have HBT6 : Hid (Below w2.heap.size w2 w6) := (below_drewN HBTX.out _).trans (ho6.below HRB.out)
                have HM6 := hidM (hr6.left 100)
                have HM5 := hidM (HRX.out.left 100)
                clear hpost hr6 ho6
                go_wp2
                refine ⟨⟨t + d, l - d, by have := HTL.out; omega, HR6.out, HB6.out, HBT6.out⟩, ?_⟩
                rw [HM6.out, HM5.out]
                omega
              · have hlb : decide ((15 : Int) ≤ (l : Int)) = false := by simp; omega
                go_wp2_with fail
                refine (hawake_any _).mono ?_
                rintro e w6 ⟨rfl, hb6⟩
                have HB6 : Hid (Below w.heap.size w w6) := (below_drewN HBX.out _).trans (hb6.mono (below_drewN HBX.out m5).size)
                clear hb6
                go_wp2
                go_ret
                exact ⟨rfl, HB6.out⟩
          · go_wp2
            refine wp_loop_rounds 1 ?_
            rw [rounds_succ]
            go_wp2_with fail
            refine (hawake_any _).mono ?_
            rintro e w6 ⟨rfl, hb6⟩
            have HB6 : Hid (Below w.heap.size w w6) := HB4.out.trans (hb6.mono HB4.out.size)
            clear hb6
            go_wp2
            go_ret
            exact ⟨rfl, HB6.out⟩
end Go.Proofs.Ytpidofgmbjkbiaa
