/-
  The document's Sizes.
-/
import Derived.Test.YtekpdnlogfaggaaDltG
namespace Go.Proofs.Ytekpdnlogfaggaa
open Go.RowKit

theorem ret_three {a b c d e f : Int} (h : a = b) (g : c = d) (k : e = f) : Ending.returned (.tuple #[.int .i64 a, .int .i64 c, .int .i64 e]) = .returned (.tuple #[.int .i64 b, .int .i64 d, .int .i64 f]) := by rw [h, g, k]

set_option maxHeartbeats 1600000 in
set_option maxRecDepth 20000 in
theorem rsize_any (s : ByteArray) (t : Nat) (w : World) (hs : s.size ≤ 100000000000) (ht : t ≤ s.size) :
    Calls Try.prog 20 #[.string s, .int .i64 (t : Int)] w fun e w' => e = .returned (.tuple #[.int .i64 ((szL s t 5 0 0).1 : Nat), .int .i64 ((szL s t 5 0 0).2.1 : Nat), .int .i64 ((szL s t 5 0 0).2.2 : Nat)]) ∧ w' = w := by
  go_enter Try.func20, Try.ntmps20
  go_wp2_with fail
  go_loopw [7, 8, 9] (fun v u i wr => ∃ (k n U : Nat), k ≤ 5 ∧ t + k ≤ s.size ∧ n < 2 ^ (7 * k) ∧ U = 2 ^ (7 * k) ∧ i = .int .i64 k ∧ v = .int .i64 n ∧ u = .int .i64 U ∧ wr = w ∧ szL s t 5 0 0 = szL s t (5 - k) k n) (fun _ _ i _ => 5 - (intOf i).toNat)
  case atStart => exact ⟨0, 0, 1, by decide, ht, by decide, rfl, rfl, rfl, rfl, rfl, rfl⟩
  case round =>
    obtain ⟨k, n, U, hk, hkt, hn, hU, rfl, rfl, rfl, rfl, hz⟩ := hrel
    have HZ := hidM hz
    have HU := hidM hU
    have U35 : U ≤ 34359738368 := by
      rw [hU]; exact Nat.le_trans (Nat.pow_le_pow_right (by decide) (show 7 * k ≤ 35 by omega)) (by decide)
    have HN := hidM hn
    obtain ⟨y, hy⟩ : ∃ y, t + k = y := ⟨_, rfl⟩
    have hy' : (t : Int) + k = (y : Int) := by omega
    have HY := hidM hy
    by_cases hlt : t + k < s.size
    · obtain ⟨c, hc⟩ : ∃ c, s[t + k].toNat = c := ⟨_, rfl⟩
      have c256 : c < 256 := by rw [← hc]; exact s[t + k].toNat_lt
      have HC := hidM hc
      have hys : y < s.size := by omega
      have hcy : (s[y].toNat : Int) = (c : Int) := by subst hy; omega
      have hlt' : (y : Int) < s.size := by omega
      have hge : ¬ (s.size : Int) ≤ y := by omega
      by_cases h5 : k = 5
      · subst h5
        have HF := hidM (show szL s t 5 0 0 = (0, 0, 3) by rw [hz, Nat.sub_self, szL, if_pos hlt])
        clear hz hU hn hy HZ hcy hc HC
        go_wp2
        go_ret3
        rw [HF.out]
        exact ⟨rfl, rfl⟩
      · obtain ⟨q, hq⟩ : ∃ q, q = c % 128 := ⟨_, rfl⟩
        obtain ⟨m, hm⟩ : ∃ m, m = q * U := ⟨_, rfl⟩
        obtain ⟨n2, hn2⟩ : ∃ n2, n2 = n + m := ⟨_, rfl⟩
        obtain ⟨U2, hU2⟩ : ∃ U2, U2 = 128 * U := ⟨_, rfl⟩
        have h51 : ¬ (k : Int) = 5 := by omega
        have h52 : (c : Int).tmod 128 = (q : Int) := by rw [Int.tmod_eq_emod_of_nonneg (by omega)]; omega
        have q1' : q < 128 := by omega
        have hn3 := size_lt n q k hn q1'
        rw [← hU, ← hm, ← hn2] at hn3
        have hn35 : n2 < 34359738368 := Nat.lt_of_lt_of_le hn3 (Nat.le_trans (Nat.pow_le_pow_right (by decide) (show 7 * (k + 1) ≤ 35 by omega)) (by decide))
        have h53 : (q : Int) * U = (m : Int) := by rw [hm]; simp
        have h54 : (n : Int) + m = (n2 : Int) := by omega
        have h55 : (128 : Int) * U = (U2 : Int) := by omega
        have U28 : U2 ≤ 34359738368 := by
          rw [hU2, hU, show 128 * 2 ^ (7 * k) = 2 ^ (7 * (k + 1)) by rw [show 7 * (k + 1) = 7 + 7 * k by omega, Nat.pow_add]]
          exact Nat.le_trans (Nat.pow_le_pow_right (by decide) (show 7 * (k + 1) ≤ 35 by omega)) (by decide)
        have HU2 := hidM (show U2 = 2 ^ (7 * (k + 1)) by rw [hU2, hU, show 7 * (k + 1) = 7 + 7 * k by omega, Nat.pow_add])
        have HN3 := hidM hn3
        have m35 : m < 34359738368 := by omega
        have nn35 : n < 34359738368 := by omega
        have HFL := hidM (show c < 128 → szL s t 5 0 0 = (n2, y + 1, 0) by
          intro hl
          rw [hz, show 5 - k = (4 - k) + 1 by omega, szL_last s t _ k n c hlt hc hl, ← hU, hn2, hm, hq, Nat.mod_eq_of_lt hl, hy])
        have HFM := hidM (show ¬ c < 128 → szL s t 5 0 0 = szL s t (5 - (k + 1)) (k + 1) n2 by
          intro hl
          rw [hz, show 5 - k = (5 - (k + 1)) + 1 by omega, szL_more s t _ k n c hlt hc hl, ← hU, hn2, hm, hq])
        clear hz hU hn hy HZ hc HC hq hm hn2 hU2 hn3 HN HU
        by_cases hl : c < 128
        · have hl1 : (c : Int) < 128 := by omega
          go_wp2
          go_ret3
          rw [HFL.out hl]
          exact ⟨rfl, rfl⟩
        · have hl1 : ¬ (c : Int) < 128 := by omega
          go_wp2
          refine ⟨⟨k + 1, n2, U2, by omega, by omega, HN3.out, HU2.out, rfl, rfl, rfl, trivial, HFM.out hl⟩, ?_⟩
          simp [intOf]; omega
    · have hge : (s.size : Int) ≤ y := by omega
      have HF := hidM (show szL s t 5 0 0 = (0, 0, 6) by rw [hz]; exact szL_no s t _ k n hlt)
      clear hz hU hn hy HZ
      go_wp2
      go_ret3
      rw [HF.out]
      exact ⟨rfl, rfl⟩

theorem results_tmp4 {fn : Func} {t u v x : Tmp} {P : Program} (h : fn.results = #[.tmp t, .tmp u, .tmp v, .tmp x]) (tmps : Array Value) (w : World) :
    (results fn tmps).run P w = .ok (.tuple #[tmps.getD t undef, tmps.getD u undef, tmps.getD v undef, tmps.getD x undef]) w := by
  simp only [results, h]
  simp
set_option maxHeartbeats 800000 in
theorem rsizes_any (s : ByteArray) (w : World) (hs : s.size ≤ 100000000000) :
    Calls Try.prog 12 #[.string s] w fun e w' => e = .returned (.tuple #[.int .i64 ((sizesL s).1 : Nat), .int .i64 ((sizesL s).2.1 : Nat), .int .i64 ((sizesL s).2.2.1 : Nat), .int .i64 ((sizesL s).2.2.2 : Nat)]) ∧ w' = w := by
  have hle := szL_le s 0 5 0 0
  have hS : sizesL s = if (szL s 0 5 0 0).2.2 = 0 then
    (if (szL s (szL s 0 5 0 0).2.1 5 0 0).2.2 = 0 then ((szL s 0 5 0 0).1, (szL s (szL s 0 5 0 0).2.1 5 0 0).1, (szL s (szL s 0 5 0 0).2.1 5 0 0).2.1, 0)
    else (0, 0, 0, (szL s (szL s 0 5 0 0).2.1 5 0 0).2.2))
  else (0, 0, 0, (szL s 0 5 0 0).2.2) := rfl
  have c1 := rsize_any s 0 w hs (Nat.zero_le _)
  obtain ⟨r, hr⟩ : ∃ r, szL s 0 5 0 0 = r := ⟨_, rfl⟩
  rw [hr] at hle hS c1
  clear hr
  obtain ⟨a, t, er⟩ := r
  simp only at hle hS c1
  go_enter Try.func12, Try.ntmps12
  go_wp2_with fail
  refine c1.mono ?_
  rintro e w1 ⟨rfl, hw⟩
  rw [hw]
  clear hw c1
  have HS := hidM hS
  clear hS
  by_cases her : er = 0
  · have H2 := hidM (HS.out.trans (if_pos her))
    clear HS
    subst her
    have c2 := rsize_any s t w hs hle
    obtain ⟨r, hr⟩ : ∃ r, szL s t 5 0 0 = r := ⟨_, rfl⟩
    rw [hr] at c2 H2
    clear hr
    obtain ⟨b, u, er⟩ := r
    simp only at c2
    go_wp2_with fail
    refine c2.mono ?_
    rintro e w2 ⟨rfl, hw⟩
    rw [hw]
    clear hw c2
    by_cases her : er = 0
    · have H3 := hidM (H2.out.trans (if_pos her))
      clear H2
      subst her
      go_wp2
      refine bodyPost_ret (results_tmp4 rfl _ _) rfl ?_
      rw [H3.out]
      exact ⟨rfl, rfl⟩
    · have H3 := hidM (H2.out.trans (if_neg her))
      have her' : ¬ (er : Int) = 0 := by omega
      clear H2
      go_wp2
      refine bodyPost_ret (results_tmp4 rfl _ _) rfl ?_
      rw [H3.out]
      exact ⟨rfl, rfl⟩
  · have H3 := hidM (HS.out.trans (if_neg her))
    have her' : ¬ (er : Int) = 0 := by omega
    clear HS
    go_wp2
    refine bodyPost_ret (results_tmp4 rfl _ _) rfl ?_
    rw [H3.out]
    exact ⟨rfl, rfl⟩
end Go.Proofs.Ytekpdnlogfaggaa
