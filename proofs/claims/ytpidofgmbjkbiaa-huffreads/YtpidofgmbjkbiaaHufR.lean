/-
  Walks of huff: Read.
-/
import Derived.Test.YtpidofgmbjkbiaaHufE
import Derived.Test.YtpidofgmbjkbiaaBitA
namespace Go.Proofs.Ytpidofgmbjkbiaa
open Go.RowKit

/-- The first n bits of V, the first the highest. -/
def rv (V : Nat) : Nat → Nat
  | 0 => 0
  | n + 1 => 2 * rv V n + V / 2 ^ n % 2
theorem rv_lt (V n : Nat) : rv V n < 2 ^ n := by
  induction n with
  | zero => rw [rv]; decide
  | succ n ih => rw [rv, Nat.pow_succ]; have := Nat.mod_lt (V / 2 ^ n) (show 0 < 2 by decide); omega
theorem bit_mod (V k i : Nat) (h : i < k) : V % 2 ^ k / 2 ^ i % 2 = V / 2 ^ i % 2 := by
  rw [show 2 ^ k = 2 ^ i * 2 ^ (k - i) by rw [← Nat.pow_add]; congr 1; omega, Nat.mod_mul_right_div_self, show 2 ^ (k - i) = 2 * 2 ^ (k - i - 1) by rw [Nat.mul_comm, ← Nat.pow_succ]; congr 1; omega, Nat.mod_mul_right_mod]
theorem rv_mod (V k n : Nat) (h : n ≤ k) : rv (V % 2 ^ k) n = rv V n := by
  induction n with
  | zero => rfl
  | succ n ih => rw [rv, rv, ih (by omega), bit_mod V k n (by omega)]
/-- The bits so far are a code of length n. -/
def Hit (ln : Nat → Nat) (L V n : Nat) : Prop := fstC ln L n ≤ rv V n ∧ rv V n < fstC ln L n + cnt ln n L
theorem cnt_at (ln : Nat → Nat) (n i : Nat) : ∀ L, i < cnt ln n L → ∃ s, s < L ∧ ln s = n ∧ 0 < n ∧ cnt ln n s = i
  | 0, h => by simp [cnt] at h
  | L + 1, h => by
    by_cases hi : i < cnt ln n L
    · obtain ⟨s, h1, h2⟩ := cnt_at ln n i L hi
      exact ⟨s, by omega, h2⟩
    · rw [cnt] at h
      by_cases hc : ln L = n ∧ 0 < n
      · rw [if_pos hc] at h
        exact ⟨L, by omega, hc.1, hc.2, by omega⟩
      · rw [if_neg hc] at h; omega
theorem hit_of (ln : Nat → Nat) (L V s : Nat) (hs : s < L) (h0 : 0 < ln s) (h : rv V (ln s) = codeC ln L s) : Hit ln L V (ln s) := by
  have h1 := cnt_lt ln hs h0
  unfold codeC at h
  rw [if_neg (by omega)] at h
  unfold Hit
  omega
/-- What Read answers, of bits V of which l are there. -/
def ReadPost (ln : Nat → Nat) (L V l : Nat) (e : Ending) (d : Nat) : Prop :=
  (∃ s, s < L ∧ 0 < ln s ∧ ln s ≤ l ∧ rv V (ln s) = codeC ln L s ∧ e = .returned (.tuple #[.int .i64 (s : Int), .int .i64 0]) ∧ d = ln s) ∨
  (l < lgs ln L ∧ (∀ j, 1 ≤ j → j ≤ l → ¬ Hit ln L V j) ∧ e = .returned (.tuple #[.int .i64 0, .int .i64 6]) ∧ d = 0) ∨
  (lgs ln L ≤ l ∧ (∀ j, 1 ≤ j → j ≤ lgs ln L → ¬ Hit ln L V j) ∧ e = .returned (.tuple #[.int .i64 0, .int .i64 3]) ∧ d = 0)
theorem or_bit (y q : Nat) (hy : y < 32768) : bits .or .u32 ((y : Int) * 2) (bits .and .u32 (q : Int) 1) = ((2 * y + q % 2 : Nat) : Int) ∨ ¬ q < 4294967296 := by
  by_cases hq : q < 4294967296
  · left
    have e1 : (y : Int) * 2 = ((y * 2 : Nat) : Int) := by omega
    rw [show (1 : Int) = ((1 : Nat) : Int) from rfl, u32_and_nat _ _ hq (by decide), Nat.and_one_is_mod, e1, u32_or_nat _ _ (by omega) (by omega)]
    have h := or_add (q % 2) y 1 (by omega)
    rw [Nat.or_comm, show y * 2 ^ 1 = y * 2 from rfl] at h
    rw [h]
    omega
  · exact .inr hq
theorem sub_u32 (y F C : Nat) (hy : y ≤ 65536) (hF : F + C ≤ 32768) : ∃ K : Nat, IntKind.u32.wrap ((y : Int) - (F : Int)) = (K : Int) ∧ ((y : Int) - (F : Int)) % 4294967296 = (K : Int) ∧ (K < C ↔ F ≤ y ∧ y < F + C) ∧ (F ≤ y → K = y - F) := by
  by_cases h : F ≤ y
  · exact ⟨y - F, by rw [IntKind.wrap_u32']; omega, by omega, by omega, by omega⟩
  · exact ⟨4294967296 + y - F, by rw [IntKind.wrap_u32']; omega, by omega, by omega, by omega⟩

set_option maxHeartbeats 2000000 in
theorem read_any (w0 : World) (b rb : Nat) (ln : Nat → Nat) (L : Nat) (X : ByteArray) (t l : Nat) (w : World) (hT : Tab w0 b ln L) (hw0 : Below w0.heap.size w0 w) (hrb : w0.heap.size ≤ rb) (hr : RBox w rb X t) (hX : X.size ≤ 1000000) (htl : t + l = 8 * X.size)
    (hL : L ≤ 320) (h15 : ∀ i, ln i ≤ 15) (hkr : kr ln L 15 ≤ 32768) :
    Calls Try.prog 20 #[.pointer (some ⟨b, 0, none⟩), .pointer (some ⟨rb, 0, none⟩)] w fun e w' => (∃ d, ReadPost ln L (le X.data.toList / 2 ^ t) l e d ∧ RBox w' rb X (t + d)) ∧ Only rb w w' := by
  obtain ⟨V, hV⟩ : ∃ V, V = le X.data.toList / 2 ^ t := ⟨_, rfl⟩
  rw [← hV]
  have HT := hidM hT
  have HW := hidM hw0
  have HRB := hidM hrb
  have HR := hidM hr
  have HTL := hidM htl
  have H15 := hidM h15
  have HTW := hT.below hw0
  obtain ⟨g, gs, gc, gg, M, hg, hrows, hM, e48, e49, e50⟩ := HTW
  have HGT := hidM hg.tab
  have HRW := hidM hrows
  have c48 := hg.tab.cell 48 (by decide)
  rw [e48] at c48
  have hlg : lgs ln L ≤ 15 := lgs_le ln 15 h15 L
  obtain ⟨lg, hlgd⟩ : ∃ lg, lg = lgs ln L := ⟨_, rfl⟩
  rw [← hlgd] at c48 hlg
  have HLG := hidM hlgd
  obtain ⟨kk, hkk⟩ : ∃ kk, kk = min lg l := ⟨_, rfl⟩
  have HKK := hidM hkk
  have hkl : kk ≤ l := by omega
  have hkg : kk ≤ lg := by omega
  have HBV : Hid (bitsN X.data.toList t kk = V % 2 ^ kk) := by unfold Hid bitsN; rw [hV]
  clear hT hw0 hrb hr htl h15 hg hrows hM e48 e49 e50 hlgd hkk hV
  go_enter Try.func20, Try.ntmps20
  go_wp2_with fail
  refine (peek_any rb X t l lg kk w HR.out (by omega) HTL.out (by omega) HKK.out).mono ?_
  rintro e w1 ⟨rfl, m1, rfl⟩
  rw [HBV.out]
  have HU1 : Hid (∀ n, n ≤ kk → rv (V % 2 ^ kk) n = rv V n) := fun n hn => rv_mod V kk n hn
  have HU2 : Hid (V % 2 ^ kk < 32768) := Nat.lt_of_lt_of_le (Nat.mod_lt _ (Nat.pow_pos (by decide))) (show 2 ^ kk ≤ 2 ^ 15 from Nat.pow_le_pow_right (by decide) (by omega))
  generalize V % 2 ^ kk = U at *
  go_wp2
  go_loopw [6, 8, 9, 10] (fun nx bg i _ wr => ∃ n q y m : Nat, n ≤ lg ∧ n ≤ kk ∧ i = .int .i64 ((n : Int) + 1) ∧ q = U / 2 ^ n ∧ nx = .int .u32 (q : Int) ∧ y = rv V n ∧ bg = .int .u32 (y : Int) ∧ (∀ j, 1 ≤ j → j ≤ n → ¬ Hit ln L V j) ∧ wr = w.drewN m) (fun _ _ i _ _ => 20 - (intOf i).toNat)
  case atStart => exact ⟨0, U, 0, m1, Nat.zero_le _, Nat.zero_le _, rfl, by simp, rfl, rfl, rfl, fun j h1 h2 => by omega, rfl⟩
  case round =>
    obtain ⟨n, q, y, m, hn, hnk, rfl, hq, rfl, hy, rfl, hno, rfl⟩ := hrel
    have HQ := hidM hq
    have HY := hidM hy
    have HNO := hidM hno
    have hq2 : q < 32768 := by rw [hq]; exact Nat.lt_of_le_of_lt (Nat.div_le_self _ _) HU2.out
    have hy2 : y < 32768 := by
      rw [hy]
      exact Nat.lt_of_lt_of_le (rv_lt V n) (show 2 ^ n ≤ 2 ^ 15 from Nat.pow_le_pow_right (by decide) (by omega))
    clear hq hy hno
    by_cases hend : n < lg
    · by_cases hav : n < kk
      · have HB1 : Hid (2 * y + q % 2 = rv V (n + 1)) := by
          unfold Hid
          have h1 := HU1.out (n + 1) (by omega)
          rw [rv, HU1.out n (by omega), ← HQ.out, ← HY.out] at h1
          exact h1
        obtain ⟨z, hz⟩ : ∃ z, z = 2 * y + q % 2 := ⟨_, rfl⟩
        have eor : bits .or .u32 ((y : Int) * 2) (bits .and .u32 (q : Int) 1) = (z : Int) := by
          rcases or_bit y q hy2 with h | h
          · rw [h, hz]
          · omega
        have HZ : Hid (z = rv V (n + 1)) := by unfold Hid; rw [hz, HB1.out]
        have hz2 : z ≤ 65536 := by omega
        obtain ⟨p, hp⟩ : ∃ p, p = n + 1 := ⟨_, rfl⟩
        have HP := hidM hp
        have ep : (n : Int) + 1 = (p : Int) := by omega
        have p15 : p ≤ 15 := by omega
        have hfc := code_fits ln L p p15 hkr
        have h2p : 2 ^ p ≤ 2 ^ 15 := Nat.pow_le_pow_right (by decide) p15
        have cF : w.cell? ⟨b, p * 3, none⟩ = some (.int .u32 ((fstC ln L p : Nat) : Int)) := (HGT.out.cell (p * 3) (by omega)).trans (by rw [(HRW.out p (by omega)).1])
        have cC : w.cell? ⟨b, p * 3 + 1, none⟩ = some (.int .u32 ((cnt ln p L : Nat) : Int)) := (HGT.out.cell (p * 3 + 1) (by omega)).trans (by rw [(HRW.out p (by omega)).2.1])
        obtain ⟨K, k1, k2, k3, k4⟩ := sub_u32 z (fstC ln L p) (cnt ln p L) hz2 (by simp at h2p; omega)
        have HHit : Hid (Hit ln L V p ↔ K < cnt ln p L) := by
          unfold Hid Hit
          rw [HP.out, ← HZ.out, ← HP.out]
          exact k3.symm
        have HK4 := hidM k4
        obtain ⟨F, hF⟩ : ∃ F, F = fstC ln L p := ⟨_, rfl⟩
        obtain ⟨C, hC⟩ : ∃ C, C = cnt ln p L := ⟨_, rfl⟩
        rw [← hF] at cF k1 k2 HK4 hfc
        rw [← hC] at cC HHit hfc
        have HF := hidM hF
        have HC := hidM hC
        simp only [ep]
        have b2 : (p : Int) < 16 := by omega
        have b3 : (p : Int) ≤ (lg : Int) := by omega
        have b4 : (p : Int) ≤ (kk : Int) := by omega
        clear hz hp hF hC k3 k4 ep
        by_cases hK : K < C
        · obtain ⟨s, hsL, hsn, hsp, hsi⟩ := cnt_at ln p K L (by rw [← HC.out]; exact hK)
          have hFz : F ≤ z ∧ z < F + C := by
            have h1 := HHit.out.2 hK
            unfold Hit at h1
            rw [HP.out, ← HZ.out, ← HP.out, ← HF.out, ← HC.out] at h1
            exact h1
          have hKz := HK4.out hFz.1
          have HPOST : Hid (0 < ln s ∧ ln s ≤ l ∧ rv V (ln s) = codeC ln L s ∧ p = ln s) := by
            refine ⟨by omega, by rw [hsn]; omega, ?_, hsn.symm⟩
            unfold codeC
            rw [hsn, if_neg (by omega), hsi, ← HF.out, HP.out, ← HZ.out]
            omega
          have HSY : Hid (0 < ln s ∧ atC ln L (ln s) + cnt ln (ln s) s = atC ln L p + K) := by unfold Hid; rw [hsn, hsi]; exact ⟨hsp, rfl⟩
          have hpl : p ≤ l := by omega
          clear hsn hsp hsi hFz hKz
          go_wp2_with fail
          refine (skip_yes rb X t l p (w.drewN m) (HR.out.drewN m) (by omega) HTL.out (by omega) hpl).mono ?_
          rintro e w2 ⟨rfl, m2, rfl⟩
          have HR2 := hidM ((HR.out.drewN m).put m2 p)
          have HO2 : Hid (Only rb w (((w.drewN m).drewN m2).setCell ⟨rb, 1, none⟩ (.int .i64 ((t + p : Nat) : Int)))) := (((Only.refl rb w).drewN m).drewN m2).setCell _ _
          generalize ((w.drewN m).drewN m2).setCell ⟨rb, 1, none⟩ (.int .i64 ((t + p : Nat) : Int)) = w2 at *
          have hT2 := HT.out.below (HW.out.trans (HO2.out.below HRB.out))
          obtain ⟨g', gs', gc', gg', M', hg', hrows', hM', _, e49', _⟩ := hT2
          obtain ⟨hs, hs1, hs2⟩ := hg'.sym
          have c49 := hg'.tab.cell 49 (by decide)
          rw [e49'] at c49
          have cA : w2.cell? ⟨b, p * 3 + 2, none⟩ = some (.int .u32 ((atC ln L p : Nat) : Int)) := (hg'.tab.cell (p * 3 + 2) (by omega)).trans (by rw [(hrows' p (by omega)).2.2])
          have hAM : atC ln L p + K < M' := by
            have h1 := at_total ln L p p15
            have := HC.out
            omega
          have hMl : M' ≤ 10000 := by
            have h1 := atC_le ln L 15
            have h3 := cnt_le ln 15 L
            omega
          have cS := hs1.cell (atC ln L p + K) hAM
          have hsv := hs2 s hsL HSY.out.1
          rw [HSY.out.2] at hsv
          rw [hsv] at cS
          obtain ⟨A, hA⟩ : ∃ A, A = atC ln L p := ⟨_, rfl⟩
          rw [← hA] at cA cS hAM
          obtain ⟨Y, hY⟩ : ∃ Y, Y = A + K := ⟨_, rfl⟩
          rw [← hY] at cS hAM
          have eY : (A : Int) + (K : Int) = (Y : Int) := by omega
          have b5 : (Y : Int) < (M' : Int) := by omega
          clear hg' hrows' hM' e49' hs1 hs2 hsv hA hY cF cC c48 k1 k2 eor
          go_wp2
          go_quiet (fail)
          go_wp2
          go_ret2
          exact ⟨⟨p, .inl ⟨s, hsL, HPOST.out.1, HPOST.out.2.1, HPOST.out.2.2.1, rfl, HPOST.out.2.2.2⟩, HR2.out.drewN _⟩, HO2.out.drewN _⟩
        · have HNO2 : Hid (∀ j, 1 ≤ j → j ≤ p → ¬ Hit ln L V j) := fun j h1 h2 => by
            rcases Nat.lt_or_ge j p with h | h
            · exact HNO.out j h1 (by have := HP.out; omega)
            · have : j = p := by omega
              subst this
              rw [HHit.out]; exact hK
          have HQ2 : Hid (q / 2 = U / 2 ^ p) := by unfold Hid; rw [HP.out, HQ.out, Nat.pow_succ, Nat.div_div_eq_div_mul]
          go_wp2
          refine ⟨⟨p, q / 2, z, m, by omega, by omega, rfl, HQ2.out, val_int (by omega), by rw [HZ.out, HP.out], rfl, HNO2.out, rfl⟩, ?_⟩
          simp [intOf]; omega
      · have HKL : Hid (kk = l ∧ l < lgs ln L ∧ n = l) := by have := HKK.out; have := HLG.out; unfold Hid; omega
        have b3 : (n : Int) + 1 ≤ (lg : Int) := by omega
        have b4 : (kk : Int) < (n : Int) + 1 := by omega
        go_wp2
        go_ret2
        exact ⟨⟨0, .inr (.inl ⟨HKL.out.2.1, fun j h1 h2 => HNO.out j h1 (by have := HKL.out; omega), rfl, rfl⟩), HR.out.drewN m⟩, (Only.refl rb w).drewN m⟩
    · have HKL : Hid (lgs ln L ≤ l ∧ n = lgs ln L) := by have := HKK.out; have := HLG.out; unfold Hid; omega
      have b3 : ¬ (n : Int) + 1 ≤ (lg : Int) := by omega
      go_wp2
      go_ret2
      exact ⟨⟨0, .inr (.inr ⟨HKL.out.1, fun j h1 h2 => HNO.out j h1 (by have := HKL.out; omega), rfl, rfl⟩), HR.out.drewN m⟩, (Only.refl rb w).drewN m⟩
end Go.Proofs.Ytpidofgmbjkbiaa
