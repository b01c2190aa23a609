/-
  huff in this seat: Code, Read.
-/
import Derived.Test.YtkckobhpanghiaaDoorBitX
import Derived.WalkKit
import Derived.WalkSpells
import Derived.WalkLawsBesides
import Derived.Laws.IdiomStrings
import Derived.Laws.BitsAllLaws
import Derived.Deep.QuietTactic
import Derived.BigQuiet
import Derived.Deep.RegionHeld3
import Derived.Deep.MidRow
import Derived.OpenShut
import Derived.OwnWalk
import Derived.BigRegion
import Derived.Laws.AppendOwnNone
namespace Go.Proofs.YtkckobhpanghiaaDoor
open Go.RowKit

set_option maxHeartbeats 1000000 in
set_option maxRecDepth 100000 in
theorem code_in (b s : Nat) (ln : Nat → Nat) (L : Nat) (w : World) (h : Tab w b ln L) (hs : s < L) :
    Calls Tryd.prog 66 #[.pointer (some ⟨b, 0, none⟩), .int .i64 s] w fun e w' => e = .returned (.tuple #[.int .u32 (codeC ln L s : Int), .int .i64 (ln s : Int)]) ∧ Below w.heap.size w w' := by
  obtain ⟨g, gs, gc, gg, M, hg, hr, hM, e48, e49, e50⟩ := h
  obtain ⟨hc, hc1, hc2, hc3⟩ := hg.cod
  have c50 := hg.tab.cell 50 (by decide)
  rw [e50] at c50
  have d0 := hc1.cell (s * 2) (by omega)
  have d1 := hc1.cell (s * 2 + 1) (by omega)
  rw [(hc2 s hs).1] at d0
  rw [(hc2 s hs).2] at d1
  have HB : Hid (Below w.heap.size w (w.alloc (.cells #[.int .u32 (codeC ln L s : Int), .int .i64 (ln s : Int)] 132))) := (Below.refl _ _).alloc (Nat.le_refl _) _
  have b3 : (s : Int) < (L : Int) := by omega
  clear hg hr hM e48 e49 e50 hc1 hc2 hc3
  generalize codeC ln L s = c at *
  generalize ln s = n at *
  go_enter Tryd.func66, Tryd.ntmps66
  go_wp2
  go_quiet (fail)
  go_wp2
  go_ret2
  exact ⟨rfl, below_drewN HB.out _⟩

set_option maxHeartbeats 1000000 in
set_option maxRecDepth 100000 in
theorem code_out (b : Nat) (s : Int) (ln : Nat → Nat) (L : Nat) (w : World) (h : Tab w b ln L) (hs : s < 0 ∨ (L : Int) ≤ s) :
    Calls Tryd.prog 66 #[.pointer (some ⟨b, 0, none⟩), .int .i64 s] w fun e w' => e = .returned (.tuple #[.int .u32 0, .int .i64 0]) ∧ w' = w := by
  obtain ⟨g, gs, gc, gg, M, hg, hr, hM, e48, e49, e50⟩ := h
  have c50 := hg.tab.cell 50 (by decide)
  rw [e50] at c50
  clear hg hr hM e48 e49 e50
  go_enter Tryd.func66, Tryd.ntmps66
  rcases hs with hs | hs
  · go_wp2
    go_ret2
    exact ⟨rfl, rfl⟩
  · have h0 : ¬ s < 0 := by omega
    go_wp2
    go_ret2
    exact ⟨rfl, rfl⟩

/-- Numbers as the cells of a row. -/
def intsV (f : Nat → Int) (m : Nat) : List Value := (List.range m).map fun i => .int .i64 (f i)

set_option maxRecDepth 100000 in
theorem intsV_len (f : Nat → Int) (m : Nat) : (intsV f m).length = m := by simp [intsV]

set_option maxRecDepth 100000 in
theorem intsV_at (f : Nat → Int) (m j : Nat) (h : j < m) : (intsV f m)[j]? = some (.int .i64 (f j)) := by
  unfold intsV; rw [List.getElem?_map, List.getElem?_range h]; rfl

set_option maxRecDepth 100000 in
theorem ints_news {w : World} {b off : Nat} {f : Nat → Int} {len m : Nat} (h : ∀ i, i < len → w.cell? ⟨b, off + i, none⟩ = some (.int .i64 (f i))) (hm : m ≤ len) : ∀ j u, (intsV f m)[j]? = some u → w.cell? ((⟨b, off, none⟩ : Addr).add j) = some u := by
  intro j u hu
  have hj : j < m := by have := (List.getElem?_eq_some_iff.1 hu).1; rwa [intsV_len] at this
  rw [intsV_at f m j hj] at hu
  rw [Addr.add_lit, h j (by omega)]
  exact hu

set_option maxRecDepth 100000 in
theorem ints_one (f : Nat → Int) (m : Nat) : ∀ u ∈ intsV f m, u.oneCell' = true := by
  intro u hu
  simp only [intsV, List.mem_map] at hu
  obtain ⟨c, _, rfl⟩ := hu
  rfl

set_option maxRecDepth 100000 in
theorem ints_of_own {w : World} {B m : Nat} {v : Value} {f : Nat → Int} (h : w.ownsRow B 3 1 v m (intsV f m)) (hf : ∀ i, (Lit.int .i64 (f i)).wf = true) (hm : m ≤ maxLen) : ∃ a c, v = .slice a m c ∧ IntsAt w a m .i64 f := by
  rcases h.2 with ⟨rfl, hn⟩ | ⟨g, cap, cur, rfl, hb, hg, hnc, hcm, hcs, htake⟩
  · subst hn
    exact ⟨none, 0, rfl, hm, hf, .inl rfl⟩
  · refine ⟨_, cap, rfl, hm, hf, .inr ⟨g, 0, rfl, fun i hi => ?_⟩⟩
    have := World.ownsRow.cells (g := g) h rfl i _ (intsV_at f m i hi)
    rwa [Addr.add_lit] at this

set_option maxRecDepth 100000 in
theorem own_start (w : World) : (w.alloc (.cells #[] 3)).ownsRow w.heap.size 3 1 (.slice (some ⟨w.heap.size, 0, none⟩) 0 0) 0 [] :=
  World.ownsRow_lit w #[] 0 (Nat.le_refl _) (Nat.zero_le _) rfl

/-- What Read answers, of bits V of which l are there. -/
def ReadPost (ln : Nat → Nat) (L V l : Nat) (e : Ending) (d : Nat) : Prop :=
  (∃ s, s < L ∧ 0 < ln s ∧ ln s ≤ l ∧ rv V (ln s) = codeC ln L s ∧ e = .returned (.tuple #[.int .i64 (s : Int), .int .i64 0]) ∧ d = ln s) ∨
  (l < lgs ln L ∧ (∀ j, 1 ≤ j → j ≤ l → ¬ Hit ln L V j) ∧ e = .returned (.tuple #[.int .i64 0, .int .i64 6]) ∧ d = 0) ∨
  (lgs ln L ≤ l ∧ (∀ j, 1 ≤ j → j ≤ lgs ln L → ¬ Hit ln L V j) ∧ e = .returned (.tuple #[.int .i64 0, .int .i64 3]) ∧ d = 0)

set_option maxRecDepth 100000 in
theorem or_bit (y q : Nat) (hy : y < 32768) : bits .or .u32 ((y : Int) * 2) (bits .and .u32 (q : Int) 1) = ((2 * y + q % 2 : Nat) : Int) ∨ ¬ q < 4294967296 := by
  by_cases hq : q < 4294967296
  · left
    have e1 : (y : Int) * 2 = ((y * 2 : Nat) : Int) := by omega
    rw [show (1 : Int) = ((1 : Nat) : Int) from rfl, u32_and_nat _ _ hq (by decide), Nat.and_one_is_mod, e1, u32_or_nat _ _ (by omega) (by omega)]
    have h := or_add (q % 2) y 1 (by omega)
    rw [Nat.or_comm, show y * 2 ^ 1 = y * 2 from rfl] at h
    rw [h]
    omega
  · exact .inr hq

set_option maxRecDepth 100000 in
theorem sub_u32 (y F C : Nat) (hy : y ≤ 65536) (hF : F + C ≤ 32768) : ∃ K : Nat, IntKind.u32.wrap ((y : Int) - (F : Int)) = (K : Int) ∧ ((y : Int) - (F : Int)) % 4294967296 = (K : Int) ∧ (K < C ↔ F ≤ y ∧ y < F + C) ∧ (F ≤ y → K = y - F) := by
  by_cases h : F ≤ y
  · exact ⟨y - F, by rw [IntKind.wrap_u32']; omega, by omega, by omega, by omega⟩
  · exact ⟨4294967296 + y - F, by rw [IntKind.wrap_u32']; omega, by omega, by omega, by omega⟩

set_option maxHeartbeats 2000000 in
set_option maxRecDepth 100000 in
theorem read_any (w0 : World) (b rb : Nat) (ln : Nat → Nat) (L : Nat) (X : ByteArray) (t l : Nat) (w : World) (hT : Tab w0 b ln L) (hw0 : Below w0.heap.size w0 w) (hrb : w0.heap.size ≤ rb) (hr : RBox w rb X t) (hX : X.size ≤ 1000000) (htl : t + l = 8 * X.size)
    (hL : L ≤ 320) (h15 : ∀ i, ln i ≤ 15) (hkr : kr ln L 15 ≤ 32768) :
    Calls Tryd.prog 50 #[.pointer (some ⟨b, 0, none⟩), .pointer (some ⟨rb, 0, none⟩)] w fun e w' => (∃ d, ReadPost ln L (le X.data.toList / 2 ^ t) l e d ∧ RBox w' rb X (t + d)) ∧ Only rb w w' := by
  obtain ⟨V, hV⟩ : ∃ V, V = le X.data.toList / 2 ^ t := ⟨_, rfl⟩
  rw [← hV]
  have HT := hidM hT
  have HW := hidM hw0
  have HRB := hidM hrb
  have HR := hidM hr
  have HTL := hidM htl
  have H15 := hidM h15
  have HTW := hT.below hw0
  obtain ⟨g, gs, gc, gg, M, hg, hrows, hM, e48, e49, e50⟩ := HTW
  have HGT := hidM hg.tab
  have HRW := hidM hrows
  have c48 := hg.tab.cell 48 (by decide)
  rw [e48] at c48
  have hlg : lgs ln L ≤ 15 := lgs_le ln 15 h15 L
  obtain ⟨lg, hlgd⟩ : ∃ lg, lg = lgs ln L := ⟨_, rfl⟩
  rw [← hlgd] at c48 hlg
  have HLG := hidM hlgd
  obtain ⟨kk, hkk⟩ : ∃ kk, kk = min lg l := ⟨_, rfl⟩
  have HKK := hidM hkk
  have hkl : kk ≤ l := by omega
  have hkg : kk ≤ lg := by omega
  have HBV : Hid (bitsN X.data.toList t kk = V % 2 ^ kk) := by unfold Hid bitsN; rw [hV]
  clear hT hw0 hrb hr htl h15 hg hrows hM e48 e49 e50 hlgd hkk hV
  go_enter Tryd.func50, Tryd.ntmps50
  go_wp2_with fail
  refine (peek_any rb X t l lg kk w HR.out (by omega) HTL.out (by omega) HKK.out).mono ?_
  rintro e w1 ⟨rfl, m1, rfl⟩
  rw [HBV.out]
  have HU1 : Hid (∀ n, n ≤ kk → rv (V % 2 ^ kk) n = rv V n) := fun n hn => rv_mod V kk n hn
  have HU2 : Hid (V % 2 ^ kk < 32768) := Nat.lt_of_lt_of_le (Nat.mod_lt _ (Nat.pow_pos (by decide))) (show 2 ^ kk ≤ 2 ^ 15 from Nat.pow_le_pow_right (by decide) (by omega))
  generalize V % 2 ^ kk = U at *
  go_wp2
  go_loopw [6, 8, 9, 10] (fun nx bg i _ wr => ∃ n q y m : Nat, n ≤ lg ∧ n ≤ kk ∧ i = .int .i64 ((n : Int) + 1) ∧ q = U / 2 ^ n ∧ nx = .int .u32 (q : Int) ∧ y = rv V n ∧ bg = .int .u32 (y : Int) ∧ (∀ j, 1 ≤ j → j ≤ n → ¬ Hit ln L V j) ∧ wr = w.drewN m) (fun _ _ i _ _ => 20 - (intOf i).toNat)
  case atStart => exact ⟨0, U, 0, m1, Nat.zero_le _, Nat.zero_le _, rfl, by simp, rfl, rfl, rfl, fun j h1 h2 => by omega, rfl⟩
  case round =>
    obtain ⟨n, q, y, m, hn, hnk, rfl, hq, rfl, hy, rfl, hno, rfl⟩ := hrel
    have HQ := hidM hq
    have HY := hidM hy
    have HNO := hidM hno
    have hq2 : q < 32768 := by rw [hq]; exact Nat.lt_of_le_of_lt (Nat.div_le_self _ _) HU2.out
    have hy2 : y < 32768 := by
      rw [hy]
      exact Nat.lt_of_lt_of_le (rv_lt V n) (show 2 ^ n ≤ 2 ^ 15 from Nat.pow_le_pow_right (by decide) (by omega))
    clear hq hy hno
    by_cases hend : n < lg
    · by_cases hav : n < kk
      · have HB1 : Hid (2 * y + q % 2 = rv V (n + 1)) := by
          unfold Hid
          have h1 := HU1.out (n + 1) (by omega)
          rw [rv, HU1.out n (by omega), ← HQ.out, ← HY.out] at h1
          exact h1
        obtain ⟨z, hz⟩ : ∃ z, z = 2 * y + q % 2 := ⟨_, rfl⟩
        have eor : bits .or .u32 ((y : Int) * 2) (bits .and .u32 (q : Int) 1) = (z : Int) := by
          rcases or_bit y q hy2 with h | h
          · rw [h, hz]
          · omega
        have HZ : Hid (z = rv V (n + 1)) := by unfold Hid; rw [hz, HB1.out]
        have hz2 : z ≤ 65536 := by omega
        obtain ⟨p, hp⟩ : ∃ p, p = n + 1 := ⟨_, rfl⟩
        have HP := hidM hp
        have ep : (n : Int) + 1 = (p : Int) := by omega
        have p15 : p ≤ 15 := by omega
        have hfc := code_fits ln L p p15 hkr
        have h2p : 2 ^ p ≤ 2 ^ 15 := Nat.pow_le_pow_right (by decide) p15
        have cF : w.cell? ⟨b, p * 3, none⟩ = some (.int .u32 ((fstC ln L p : Nat) : Int)) := (HGT.out.cell (p * 3) (by omega)).trans (by rw [(HRW.out p (by omega)).1])
        have cC : w.cell? ⟨b, p * 3 + 1, none⟩ = some (.int .u32 ((cnt ln p L : Nat) : Int)) := (HGT.out.cell (p * 3 + 1) (by omega)).trans (by rw [(HRW.out p (by omega)).2.1])
        obtain ⟨K, k1, k2, k3, k4⟩ := sub_u32 z (fstC ln L p) (cnt ln p L) hz2 (by simp at h2p; omega)
        have HHit : Hid (Hit ln L V p ↔ K < cnt ln p L) := by
          unfold Hid Hit
          rw [HP.out, ← HZ.out, ← HP.out]
          exact k3.symm
        have HK4 := hidM k4
        obtain ⟨F, hF⟩ : ∃ F, F = fstC ln L p := ⟨_, rfl⟩
        obtain ⟨C, hC⟩ : ∃ C, C = cnt ln p L := ⟨_, rfl⟩
        rw [← hF] at cF k1 k2 HK4 hfc
        rw [← hC] at cC HHit hfc
        have HF := hidM hF
        have HC := hidM hC
        simp only [ep]
        have b2 : (p : Int) < 16 := by omega
        have b3 : (p : Int) ≤ (lg : Int) := by omega
        have b4 : (p : Int) ≤ (kk : Int) := by omega
        clear hz hp hF hC k3 k4 ep
        by_cases hK : K < C
        · obtain ⟨s, hsL, hsn, hsp, hsi⟩ := cnt_at ln p K L (by rw [← HC.out]; exact hK)
          have hFz : F ≤ z ∧ z < F + C := by
            have h1 := HHit.out.2 hK
            unfold Hit at h1
            rw [HP.out, ← HZ.out, ← HP.out, ← HF.out, ← HC.out] at h1
            exact h1
          have hKz := HK4.out hFz.1
          have HPOST : Hid (0 < ln s ∧ ln s ≤ l ∧ rv V (ln s) = codeC ln L s ∧ p = ln s) := by
            refine ⟨by omega, by rw [hsn]; omega, ?_, hsn.symm⟩
            unfold codeC
            rw [hsn, if_neg (by omega), hsi, ← HF.out, HP.out, ← HZ.out]
            omega
          have HSY : Hid (0 < ln s ∧ atC ln L (ln s) + cnt ln (ln s) s = atC ln L p + K) := by unfold Hid; rw [hsn, hsi]; exact ⟨hsp, rfl⟩
          have hpl : p ≤ l := by omega
          clear hsn hsp hsi hFz hKz
          go_wp2_with fail
          refine (skip_yes rb X t l p (w.drewN m) (HR.out.drewN m) (by omega) HTL.out (by omega) hpl).mono ?_
          rintro e w2 ⟨rfl, m2, rfl⟩
          have HR2 := hidM ((HR.out.drewN m).put m2 p)
          have HO2 : Hid (Only rb w (((w.drewN m).drewN m2).setCell ⟨rb, 1, none⟩ (.int .i64 ((t + p : Nat) : Int)))) := (((Only.refl rb w).drewN m).drewN m2).setCell _ _
          generalize ((w.drewN m).drewN m2).setCell ⟨rb, 1, none⟩ (.int .i64 ((t + p : Nat) : Int)) = w2 at *
          have hT2 := HT.out.below (HW.out.trans (HO2.out.below HRB.out))
          obtain ⟨g', gs', gc', gg', M', hg', hrows', hM', _, e49', _⟩ := hT2
          obtain ⟨hs, hs1, hs2⟩ := hg'.sym
          have c49 := hg'.tab.cell 49 (by decide)
          rw [e49'] at c49
          have cA : w2.cell? ⟨b, p * 3 + 2, none⟩ = some (.int .u32 ((atC ln L p : Nat) : Int)) := (hg'.tab.cell (p * 3 + 2) (by omega)).trans (by rw [(hrows' p (by omega)).2.2])
          have hAM : atC ln L p + K < M' := by
            have h1 := at_total ln L p p15
            have := HC.out
            omega
          have hMl : M' ≤ 10000 := by
            have h1 := atC_le ln L 15
            have h3 := cnt_le ln 15 L
            omega
          have cS := hs1.cell (atC ln L p + K) hAM
          have hsv := hs2 s hsL HSY.out.1
          rw [HSY.out.2] at hsv
          rw [hsv] at cS
          obtain ⟨A, hA⟩ : ∃ A, A = atC ln L p := ⟨_, rfl⟩
          rw [← hA] at cA cS hAM
          obtain ⟨Y, hY⟩ : ∃ Y, Y = A + K := ⟨_, rfl⟩
          rw [← hY] at cS hAM
          have eY : (A : Int) + (K : Int) = (Y : Int) := by omega
          have b5 : (Y : Int) < (M' : Int) := by omega
          clear hg' hrows' hM' e49' hs1 hs2 hsv hA hY cF cC c48 k1 k2 eor
          go_wp2
          go_quiet (fail)
          go_wp2
          go_ret2
          exact ⟨⟨p, .inl ⟨s, hsL, HPOST.out.1, HPOST.out.2.1, HPOST.out.2.2.1, rfl, HPOST.out.2.2.2⟩, HR2.out.drewN _⟩, HO2.out.drewN _⟩
        · have HNO2 : Hid (∀ j, 1 ≤ j → j ≤ p → ¬ Hit ln L V j) := fun j h1 h2 => by
            rcases Nat.lt_or_ge j p with h | h
            · exact HNO.out j h1 (by have := HP.out; omega)
            · have : j = p := by omega
              subst this
              rw [HHit.out]; exact hK
          have HQ2 : Hid (q / 2 = U / 2 ^ p) := by unfold Hid; rw [HP.out, HQ.out, Nat.pow_succ, Nat.div_div_eq_div_mul]
          go_wp2
          refine ⟨⟨p, q / 2, z, m, by omega, by omega, rfl, HQ2.out, val_int (by omega), by rw [HZ.out, HP.out], rfl, HNO2.out, rfl⟩, ?_⟩
          simp [intOf]; omega
      · have HKL : Hid (kk = l ∧ l < lgs ln L ∧ n = l) := by have := HKK.out; have := HLG.out; unfold Hid; omega
        have b3 : (n : Int) + 1 ≤ (lg : Int) := by omega
        have b4 : (kk : Int) < (n : Int) + 1 := by omega
        go_wp2
        go_ret2
        exact ⟨⟨0, .inr (.inl ⟨HKL.out.2.1, fun j h1 h2 => HNO.out j h1 (by have := HKL.out; omega), rfl, rfl⟩), HR.out.drewN m⟩, (Only.refl rb w).drewN m⟩
    · have HKL : Hid (lgs ln L ≤ l ∧ n = lgs ln L) := by have := HKK.out; have := HLG.out; unfold Hid; omega
      have b3 : ¬ (n : Int) + 1 ≤ (lg : Int) := by omega
      go_wp2
      go_ret2
      exact ⟨⟨0, .inr (.inr ⟨HKL.out.1, fun j h1 h2 => HNO.out j h1 (by have := HKL.out; omega), rfl, rfl⟩), HR.out.drewN m⟩, (Only.refl rb w).drewN m⟩

/-- A table of codes at b, whose blocks lie from B on, below E. -/
def TabS (w : World) (b : Nat) (ln : Nat → Nat) (L B E : Nat) : Prop :=
  ∃ g gs gc gg M, Given w b gs gc gg ln L M L g ∧ RowsAre g (fstC ln L) (fun n => cnt ln n L) (atC ln L) ∧ M = atC ln L 15 + cnt ln 15 L ∧ g 48 = .int .i64 (lgs ln L : Int) ∧ g 49 = .slice (some ⟨gs, 0, none⟩) M M ∧ g 50 = .slice (some ⟨gc, 0, none⟩) L L ∧ (B ≤ b ∧ b < E) ∧ (B ≤ gs ∧ gs < E) ∧ (B ≤ gc ∧ gc < E) ∧ (B ≤ gg ∧ gg < E)

set_option maxRecDepth 100000 in
theorem TabS.tab {w : World} {b : Nat} {ln : Nat → Nat} {L B E : Nat} (h : TabS w b ln L B E) : Tab w b ln L := by
  obtain ⟨g, gs, gc, gg, M, h1, h2, h3, h4, h5, h6, _⟩ := h
  exact ⟨g, gs, gc, gg, M, h1, h2, h3, h4, h5, h6⟩

set_option maxRecDepth 100000 in
theorem TabS.keep {w w' : World} {b : Nat} {ln : Nat → Nat} {L B E : Nat} (h : TabS w b ln L B E) (hk : ∀ k, B ≤ k → k < E → w'.heap[k]? = w.heap[k]?) : TabS w' b ln L B E := by
  obtain ⟨g, gs, gc, gg, M, hg, h2, h3, h4, h5, h6, q1, q2, q3, q4⟩ := h
  obtain ⟨hs, hs1, hs2⟩ := hg.sym
  obtain ⟨hc, hc1, hc2⟩ := hg.cod
  obtain ⟨hv, hv1, hv2⟩ := hg.giv
  exact ⟨g, gs, gc, gg, M, ⟨hg.tab.same (hk b q1.1 q1.2), ⟨hs, hs1.same (hk gs q2.1 q2.2), hs2⟩, ⟨hc, hc1.same (hk gc q3.1 q3.2), hc2⟩, ⟨hv, hv1.same (hk gg q4.1 q4.2), hv2⟩⟩, h2, h3, h4, h5, h6, q1, q2, q3, q4⟩

set_option maxRecDepth 100000 in
theorem TabS.only {w w' : World} {b rb : Nat} {ln : Nat → Nat} {L B E : Nat} (h : TabS w b ln L B E) (hr : rb < B ∨ E ≤ rb) (ho : Only rb w w') : TabS w' b ln L B E :=
  h.keep fun k h1 h2 => ho.block k (by omega)

set_option maxRecDepth 100000 in
theorem TabS.below {w w' : World} {b B' : Nat} {ln : Nat → Nat} {L B E : Nat} (h : TabS w b ln L B E) (hb : Below B' w w') (hE : E ≤ B') : TabS w' b ln L B E :=
  h.keep fun k _ h2 => hb.block k (by omega)

set_option maxRecDepth 100000 in
theorem tabS_mk {w : World} {b B gs gc gg M : Nat} {ln : Nat → Nat} {L : Nat} {g : Nat → Value} (hB : B ≤ b) (hg : Given w b gs gc gg ln L M L g) (h2 : RowsAre g (fstC ln L) (fun n => cnt ln n L) (atC ln L)) (h3 : M = atC ln L 15 + cnt ln 15 L) (h4 : g 48 = .int .i64 (lgs ln L : Int)) (h5 : g 49 = .slice (some ⟨gs, 0, none⟩) M M) (h6 : g 50 = .slice (some ⟨gc, 0, none⟩) L L)
    (q1 : b ≤ gs) (q2 : b ≤ gc) (q3 : b ≤ gg) : TabS w b ln L B w.heap.size := by
  obtain ⟨hs, hs1, _⟩ := hg.sym
  obtain ⟨hc, hc1, _⟩ := hg.cod
  obtain ⟨hv, hv1, _⟩ := hg.giv
  exact ⟨g, gs, gc, gg, M, hg, h2, h3, h4, h5, h6, ⟨hB, hg.tab.lt⟩, ⟨by omega, hs1.lt⟩, ⟨by omega, hc1.lt⟩, ⟨by omega, hv1.lt⟩⟩

/-- What New answers, from world w. -/
def NewPostS (f : Nat → Int) (len : Nat) (w : World) (e : Ending) (w' : World) : Prop :=
  (320 < len ∧ e = .returned (.tuple #[.pointer none, .int .i64 2])) ∨
  (len ≤ 320 ∧ (∃ i, i < len ∧ (f i < 0 ∨ 15 < f i)) ∧ e = .returned (.tuple #[.pointer none, .int .i64 1])) ∨
  (len ≤ 320 ∧ ∃ ln : Nat → Nat, (∀ i, i < len → f i = (ln i : Int)) ∧ (∀ i, ln i ≤ 15) ∧
    ((¬ Fit ln len ∧ e = .returned (.tuple #[.pointer none, .int .i64 4])) ∨ (Fit ln len ∧ ∃ b, e = .returned (.tuple #[.pointer (some ⟨b, 0, none⟩), .int .i64 0]) ∧ TabS w' b ln len w.heap.size w'.heap.size)))

set_option maxHeartbeats 2000000 in
set_option maxRecDepth 100000 in
theorem new_sep (a : Option Addr) (len cap : Nat) (f : Nat → Int) (w : World) (hf : IntsAt w a len .i64 f) :
    Calls Tryd.prog 90 #[.slice a len cap] w fun e w' => NewPostS f len w e w' ∧ Below w.heap.size w w' := by
  have hlen : len ≤ 9223372036854775807 := by have := hf.1; unfold maxLen at this; omega
  have HF := hidM hf
  clear hf
  by_cases h320 : 320 < len
  · go_enter Tryd.func90, Tryd.ntmps90
    go_wp2
    go_ret2
    exact ⟨.inl ⟨h320, rfl⟩, Below.refl _ _⟩
  · go_enter Tryd.func90, Tryd.ntmps90
    go_wp2
    go_loopw [5, 12] (fun _ i wr => ∃ k : Nat, k ≤ len ∧ i = .int .i64 k ∧ (∀ i, i < k → 0 ≤ f i ∧ f i ≤ 15) ∧ wr = w) (fun _ i _ => len - (intOf i).toNat)
    case atStart => exact ⟨0, Nat.zero_le _, rfl, fun i hi => by omega, rfl⟩
    case round =>
      obtain ⟨k, hk, rfl, hall, rfl⟩ := hrel
      have HA := hidM hall
      clear hall
      by_cases hlt : k < len
      · obtain ⟨bb, off, rfl, hc⟩ := HF.out.get k hlt
        generalize hfk : f k = c at *
        have HFK := hidM hfk
        clear hfk
        by_cases hbad : c < 0 ∨ 15 < c
        · have HBD := hidM hbad
          rcases hbad with hb | hb
          · go_wp2
            go_ret2
            exact ⟨.inr (.inl ⟨by omega, ⟨k, hlt, by rw [HFK.out]; exact HBD.out⟩, rfl⟩), Below.refl _ _⟩
          · go_wp2
            go_ret2
            exact ⟨.inr (.inl ⟨by omega, ⟨k, hlt, by rw [HFK.out]; exact HBD.out⟩, rfl⟩), Below.refl _ _⟩
        · have hb1 : ¬ c < 0 := by omega
          have hb2 : ¬ 15 < c := by omega
          have HA2 : Hid (∀ i, i < k + 1 → 0 ≤ f i ∧ f i ≤ 15) := fun i hi => by
            rcases Nat.lt_or_ge i k with h | h
            · exact HA.out i h
            · have : i = k := by omega
              subst this; rw [HFK.out]; omega
          clear hbad
          go_wp2
          go_roundw
          case rel => exact ⟨k + 1, by omega, by go_num, HA2.out, trivial⟩
          case measure => simp [intOf]; omega
      · have HK : Hid (k = len) := by unfold Hid; omega
        obtain ⟨ln, hln⟩ : ∃ ln : Nat → Nat, ln = fun i => if i < len then (f i).toNat else 0 := ⟨_, rfl⟩
        have HLN : Hid (∀ i, i < len → f i = (ln i : Int)) := fun i hi => by
          have := HA.out i (by rw [HK.out]; exact hi)
          rw [hln]; simp only [hi, if_true]; omega
        have H15 : Hid (∀ i, ln i ≤ 15) := fun i => by
          rw [hln]; simp only
          split
          · have := HA.out i (by rw [HK.out]; assumption)
            omega
          · omega
        have HFL : Hid (IntsAt wr a len .i64 (fun i => (ln i : Int))) := by
          refine ⟨HF.out.1, fun i => ?_, ?_⟩
          · have := H15.out i
            simp [Lit.wf, IntKind.min, IntKind.max, IntKind.signed, IntKind.bits]
            omega
          · rcases HF.out.2.2 with h0 | ⟨b', o', h1, h2⟩
            · exact .inl h0
            · exact .inr ⟨b', o', h1, fun i hi => by rw [h2 i hi, HLN.out i hi]⟩
        clear hln
        have HLT : Hid (0 < len → ∀ bb o, a = some ⟨bb, o, none⟩ → bb < wr.heap.size) := fun h0 bb o he => by
          obtain ⟨b', o', h1, h2⟩ := HF.out.get 0 h0
          rw [he] at h1
          simp only [Option.some.injEq, Addr.mk.injEq, and_true] at h1
          rw [h1.1]
          exact World.block_lt_of_cell? wr _ h2
        go_wp2_with fail
        refine (count_any wr.heap.size a len cap ln g0 _ (by omega) (HFL.out.low ((Below.refl _ _).alloc (Nat.le_refl _) _) HLT.out) H15.out (heap_alloc_new wr _) (fun h0 bb o he => by have := HLT.out h0 bb o he; omega) g0_rows rfl).mono ?_
        rintro e w1 ⟨rfl, ⟨g1, ht1, hr1, e48, e49, e50⟩, ho1⟩
        have HB1 : Hid (Below wr.heap.size wr w1) := ((Below.refl _ _).alloc (Nat.le_refl _) _).trans (ho1.below (Nat.le_refl _))
        have HT1 := hidM ht1
        have HR1 := hidM hr1
        have HE1 := hidM (And.intro e48 (And.intro e49 e50))
        clear ht1 hr1 e48 e49 e50 ho1
        go_wp2_with fail
        refine (fits_any wr.heap.size ln len g1 _ _ w1 HT1.out HR1.out (by omega) HE1.out.1 H15.out).mono ?_
        rintro e w2 ⟨rfl, hb2⟩
        have HB2 : Hid (Below wr.heap.size wr w2) := HB1.out.trans (hb2.mono HB1.out.size)
        have HT2 : Hid (TBox w2 wr.heap.size g1) := HT1.out.same (hb2.block _ HT1.out.lt)
        clear hb2
        by_cases hfit : kr ln len 15 = 32768 ∨ lgs ln len = 0 ∨ (lgs ln len = 1 ∧ cnt ln 1 len = 1)
        · have HFit : Hid (Fit ln len) := hfit
          rw [decide_eq_true hfit]
          clear hfit
          go_wp2_with fail
          refine (lay_any wr.heap.size ln len g1 w2 HT2.out HR1.out (by omega) HFit.out.le).mono ?_
          rintro e w3 ⟨rfl, ⟨g3, ht3, hr3, e48, e49, e50⟩, hb3⟩
          have HB3 : Hid (Below wr.heap.size wr w3) := HB2.out.trans hb3
          have HT3 := hidM ht3
          have HR3 := hidM hr3
          have H48 : Hid (g3 48 = .int .i64 (lgs ln len : Int)) := e48.trans HE1.out.1
          clear ht3 hr3 e48 e49 e50 hb3
          go_wp2_with fail
          refine (give_any wr.heap.size a len cap ln g3 w3 (by omega) (HFL.out.low HB3.out HLT.out) H15.out HT3.out HLT.out HR3.out HFit.out.le).mono ?_
          rintro e w4 ⟨rfl, ⟨g4, gs, gc, gg, M, hgv, hr4, hM, e48, e49, e50, q1, q2, _, q3⟩, hb4⟩
          have HB4 : Hid (Below wr.heap.size wr w4) := HB3.out.trans hb4
          have HTab : Hid (TabS w4 wr.heap.size ln len wr.heap.size w4.heap.size) := tabS_mk (Nat.le_refl _) hgv hr4 hM (e48.trans H48.out) e49 e50 (Nat.le_of_lt q1) (Nat.le_of_lt q2) (Nat.le_of_lt q3)
          clear hgv hr4 hM e48 e49 e50 hb4 q1 q2 q3
          go_wp2
          go_ret2
          exact ⟨.inr (.inr ⟨by omega, ln, HLN.out, H15.out, .inr ⟨HFit.out, _, rfl, HTab.out⟩⟩), HB4.out⟩
        · have HFit : Hid (¬ Fit ln len) := hfit
          rw [decide_eq_false hfit]
          clear hfit
          go_wp2
          go_ret2
          exact ⟨.inr (.inr ⟨by omega, ln, HLN.out, H15.out, .inl ⟨HFit.out, rfl⟩⟩), HB2.out⟩

set_option maxRecDepth 100000 in
/-- A value that owns a row and is not nil. -/
theorem own_some {w : World} {B n : Nat} {t : TypeId} {v : Value} {xs : List Value} (h : w.ownsRow B t 1 v n xs) (hn : ¬ v = .slice none 0 0) : ∃ g c, v = .slice (some ⟨g, 0, none⟩) n c := by
  rcases h.2 with ⟨h0, _⟩ | ⟨g, cap, cur, hv, _⟩
  · exact absurd h0 hn
  · exact ⟨g, cap, hv⟩

set_option maxHeartbeats 2000000 in
set_option maxRecDepth 100000 in
theorem read_sep (b rb : Nat) (ln : Nat → Nat) (L : Nat) (X : ByteArray) (t l : Nat) (w : World) (hT : Tab w b ln L) (hTk : ∀ w', Only rb w w' → Tab w' b ln L) (hr : RBox w rb X t) (hX : X.size ≤ 1000000) (htl : t + l = 8 * X.size)
    (hL : L ≤ 320) (h15 : ∀ i, ln i ≤ 15) (hkr : kr ln L 15 ≤ 32768) :
    Calls Tryd.prog 50 #[.pointer (some ⟨b, 0, none⟩), .pointer (some ⟨rb, 0, none⟩)] w fun e w' => (∃ d, ReadPost ln L (le X.data.toList / 2 ^ t) l e d ∧ RBox w' rb X (t + d)) ∧ Only rb w w' := by
  obtain ⟨V, hV⟩ : ∃ V, V = le X.data.toList / 2 ^ t := ⟨_, rfl⟩
  rw [← hV]
  have HTK := hidM hTk
  have HR := hidM hr
  have HTL := hidM htl
  have H15 := hidM h15
  obtain ⟨g, gs, gc, gg, M, hg, hrows, hM, e48, e49, e50⟩ := hT
  have HGT := hidM hg.tab
  have HRW := hidM hrows
  have c48 := hg.tab.cell 48 (by decide)
  rw [e48] at c48
  have hlg : lgs ln L ≤ 15 := lgs_le ln 15 h15 L
  obtain ⟨lg, hlgd⟩ : ∃ lg, lg = lgs ln L := ⟨_, rfl⟩
  rw [← hlgd] at c48 hlg
  have HLG := hidM hlgd
  obtain ⟨kk, hkk⟩ : ∃ kk, kk = min lg l := ⟨_, rfl⟩
  have HKK := hidM hkk
  have hkl : kk ≤ l := by omega
  have hkg : kk ≤ lg := by omega
  have HBV : Hid (bitsN X.data.toList t kk = V % 2 ^ kk) := by unfold Hid bitsN; rw [hV]
  clear hTk hr htl h15 hg hrows hM e48 e49 e50 hlgd hkk hV
  go_enter Tryd.func50, Tryd.ntmps50
  go_wp2_with fail
  refine (peek_any rb X t l lg kk w HR.out (by omega) HTL.out (by omega) HKK.out).mono ?_
  rintro e w1 ⟨rfl, m1, rfl⟩
  rw [HBV.out]
  have HU1 : Hid (∀ n, n ≤ kk → rv (V % 2 ^ kk) n = rv V n) := fun n hn => rv_mod V kk n hn
  have HU2 : Hid (V % 2 ^ kk < 32768) := Nat.lt_of_lt_of_le (Nat.mod_lt _ (Nat.pow_pos (by decide))) (show 2 ^ kk ≤ 2 ^ 15 from Nat.pow_le_pow_right (by decide) (by omega))
  generalize V % 2 ^ kk = U at *
  go_wp2
  go_loopw [6, 8, 9, 10] (fun nx bg i _ wr => ∃ n q y m : Nat, n ≤ lg ∧ n ≤ kk ∧ i = .int .i64 ((n : Int) + 1) ∧ q = U / 2 ^ n ∧ nx = .int .u32 (q : Int) ∧ y = rv V n ∧ bg = .int .u32 (y : Int) ∧ (∀ j, 1 ≤ j → j ≤ n → ¬ Hit ln L V j) ∧ wr = w.drewN m) (fun _ _ i _ _ => 20 - (intOf i).toNat)
  case atStart => exact ⟨0, U, 0, m1, Nat.zero_le _, Nat.zero_le _, rfl, by simp, rfl, rfl, rfl, fun j h1 h2 => by omega, rfl⟩
  case round =>
    obtain ⟨n, q, y, m, hn, hnk, rfl, hq, rfl, hy, rfl, hno, rfl⟩ := hrel
    have HQ := hidM hq
    have HY := hidM hy
    have HNO := hidM hno
    have hq2 : q < 32768 := by rw [hq]; exact Nat.lt_of_le_of_lt (Nat.div_le_self _ _) HU2.out
    have hy2 : y < 32768 := by
      rw [hy]
      exact Nat.lt_of_lt_of_le (rv_lt V n) (show 2 ^ n ≤ 2 ^ 15 from Nat.pow_le_pow_right (by decide) (by omega))
    clear hq hy hno
    by_cases hend : n < lg
    · by_cases hav : n < kk
      · have HB1 : Hid (2 * y + q % 2 = rv V (n + 1)) := by
          unfold Hid
          have h1 := HU1.out (n + 1) (by omega)
          rw [rv, HU1.out n (by omega), ← HQ.out, ← HY.out] at h1
          exact h1
        obtain ⟨z, hz⟩ : ∃ z, z = 2 * y + q % 2 := ⟨_, rfl⟩
        have eor : bits .or .u32 ((y : Int) * 2) (bits .and .u32 (q : Int) 1) = (z : Int) := by
          rcases or_bit y q hy2 with h | h
          · rw [h, hz]
          · omega
        have HZ : Hid (z = rv V (n + 1)) := by unfold Hid; rw [hz, HB1.out]
        have hz2 : z ≤ 65536 := by omega
        obtain ⟨p, hp⟩ : ∃ p, p = n + 1 := ⟨_, rfl⟩
        have HP := hidM hp
        have ep : (n : Int) + 1 = (p : Int) := by omega
        have p15 : p ≤ 15 := by omega
        have hfc := code_fits ln L p p15 hkr
        have h2p : 2 ^ p ≤ 2 ^ 15 := Nat.pow_le_pow_right (by decide) p15
        have cF : w.cell? ⟨b, p * 3, none⟩ = some (.int .u32 ((fstC ln L p : Nat) : Int)) := (HGT.out.cell (p * 3) (by omega)).trans (by rw [(HRW.out p (by omega)).1])
        have cC : w.cell? ⟨b, p * 3 + 1, none⟩ = some (.int .u32 ((cnt ln p L : Nat) : Int)) := (HGT.out.cell (p * 3 + 1) (by omega)).trans (by rw [(HRW.out p (by omega)).2.1])
        obtain ⟨K, k1, k2, k3, k4⟩ := sub_u32 z (fstC ln L p) (cnt ln p L) hz2 (by simp at h2p; omega)
        have HHit : Hid (Hit ln L V p ↔ K < cnt ln p L) := by
          unfold Hid Hit
          rw [HP.out, ← HZ.out, ← HP.out]
          exact k3.symm
        have HK4 := hidM k4
        obtain ⟨F, hF⟩ : ∃ F, F = fstC ln L p := ⟨_, rfl⟩
        obtain ⟨C, hC⟩ : ∃ C, C = cnt ln p L := ⟨_, rfl⟩
        rw [← hF] at cF k1 k2 HK4 hfc
        rw [← hC] at cC HHit hfc
        have HF := hidM hF
        have HC := hidM hC
        simp only [ep]
        have b2 : (p : Int) < 16 := by omega
        have b3 : (p : Int) ≤ (lg : Int) := by omega
        have b4 : (p : Int) ≤ (kk : Int) := by omega
        clear hz hp hF hC k3 k4 ep
        by_cases hK : K < C
        · obtain ⟨s, hsL, hsn, hsp, hsi⟩ := cnt_at ln p K L (by rw [← HC.out]; exact hK)
          have hFz : F ≤ z ∧ z < F + C := by
            have h1 := HHit.out.2 hK
            unfold Hit at h1
            rw [HP.out, ← HZ.out, ← HP.out, ← HF.out, ← HC.out] at h1
            exact h1
          have hKz := HK4.out hFz.1
          have HPOST : Hid (0 < ln s ∧ ln s ≤ l ∧ rv V (ln s) = codeC ln L s ∧ p = ln s) := by
            refine ⟨by omega, by rw [hsn]; omega, ?_, hsn.symm⟩
            unfold codeC
            rw [hsn, if_neg (by omega), hsi, ← HF.out, HP.out, ← HZ.out]
            omega
          have HSY : Hid (0 < ln s ∧ atC ln L (ln s) + cnt ln (ln s) s = atC ln L p + K) := by unfold Hid; rw [hsn, hsi]; exact ⟨hsp, rfl⟩
          have hpl : p ≤ l := by omega
          clear hsn hsp hsi hFz hKz
          go_wp2_with fail
          refine (skip_yes rb X t l p (w.drewN m) (HR.out.drewN m) (by omega) HTL.out (by omega) hpl).mono ?_
          rintro e w2 ⟨rfl, m2, rfl⟩
          have HR2 := hidM ((HR.out.drewN m).put m2 p)
          have HO2 : Hid (Only rb w (((w.drewN m).drewN m2).setCell ⟨rb, 1, none⟩ (.int .i64 ((t + p : Nat) : Int)))) := (((Only.refl rb w).drewN m).drewN m2).setCell _ _
          generalize ((w.drewN m).drewN m2).setCell ⟨rb, 1, none⟩ (.int .i64 ((t + p : Nat) : Int)) = w2 at *
          have hT2 := HTK.out _ HO2.out
          obtain ⟨g', gs', gc', gg', M', hg', hrows', hM', _, e49', _⟩ := hT2
          obtain ⟨hs, hs1, hs2⟩ := hg'.sym
          have c49 := hg'.tab.cell 49 (by decide)
          rw [e49'] at c49
          have cA : w2.cell? ⟨b, p * 3 + 2, none⟩ = some (.int .u32 ((atC ln L p : Nat) : Int)) := (hg'.tab.cell (p * 3 + 2) (by omega)).trans (by rw [(hrows' p (by omega)).2.2])
          have hAM : atC ln L p + K < M' := by
            have h1 := at_total ln L p p15
            have := HC.out
            omega
          have hMl : M' ≤ 10000 := by
            have h1 := atC_le ln L 15
            have h3 := cnt_le ln 15 L
            omega
          have cS := hs1.cell (atC ln L p + K) hAM
          have hsv := hs2 s hsL HSY.out.1
          rw [HSY.out.2] at hsv
          rw [hsv] at cS
          obtain ⟨A, hA⟩ : ∃ A, A = atC ln L p := ⟨_, rfl⟩
          rw [← hA] at cA cS hAM
          obtain ⟨Y, hY⟩ : ∃ Y, Y = A + K := ⟨_, rfl⟩
          rw [← hY] at cS hAM
          have eY : (A : Int) + (K : Int) = (Y : Int) := by omega
          have b5 : (Y : Int) < (M' : Int) := by omega
          clear hg' hrows' hM' e49' hs1 hs2 hsv hA hY cF cC c48 k1 k2 eor
          go_wp2
          go_quiet (fail)
          go_wp2
          go_ret2
          exact ⟨⟨p, .inl ⟨s, hsL, HPOST.out.1, HPOST.out.2.1, HPOST.out.2.2.1, rfl, HPOST.out.2.2.2⟩, HR2.out.drewN _⟩, HO2.out.drewN _⟩
        · have HNO2 : Hid (∀ j, 1 ≤ j → j ≤ p → ¬ Hit ln L V j) := fun j h1 h2 => by
            rcases Nat.lt_or_ge j p with h | h
            · exact HNO.out j h1 (by have := HP.out; omega)
            · have : j = p := by omega
              subst this
              rw [HHit.out]; exact hK
          have HQ2 : Hid (q / 2 = U / 2 ^ p) := by unfold Hid; rw [HP.out, HQ.out, Nat.pow_succ, Nat.div_div_eq_div_mul]
          go_wp2
          refine ⟨⟨p, q / 2, z, m, by omega, by omega, rfl, HQ2.out, val_int (by omega), by rw [HZ.out, HP.out], rfl, HNO2.out, rfl⟩, ?_⟩
          simp [intOf]; omega
      · have HKL : Hid (kk = l ∧ l < lgs ln L ∧ n = l) := by have := HKK.out; have := HLG.out; unfold Hid; omega
        have b3 : (n : Int) + 1 ≤ (lg : Int) := by omega
        have b4 : (kk : Int) < (n : Int) + 1 := by omega
        go_wp2
        go_ret2
        exact ⟨⟨0, .inr (.inl ⟨HKL.out.2.1, fun j h1 h2 => HNO.out j h1 (by have := HKL.out; omega), rfl, rfl⟩), HR.out.drewN m⟩, (Only.refl rb w).drewN m⟩
    · have HKL : Hid (lgs ln L ≤ l ∧ n = lgs ln L) := by have := HKK.out; have := HLG.out; unfold Hid; omega
      have b3 : ¬ (n : Int) + 1 ≤ (lg : Int) := by omega
      go_wp2
      go_ret2
      exact ⟨⟨0, .inr (.inr ⟨HKL.out.1, fun j h1 h2 => HNO.out j h1 (by have := HKL.out; omega), rfl, rfl⟩), HR.out.drewN m⟩, (Only.refl rb w).drewN m⟩

end Go.Proofs.YtkckobhpanghiaaDoor
