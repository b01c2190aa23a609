/-
  Walks of the document's SHA-256: Sum256.
-/
import Derived.Test.YtbodjopdhciaeabDoorRefG
import Derived.Test.YtbodjopdhciaeabDoorRefD
namespace Go.Proofs.YtbodjopdhciaeabDoor
open Go.RowKit

theorem own_mono {w : World} {base base' : Nat} {e : TypeId} {size : Nat} {v : Value} {n : Nat} {xs : List Value} (h : w.ownsRow base e size v n xs) (hb : base' ≤ base) : w.ownsRow base' e size v n xs := by
  refine ⟨h.1, ?_⟩
  rcases h.2 with h0 | ⟨g, cap, cur, hv, hg, hr⟩
  · exact .inl h0
  · exact .inr ⟨g, cap, cur, hv, Nat.le_trans hb hg, hr⟩
theorem words_one (l : List Nat) : ∀ u ∈ wordsV l, u.oneCell' = true := by
  intro u hu
  simp only [wordsV, List.mem_map] at hu
  obtain ⟨c, _, rfl⟩ := hu
  rfl
theorem keepN2 {w1 w2 : World} {gn b1 b2 i : Nat} {v1 v2 : Value} (hg : w1.grownBy w2 (some gn)) (n1 : b1 ≠ gn) (n2 : b2 ≠ gn) (h : w1.cell? ⟨b1, i, none⟩ = some v1 ∧ w1.cell? ⟨b2, i, none⟩ = some v2) : w2.cell? ⟨b1, i, none⟩ = some v1 ∧ w2.cell? ⟨b2, i, none⟩ = some v2 :=
  ⟨(World.cell?_of_block (a := ⟨b1, i, none⟩) (hg.block b1 (World.block_lt_of_cell? w1 _ h.1) (fun e => n1 (Option.some.inj e)))).trans h.1,
   (World.cell?_of_block (a := ⟨b2, i, none⟩) (hg.block b2 (World.block_lt_of_cell? w1 _ h.2) (fun e => n2 (Option.some.inj e)))).trans h.2⟩
theorem root2N : ∀ k, k < (sieve 18).length → IntKind.u32.wrap (rootI (fun y => under2 y ((sieve 18).getD k 0 : Nat)) 41 0) = ((h2.getD k 0 : Nat) : Int) := by
  have h : (sieve 18).map (fun (p : Nat) => IntKind.u32.wrap (rootI (fun y => under2 y (p : Int)) 41 0)) = h2.map Int.ofNat := by rw [sieve_18]; exact root2_is
  exact fun k hk => rootN (fun p y => under2 y p) _ _ h k hk

set_option maxRecDepth 100000 in
set_option maxHeartbeats 8000000 in
theorem rsum2_any (s : ByteArray) (gk ck : Nat) (w : World) (hs : s.size ≤ 1000000) (hk : ∀ i, i < 64 → w.cell? ⟨gk, i, none⟩ = some (.int .u32 (kL2.getD i 0 : Nat))) :
    Calls Tryd.prog 12 #[.string s, .slice (some ⟨gk, 0, none⟩) 64 ck] w fun e w' => e = .returned (.string ⟨(sha2L s.data.toList).toArray⟩) ∧ Below w.heap.size w w' := by
  obtain ⟨i0, hi, hz0, hz1, hz2⟩ := info_parts Tryd.info30
  have HK := hidM hk
  clear hk
  go_enter Tryd.func12, Tryd.ntmps12
  go_wp2_with fail
  refine (pad_any s w hs).mono ?_
  rintro _ w1 ⟨⟨v1, rfl, ho1⟩, hb1⟩
  obtain ⟨K, hK, hK1, hKb⟩ := pad_blocks s.data.toList
  have hsl : s.data.toList.length = s.size := by simp
  rw [hsl] at hK hKb
  obtain ⟨gp, cap, rfl, hgp1, hgp2, hcap, hcm, hrg⟩ := ho1.range
  have HSH : Hid (sha2L s.data.toList = wordsB (absN mixL2 h2 (s.data.toList ++ padB s.size) K)) := by
    unfold Hid sha2L; rw [hsl, wordsAt_blocks _ _ _ K hK]
  clear ho1
  generalize s.data.toList ++ padB s.size = M at *
  have HRG := hidM (fun k hk => hrg k K hK hk)
  have HKM := hidM hK
  have HB1 := hidM hb1
  rw [hK] at hcap
  rw [hK]
  have HK1 : Hid (∀ i, i < 64 → w1.cell? ⟨gk, i, none⟩ = some (.int .u32 (kL2.getD i 0 : Nat))) := fun i hi => (hb1.cell (p := ⟨gk, i, none⟩) (World.block_lt_of_cell? w _ (HK.out i hi))).trans (HK.out i hi)
  have HGK : Hid (gk < w1.heap.size) := World.block_lt_of_cell? w1 _ (HK1.out 0 (by decide))
  clear hrg hK hb1 HK
  obtain ⟨LM, hLM⟩ : ∃ LM, LM = 64 * K := ⟨_, rfl⟩
  rw [← hLM] at hcap hKb ⊢
  have HLM := hidM hLM
  have lm1 : 64 * K ≤ LM := by omega
  have lm2 : LM ≤ 64 * K := by omega
  have HCM : Hid (cap ≤ maxLen) := hcm
  have hcap9 : (cap : Int) ≤ 9223372036854775807 := by unfold maxLen at hcm; omega
  clear hLM hcm
  have HST := hidM (own_emptyW w1)
  have HB0 : Hid (Below w1.heap.size w1 (w1.alloc (.cells #[] 30))) := (Below.refl _ _).alloc (Nat.le_refl _) _
  have HRT := hidM root2N
  have HSL : Hid ((sieve 18).length = 8) := by unfold Hid; rw [sieve_18]; rfl
  generalize hS : sieve 18 = S at *
  go_wp2_with fail
  refine (primes8_any _).mono ?_
  rintro _ w2 ⟨⟨v, rfl, hv⟩, hb2⟩
  rw [hS] at hv
  obtain ⟨gS, cS, rfl⟩ := ownU_form hv (by rw [HSL.out]; decide)
  rw [HSL.out] at hv ⊢
  have HSC : Hid (∀ k, k < 8 → w2.cell? ⟨gS, k, none⟩ = some (.int .u64 (S.getD k 0 : Nat))) := fun k hk => hv.at k (by rw [HSL.out]; exact hk)
  have hgS := World.ownsRow.lt hv gS rfl
  have HG1 : Hid (w1.heap.size ≠ gS) := by intro h; have := hgS.1; simp at this; omega
  have HG2 : Hid (gS < w2.heap.size) := hgS.2
  have HO0 : Hid (OwnW w2 w1.heap.size (.slice (some ⟨w1.heap.size, 0, none⟩) 0 0) []) := own_below HST.out hb2
  have HB2 : Hid (Below w1.heap.size w1 w2) := HB0.out.trans (hb2.mono HB0.out.size)
  clear hv hb2 hgS HST HB0 hS
  go_wp2
  go_loopw [6, 8, 25] (fun v _ i wr => ∃ (k g c : Nat), k ≤ 8 ∧ i = .int .i64 k ∧ v = .slice (some ⟨g, 0, none⟩) k c ∧ g ≠ gS ∧ gS < wr.heap.size ∧ (∀ k, k < 8 → wr.cell? ⟨gS, k, none⟩ = some (.int .u64 (S.getD k 0 : Nat))) ∧ OwnW wr w1.heap.size (.slice (some ⟨g, 0, none⟩) k c) (h2.take k) ∧ Below w1.heap.size w1 wr) (fun _ _ i _ => 8 - (intOf i).toNat)
  case atStart => exact ⟨0, w1.heap.size, 0, Nat.zero_le _, rfl, rfl, HG1.out, HG2.out, HSC.out, HO0.out, HB2.out⟩
  case round =>
    obtain ⟨k, g, c, hk, rfl, rfl, hg, hgs, hcs, hown, hbr⟩ := hrel
    have HO := hidM hown
    have HB := hidM hbr
    have HC := hidM hcs
    have HG := hidM hg
    have HGS := hidM hgs
    clear hown hbr hcs hg hgs HSC HG1 HG2 HO0 HB2
    by_cases hlt : k < 8
    · have hc := HC.out k hlt
      have kk : (k : Int) < 8 := by omega
      have HV := hidM (HRT.out k (by rw [HSL.out]; exact hlt))
      generalize S.getD k 0 = p at *
      have HRA := hidM (fun v => roots_any 2 (p : Int) (fun y => under2 y p) v (fun y v => under2_any y p v))
      rw [HV.out] at HRA
      generalize hx : h2.getD k 0 = x at *
      go_wp2_with fail
      refine (HRA.out _).mono ?_
      rintro _ w3 ⟨rfl, m, rfl⟩
      have HL : Hid ((h2.take k).length = k) := by unfold Hid; rw [List.length_take]; show min k 8 = k; omega
      have HTK : Hid (h2.take (k + 1) = h2.take k ++ [x]) := by
        unfold Hid
        rw [takeN_snoc h2 k hlt, hx]
      have HBS := hidM HB.out.size
      have HOD : Hid (OwnW (wr.drewN m) w1.heap.size (.slice (some ⟨g, 0, none⟩) k c) (h2.take k)) := HO.out
      have HBD : Hid (Below w1.heap.size w1 (wr.drewN m)) := below_drewN HB.out m
      have HBE : Hid (w1.heap.size ≤ (wr.drewN m).heap.size) := HBS.out
      have HCD : Hid (∀ k, k < 8 → (wr.drewN m).cell? ⟨gS, k, none⟩ = some (.int .u64 (S.getD k 0 : Nat))) := HC.out
      have HGD : Hid (gS < (wr.drewN m).heap.size) := HGS.out
      clear HO HB HC HGS hx HV HRA hc
      generalize wr.drewN m = wd at *
      generalize h2.take k = P at *
      go_wp2_with (first
        | (at_builtin; refine wpList_append_own _ rfl _ _ 26 rfl w1.heap.size 30 i0 (.int .u32 0) 1 4 Tryd.underlying26 hi hz0 hz1 hz2 rfl (by decide) _ _ _ rfl (World.ownsRow.alloc HOD.out _) ⟨wd.heap.size, 0, none⟩ 1 1 [.int .u32 (x : Int)] ?c0 ?c6 ?c1 (one_word _) ?c3 ?c4 ?c5 ?_))
      case c0 => rfl
      case c6 => rfl
      case c1 => exact cell_newW wd x _ rfl
      case c3 => rw [HL.out]; unfold maxLen; omega
      case c4 => rw [HL.out]; omega
      case c5 => have := HBE.out; simp; omega
      intro v' w4 hown' hgrow _
      have HO1 : Hid (OwnW w4 w1.heap.size v' (P ++ [x])) := ownW_push hown'
      have HB4 : Hid (Below w1.heap.size w1 w4) := (HBD.out.alloc HBE.out _).grown hgrow (by have := HBE.out; simp; omega) (fun k hk => (World.ownsRow.lt HOD.out k hk).1)
      have HBK : Hid (w4.heap[gS]? = wd.heap[gS]?) := (hgrow.block gS (by have := HGD.out; simp; omega) (by intro h; exact HG.out (Option.some.inj h).symm)).trans (Below.heap_alloc wd _ gS HGD.out)
      have HC1 : Hid (∀ k, k < 8 → w4.cell? ⟨gS, k, none⟩ = some (.int .u64 (S.getD k 0 : Nat))) := fun k hk => (World.cell?_of_block (a := ⟨gS, k, none⟩) HBK.out).trans (HCD.out k hk)
      have HG1 : Hid (gS < w4.heap.size) := World.block_lt_of_cell? w4 _ (HC1.out 0 (by decide))
      obtain ⟨g2, c2, rfl⟩ := ownW_form HO1.out (by simp)
      have HNE : Hid (g2 ≠ gS) := by
        intro h
        subst h
        have a1 := HO1.out.at 0 (by simp)
        rw [HC1.out 0 (by decide)] at a1
        simp at a1
      have HLE : Hid ((P ++ [x]).length = k + 1) := by unfold Hid; rw [List.length_append, HL.out]; rfl
      rw [HLE.out] at HO1 ⊢
      clear hown' hgrow
      go_wp2
      go_roundw
      case rel => exact ⟨k + 1, g2, c2, by omega, by go_num, rfl, HNE.out, HG1.out, HC1.out, by rw [HTK.out]; exact HO1.out, HB4.out⟩
      case measure => simp [intOf]; omega
    · obtain rfl : k = 8 := by omega
      have HOE : Hid (OwnW wr w1.heap.size (.slice (some ⟨g, 0, none⟩) 8 c) h2) := by
        have := HO.out
        rw [List.take_of_length_le (show h2.length ≤ 8 from Nat.le_refl _)] at this
        exact this
      rw [show ((8 : Nat) : Int) = 8 from rfl]
      clear HO HC HG HGS HRT HSL hk hlt
      obtain ⟨wa, hwa⟩ : ∃ wa : World, wa = wr := ⟨_, rfl⟩
      rw [← hwa] at HOE HB ⊢
      clear hwa
      go_wp2
      go_loopw [6, 9] (fun hv av wr => ∃ (k q g c : Nat) (H : List Nat), k ≤ K ∧ q = 64 * k ∧ av = .int .i64 q ∧ hv = .slice (some ⟨g, 0, none⟩) 8 c ∧ OwnW wr w1.heap.size (.slice (some ⟨g, 0, none⟩) 8 c) H ∧ H = absN mixL2 h2 M k ∧ Below w1.heap.size w1 wr) (fun _ av _ => LM - (intOf av).toNat)
      case atStart => exact ⟨0, 0, g, c, h2, Nat.zero_le _, rfl, rfl, rfl, HOE.out, rfl, HB.out⟩
      case round =>
        obtain ⟨k, q, g, c, H, hk, hq, rfl, rfl, hown, habs, hbr⟩ := hrel
        have HAB := hidM habs
        have HOH := hidM hown
        have HB := hidM hbr
        have HQ := hidM hq
        have HW8 : Hid (W32 8 H) := by unfold Hid; rw [habs]; exact absN_ok h2_ok (fun h p _ => mixL2_ok h p) M k
        clear habs hown hbr HOE
        by_cases hlt : k < K
        · have hqL : (q : Int) < (LM : Int) := by omega
          obtain ⟨q2, hq2⟩ : ∃ q2, q2 = q + 64 := ⟨_, rfl⟩
          have wq : IntKind.i64.wrap ((q : Int) + 64) = (q2 : Int) := by rw [IntKind.wrap_i64]; omega
          have wq' : (q : Int) + 64 = (q2 : Int) := by omega
          have s1 : (q : Int) ≤ (q2 : Int) := by omega
          have s2 : (q2 : Int) ≤ (cap : Int) := by omega
          have s3 : (0 : Int) ≤ (q : Int) := by omega
          have s4 : q2 - q = 64 := by omega
          have s5 : q < cap := by omega
          have hRB := HRG.out k hlt
          rw [← hq] at hRB
          have HRB : Hid (wr.rangeAt gp q (bytesV (blk M k))) := rangeW_keep hRB HB.out hgp2
          have HBL : Hid ((blk M k).length = 64) := blk_len M k K HKM.out hlt
          have HGP : Hid (gp < wr.heap.size) := Nat.lt_of_lt_of_le hgp2 HB.out.size
          have HABS : Hid (absN mixL2 h2 M (k + 1) = mixL2 H (blk M k)) := by unfold Hid; rw [absN, ← HAB.out]
          have HKR : Hid (∀ i, i < 64 → wr.cell? ⟨gk, i, none⟩ = some (.int .u32 (kL2.getD i 0 : Nat))) := fun i hi => (HB.out.cell (p := ⟨gk, i, none⟩) HGK.out).trans (HK1.out i hi)
          clear hRB hq hq2
          generalize blk M k = p at *
          go_wp2_with fail
          refine (words_any gp q (cap - q) p wr HBL.out HRB.out HGP.out).mono ?_
          rintro _ w2 ⟨⟨v2, rfl, ho2⟩, hb2⟩
          have hl16 : (words16 p).length = 16 := by simp [words16]
          obtain ⟨g2, c2, rfl⟩ := ownW_form ho2 (by rw [hl16]; decide)
          rw [hl16] at ho2 ⊢
          have HO2 := hidM ho2
          have HB2 := hidM hb2
          obtain ⟨wo, hwo⟩ : ∃ wo : World, wo = wr := ⟨_, rfl⟩
          rw [← hwo] at HO2 HB2 HOH HB HRB HGP HKR
          have HL16 := hidM hl16
          clear hwo ho2 hb2 hl16
          go_wp2
          go_loopw [10, 11] (fun v i wr => ∃ n N g6 c6 : Nat, n ≤ 48 ∧ N = 16 + n ∧ i = .int .i64 N ∧ v = .slice (some ⟨g6, 0, none⟩) N c6 ∧ wo.heap.size ≤ g6 ∧ OwnW wr wo.heap.size (.slice (some ⟨g6, 0, none⟩) N c6) (ext2 n (words16 p)) ∧ Below wo.heap.size wo wr) (fun _ i _ => 64 - (intOf i).toNat)
          case atStart => exact ⟨0, 16, g2, c2, by decide, rfl, rfl, rfl, (World.ownsRow.lt HO2.out g2 rfl).1, HO2.out, HB2.out⟩
          case round =>
            obtain ⟨n, N, g6, c6, hn, hN, rfl, rfl, hg6, hown, hbr⟩ := hrel
            clear HO2 HB2
            have HO := hidM hown
            have HBI := hidM hbr
            have HEL : Hid ((ext2 n (words16 p)).length = N) := by unfold Hid; rw [ext2_len, HL16.out, hN]
            have m1 : N ≤ 16 + n := by omega
            have m2 : 16 + n ≤ N := by omega
            have HNN := hidM hN
            clear hown hbr hN
            by_cases h48 : n < 48
            · obtain ⟨a2, ea2⟩ : ∃ a, a = N - 2 := ⟨_, rfl⟩
              have w2 : IntKind.i64.wrap ((N : Int) - 2) = (a2 : Int) := by rw [i64_small _ (by omega) (by omega)]; omega
              have l2 : (a2 : Int) < (N : Int) := by omega
              have k2 : a2 < N := by omega
              have cc2 := HO.out.at a2 (by rw [HEL.out]; omega)
              obtain ⟨y2, ey2⟩ : ∃ y, y = (ext2 n (words16 p)).getD a2 0 := ⟨_, rfl⟩
              rw [← ey2] at cc2
              have b2 : y2 < 4294967296 := by rw [ey2]; exact ext2_bound p n a2
              obtain ⟨a7, ea7⟩ : ∃ a, a = N - 7 := ⟨_, rfl⟩
              have w7 : IntKind.i64.wrap ((N : Int) - 7) = (a7 : Int) := by rw [i64_small _ (by omega) (by omega)]; omega
              have l7 : (a7 : Int) < (N : Int) := by omega
              have k7 : a7 < N := by omega
              have cc7 := HO.out.at a7 (by rw [HEL.out]; omega)
              obtain ⟨y7, ey7⟩ : ∃ y, y = (ext2 n (words16 p)).getD a7 0 := ⟨_, rfl⟩
              rw [← ey7] at cc7
              have b7 : y7 < 4294967296 := by rw [ey7]; exact ext2_bound p n a7
              obtain ⟨a15, ea15⟩ : ∃ a, a = N - 15 := ⟨_, rfl⟩
              have w15 : IntKind.i64.wrap ((N : Int) - 15) = (a15 : Int) := by rw [i64_small _ (by omega) (by omega)]; omega
              have l15 : (a15 : Int) < (N : Int) := by omega
              have k15 : a15 < N := by omega
              have cc15 := HO.out.at a15 (by rw [HEL.out]; omega)
              obtain ⟨y15, ey15⟩ : ∃ y, y = (ext2 n (words16 p)).getD a15 0 := ⟨_, rfl⟩
              rw [← ey15] at cc15
              have b15 : y15 < 4294967296 := by rw [ey15]; exact ext2_bound p n a15
              obtain ⟨a16, ea16⟩ : ∃ a, a = N - 16 := ⟨_, rfl⟩
              have w16 : IntKind.i64.wrap ((N : Int) - 16) = (a16 : Int) := by rw [i64_small _ (by omega) (by omega)]; omega
              have l16 : (a16 : Int) < (N : Int) := by omega
              have k16 : a16 < N := by omega
              have cc16 := HO.out.at a16 (by rw [HEL.out]; omega)
              obtain ⟨y16, ey16⟩ : ∃ y, y = (ext2 n (words16 p)).getD a16 0 := ⟨_, rfl⟩
              rw [← ey16] at cc16
              have b16 : y16 < 4294967296 := by rw [ey16]; exact ext2_bound p n a16
              have dN : decide ((N : Int) < 64) = true := by simp; omega
              have HNX : Hid (nxt2 (ext2 n (words16 p)) (ext2 n (words16 p)).length = add32 (add32 (add32 y16 ((rotl 25 y15 ^^^ rotl 14 y15) ^^^ (y15 / 2 ^ 3))) y7) ((rotl 15 y2 ^^^ rotl 13 y2) ^^^ (y2 / 2 ^ 10))) := by
                unfold Hid nxt2 sgs; rw [HEL.out, ← ea2, ← ea7, ← ea15, ← ea16, ey2, ey7, ey15, ey16]
              have HT25 : Hid (∀ v : World, Calls Tryd.prog 33 #[.int .u32 (y15 : Int), .int .i64 25] v fun e w' => e = .returned (.int .u32 ((rotl 25 y15 : Nat) : Int)) ∧ ∃ n, w' = v.drewN n) := fun v => turn_any y15 25 v b15 (by decide) (by decide)
              have br25 : rotl 25 y15 < 4294967296 := rotl_lt 25 y15 (by decide) b15
              have HT14 : Hid (∀ v : World, Calls Tryd.prog 33 #[.int .u32 (y15 : Int), .int .i64 14] v fun e w' => e = .returned (.int .u32 ((rotl 14 y15 : Nat) : Int)) ∧ ∃ n, w' = v.drewN n) := fun v => turn_any y15 14 v b15 (by decide) (by decide)
              have br14 : rotl 14 y15 < 4294967296 := rotl_lt 14 y15 (by decide) b15
              have HT15 : Hid (∀ v : World, Calls Tryd.prog 33 #[.int .u32 (y2 : Int), .int .i64 15] v fun e w' => e = .returned (.int .u32 ((rotl 15 y2 : Nat) : Int)) ∧ ∃ n, w' = v.drewN n) := fun v => turn_any y2 15 v b2 (by decide) (by decide)
              have br15 : rotl 15 y2 < 4294967296 := rotl_lt 15 y2 (by decide) b2
              have HT13 : Hid (∀ v : World, Calls Tryd.prog 33 #[.int .u32 (y2 : Int), .int .i64 13] v fun e w' => e = .returned (.int .u32 ((rotl 13 y2 : Nat) : Int)) ∧ ∃ n, w' = v.drewN n) := fun v => turn_any y2 13 v b2 (by decide) (by decide)
              have br13 : rotl 13 y2 < 4294967296 := rotl_lt 13 y2 (by decide) b2
              have e8 : (y15 : Int) / 8 = ((y15 / 2 ^ 3 : Nat) : Int) := by simp
              have e10 : (y2 : Int) / 1024 = ((y2 / 2 ^ 10 : Nat) : Int) := by simp
              have be8 : y15 / 2 ^ 3 < 4294967296 := Nat.lt_of_le_of_lt (Nat.div_le_self _ _) b15
              have be10 : y2 / 2 ^ 10 < 4294967296 := Nat.lt_of_le_of_lt (Nat.div_le_self _ _) b2
              generalize rotl 25 y15 = r25 at *
              generalize rotl 14 y15 = r14 at *
              generalize rotl 15 y2 = r15 at *
              generalize rotl 13 y2 = r13 at *
              generalize y15 / 2 ^ 3 = d8 at *
              generalize y2 / 2 ^ 10 = d10 at *
              obtain ⟨xa, exa⟩ : ∃ x, x = r25 ^^^ r14 := ⟨_, rfl⟩
              have qxa : bits .xor .u32 (r25 : Int) (r14 : Int) = (xa : Int) := by rw [exa]; exact u32_xor_nat _ _ br25 br14
              have bxa : xa < 4294967296 := by rw [exa]; exact xor_lt br25 br14
              obtain ⟨xb, exb⟩ : ∃ x, x = xa ^^^ d8 := ⟨_, rfl⟩
              have qxb : bits .xor .u32 (xa : Int) (d8 : Int) = (xb : Int) := by rw [exb]; exact u32_xor_nat _ _ bxa be8
              have bxb : xb < 4294967296 := by rw [exb]; exact xor_lt bxa be8
              obtain ⟨xc, exc⟩ : ∃ x, x = r15 ^^^ r13 := ⟨_, rfl⟩
              have qxc : bits .xor .u32 (r15 : Int) (r13 : Int) = (xc : Int) := by rw [exc]; exact u32_xor_nat _ _ br15 br13
              have bxc : xc < 4294967296 := by rw [exc]; exact xor_lt br15 br13
              obtain ⟨xd, exd⟩ : ∃ x, x = xc ^^^ d10 := ⟨_, rfl⟩
              have qxd : bits .xor .u32 (xc : Int) (d10 : Int) = (xd : Int) := by rw [exd]; exact u32_xor_nat _ _ bxc be10
              have bxd : xd < 4294967296 := by rw [exd]; exact xor_lt bxc be10
              rw [← exa, ← exb, ← exc, ← exd] at HNX
              have t1 := add_wrap y16 xb
              generalize add32 y16 xb = n1 at *
              have t2 := add_wrap n1 y7
              generalize add32 n1 y7 = n2 at *
              have t3 := add_wrap n2 xd
              generalize add32 n2 xd = z at *
              have HEX : Hid (ext2 (n + 1) (words16 p) = ext2 n (words16 p) ++ [z]) := by unfold Hid; rw [ext2_succ, HNX.out]
              have HLE : Hid ((ext2 n (words16 p)).length ≤ 1000000) := by unfold Hid; rw [HEL.out]; omega
              clear ey2 ea2 ey7 ea7 ey15 ea15 ey16 ea16 exa exb exc exd HNX
              generalize ext2 n (words16 p) = P at *
              go_wp2
              go_quiet (fail)
              have HO' : Hid (OwnW (wr.drewN nq) wo.heap.size (.slice (some ⟨g6, 0, none⟩) N c6) P) := HO.out
              have HBI' : Hid (Below wo.heap.size wo (wr.drewN nq)) := below_drewN HBI.out nq
              have c2' : (wr.drewN nq).cell? ⟨g6, a2, none⟩ = some (.int .u32 (y2 : Int)) := cc2
              have c7' : (wr.drewN nq).cell? ⟨g6, a7, none⟩ = some (.int .u32 (y7 : Int)) := cc7
              have c15' : (wr.drewN nq).cell? ⟨g6, a15, none⟩ = some (.int .u32 (y15 : Int)) := cc15
              have c16' : (wr.drewN nq).cell? ⟨g6, a16, none⟩ = some (.int .u32 (y16 : Int)) := cc16
              clear cc2 cc7 cc15 cc16 HO HBI
              generalize wr.drewN nq = wx at *
              have HBS := hidM HBI'.out.size
              have HOA : Hid (∀ m, OwnW ((wx.drewN m).alloc (.cells #[.int .u32 (z : Int)] 30)) wo.heap.size (.slice (some ⟨g6, 0, none⟩) N c6) P) := fun m => World.ownsRow.alloc (w := wx.drewN m) HO'.out _
              have HCA : Hid (∀ m, ((wx.drewN m).alloc (.cells #[.int .u32 (z : Int)] 30)).cell? ⟨wx.heap.size, 0, none⟩ = some (.int .u32 (z : Int))) := fun m => World.cell?_alloc_mark (wx.drewN m) #[.int .u32 (z : Int)] 30 (0, 0) 0
              have HBA : Hid (∀ m, wo.heap.size ≤ ((wx.drewN m).alloc (.cells #[.int .u32 (z : Int)] 30)).heap.size) := fun m => by have := HBS.out; simp; omega
              have HBG : Hid (∀ m w', ((wx.drewN m).alloc (.cells #[.int .u32 (z : Int)] 30)).grownBy w' (some g6) → Below wo.heap.size wo w') := fun m w' hg => ((below_drewN HBI'.out m).alloc HBS.out _).grown hg (HBA.out m) (fun k hk => by simp at hk; omega)
              go_wp2_with fail
              go_region_held3 (fun w' => w'.cell? ⟨g6, a2, none⟩ = some (.int .u32 (y2 : Int)) ∧ w'.cell? ⟨g6, a7, none⟩ = some (.int .u32 (y7 : Int)) ∧ w'.cell? ⟨g6, a15, none⟩ = some (.int .u32 (y15 : Int)) ∧ w'.cell? ⟨g6, a16, none⟩ = some (.int .u32 (y16 : Int))) (first | exact keepW4 hkp k2 k7 k15 k16 (by assumption) | go_keep)
                (first
                  | (go_at_call 33; (first | with_reducible refine (HT25.out _).mono ?_ | with_reducible refine (HT14.out _).mono ?_ | with_reducible refine (HT15.out _).mono ?_ | with_reducible refine (HT13.out _).mono ?_); rintro e w' ⟨rfl, nT, rfl⟩)
                  | (refine step_append_W rfl _ _ rfl i0 hi hz0 hz1 hz2 wo.heap.size g6 N c6 P z rfl HEL.out (HOA.out _) ⟨wx.heap.size, 0, none⟩ 1 rfl (HCA.out _) HLE.out (HBA.out _) ?_; intro g7 c7 w7 ho7 hg7 hkp; have HO7 := hidM ho7; have HB7 := hidM (HBG.out _ _ hg7)))
              clear hkp ho7 hg7
              have HG7 : Hid (wo.heap.size ≤ g7) := (World.ownsRow.lt HO7.out g7 rfl).1
              go_wp2
              go_roundw
              case rel => exact ⟨n + 1, N + 1, g7, c7, by omega, by rw [HNN.out]; omega, by go_num, rfl, HG7.out, by rw [HEX.out]; exact HO7.out, HB7.out⟩
              case measure => simp [intOf]; omega
            · obtain rfl : n = 48 := by omega
              obtain rfl : N = 64 := by omega
              have HSC : Hid (OwnW wr wo.heap.size (.slice (some ⟨g6, 0, none⟩) 64 c6) (sched2 p)) := HO.out
              have HHR : Hid (OwnW wr w1.heap.size (.slice (some ⟨g, 0, none⟩) 8 c) H) := own_below HOH.out HBI.out
              have HKI : Hid (∀ i, i < 64 → wr.cell? ⟨gk, i, none⟩ = some (.int .u32 (kL2.getD i 0 : Nat))) := fun i hi => (HBI.out.cell (p := ⟨gk, i, none⟩) (World.block_lt_of_cell? wo _ (HKR.out i hi))).trans (HKR.out i hi)
              have HBW : Hid (Below w1.heap.size w1 wr) := HB.out.trans (HBI.out.mono HB.out.size)
              clear HO HOH HKR HB HBI
              rw [show ((64 : Nat) : Int) = 64 from rfl]
              obtain ⟨wi, hwi⟩ : ∃ wi : World, wi = wr := ⟨_, rfl⟩
              rw [← hwi] at HSC HHR HKI HBW ⊢
              clear hwi hn h48 HEL HNN m1 m2
              have HEM : Hid (OwnW (wi.alloc (.cells #[] 30)) wi.heap.size (.slice (some ⟨wi.heap.size, 0, none⟩) 0 0) []) := own_emptyW wi
              have HHC : Hid (∀ j u, (wordsV H)[j]? = some u → (wi.alloc (.cells #[] 30)).cell? ((⟨g, 0, none⟩ : Addr).add j) = some u) := World.ownsRow.cells (World.ownsRow.alloc HHR.out _) rfl
              have HWL : Hid ((wordsV H).length = 8) := by unfold Hid; simp [wordsV, HW8.out.len]
              go_wp2_with (first
                | (at_builtin; refine wpList_append_own _ rfl _ _ 26 rfl wi.heap.size 30 i0 (.int .u32 0) 1 4 Tryd.underlying26 hi hz0 hz1 hz2 rfl (by decide) _ _ _ rfl HEM.out ⟨g, 0, none⟩ 8 c (wordsV H) ?c0 ?c6 HHC.out ?c2 ?c3 ?c4 ?c5 ?_))
              case c0 => rfl
              case c6 => rw [HWL.out]
              case c2 => exact words_one H
              case c3 => show 8 ≤ maxLen; unfold maxLen; decide
              case c4 => decide
              case c5 => simp
              intro v' w5 hown' hgrow _
              have HO5 : Hid (OwnW w5 wi.heap.size v' H) := by
                unfold Hid OwnW; rw [HW8.out.len]; simpa [wordsV] using hown'
              have HB5 : Hid (Below wi.heap.size wi w5) := ((Below.refl _ _).alloc (Nat.le_refl _) _).grown hgrow (by simp) (fun k hk => (World.ownsRow.lt HEM.out k hk).1)
              obtain ⟨g5, c5, rfl⟩ := ownW_form HO5.out (by rw [HW8.out.len]; decide)
              rw [HW8.out.len] at HO5 ⊢
              have HG5 : Hid (wi.heap.size ≤ g5) := (World.ownsRow.lt HO5.out g5 rfl).1
              clear hown' hgrow HEM HHC HWL
              go_wp2
              go_loopw [14, 15] (fun v i wr => ∃ (kb gv cv va vb vc vd ve vf vg vh : Nat), kb ≤ 64 ∧ i = .int .i64 kb ∧ v = .slice (some ⟨gv, 0, none⟩) 8 cv ∧ va < 4294967296 ∧ vb < 4294967296 ∧ vc < 4294967296 ∧ vd < 4294967296 ∧ ve < 4294967296 ∧ vf < 4294967296 ∧ vg < 4294967296 ∧ vh < 4294967296 ∧ wr.cell? ⟨gv, 0, none⟩ = some (.int .u32 (va : Int)) ∧ wr.cell? ⟨gv, 1, none⟩ = some (.int .u32 (vb : Int)) ∧ wr.cell? ⟨gv, 2, none⟩ = some (.int .u32 (vc : Int)) ∧ wr.cell? ⟨gv, 3, none⟩ = some (.int .u32 (vd : Int)) ∧ wr.cell? ⟨gv, 4, none⟩ = some (.int .u32 (ve : Int)) ∧ wr.cell? ⟨gv, 5, none⟩ = some (.int .u32 (vf : Int)) ∧ wr.cell? ⟨gv, 6, none⟩ = some (.int .u32 (vg : Int)) ∧ wr.cell? ⟨gv, 7, none⟩ = some (.int .u32 (vh : Int)) ∧ (⟨va, vb, vc, vd, ve, vf, vg, vh⟩ : S8) = rounds2 (sched2 p) (s8Of H) kb ∧ Below wi.heap.size wi wr ∧ wi.heap.size ≤ gv) (fun _ i _ => 64 - (intOf i).toNat)
              case atStart => exact ⟨0, g5, c5, H.getD 0 0, H.getD 1 0, H.getD 2 0, H.getD 3 0, H.getD 4 0, H.getD 5 0, H.getD 6 0, H.getD 7 0, Nat.zero_le _, rfl, rfl, HW8.out.bd 0, HW8.out.bd 1, HW8.out.bd 2, HW8.out.bd 3, HW8.out.bd 4, HW8.out.bd 5, HW8.out.bd 6, HW8.out.bd 7, HO5.out.at 0 (by rw [HW8.out.len]; decide), HO5.out.at 1 (by rw [HW8.out.len]; decide), HO5.out.at 2 (by rw [HW8.out.len]; decide), HO5.out.at 3 (by rw [HW8.out.len]; decide), HO5.out.at 4 (by rw [HW8.out.len]; decide), HO5.out.at 5 (by rw [HW8.out.len]; decide), HO5.out.at 6 (by rw [HW8.out.len]; decide), HO5.out.at 7 (by rw [HW8.out.len]; decide), rfl, HB5.out, HG5.out⟩
              case round =>
                obtain ⟨kb, gv, cv, va, vb, vc, vd, ve, vf, vg, vh, hkb, rfl, rfl, lva, lvb, lvc, lvd, lve, lvf, lvg, lvh, d0, d1, d2, d3, d4, d5, d6, d7, hr, hbv, hgv⟩ := hrel
                have HR := hidM hr
                have HBV := hidM hbv
                have HGV := hidM hgv
                clear hr hbv hgv HO5 HB5 HG5
                by_cases h64 : kb < 64
                · have hxc : wr.cell? ⟨g6, kb, none⟩ = some (.int .u32 ((sched2 p).getD kb 0 : Nat)) := (HBV.out.cell (p := ⟨g6, kb, none⟩) (World.block_lt_of_cell? wi _ (HSC.out.at kb (by unfold sched2; rw [ext2_len, HL16.out]; omega)))).trans (HSC.out.at kb (by unfold sched2; rw [ext2_len, HL16.out]; omega))
                  have hkc : wr.cell? ⟨gk, kb, none⟩ = some (.int .u32 (kL2.getD kb 0 : Nat)) := (HBV.out.cell (p := ⟨gk, kb, none⟩) (World.block_lt_of_cell? wi _ (HKI.out kb h64))).trans (HKI.out kb h64)
                  have HST : Hid (st2 (sched2 p) ⟨va, vb, vc, vd, ve, vf, vg, vh⟩ kb = rounds2 (sched2 p) (s8Of H) (kb + 1)) := by unfold Hid; rw [rounds2_succ, ← HR.out]
                  have HTT : Hid (tt2 (sched2 p) ⟨va, vb, vc, vd, ve, vf, vg, vh⟩ kb = add32 (add32 (add32 (add32 vh ((rotl 26 ve ^^^ rotl 21 ve) ^^^ rotl 7 ve)) ((ve &&& vf) ^^^ ((ones32 ^^^ ve) &&& vg))) (kL2.getD kb 0)) ((sched2 p).getD kb 0)) := rfl
                  have HUU : Hid (uu2 ⟨va, vb, vc, vd, ve, vf, vg, vh⟩ = add32 ((rotl 30 va ^^^ rotl 19 va) ^^^ rotl 10 va) (((va &&& vb) ^^^ (va &&& vc)) ^^^ (vb &&& vc))) := rfl
                  have HS8 : Hid (st2 (sched2 p) ⟨va, vb, vc, vd, ve, vf, vg, vh⟩ kb = ⟨add32 (tt2 (sched2 p) ⟨va, vb, vc, vd, ve, vf, vg, vh⟩ kb) (uu2 ⟨va, vb, vc, vd, ve, vf, vg, vh⟩), va, vb, vc, add32 vd (tt2 (sched2 p) ⟨va, vb, vc, vd, ve, vf, vg, vh⟩ kb), ve, vf, vg⟩) := rfl
                  rw [HS8.out, HTT.out, HUU.out] at HST
                  clear HS8 HTT HUU HR
                  generalize (sched2 p).getD kb 0 = x at *
                  generalize kL2.getD kb 0 = kk at *
                  have HT26 : Hid (∀ v : World, Calls Tryd.prog 33 #[.int .u32 (ve : Int), .int .i64 26] v fun e w' => e = .returned (.int .u32 ((rotl 26 ve : Nat) : Int)) ∧ ∃ n, w' = v.drewN n) := fun v => turn_any ve 26 v lve (by decide) (by decide)
                  have br26 : rotl 26 ve < 4294967296 := rotl_lt 26 ve (by decide) lve
                  generalize rotl 26 ve = r26 at *
                  have HT21 : Hid (∀ v : World, Calls Tryd.prog 33 #[.int .u32 (ve : Int), .int .i64 21] v fun e w' => e = .returned (.int .u32 ((rotl 21 ve : Nat) : Int)) ∧ ∃ n, w' = v.drewN n) := fun v => turn_any ve 21 v lve (by decide) (by decide)
                  have br21 : rotl 21 ve < 4294967296 := rotl_lt 21 ve (by decide) lve
                  generalize rotl 21 ve = r21 at *
                  have HT7 : Hid (∀ v : World, Calls Tryd.prog 33 #[.int .u32 (ve : Int), .int .i64 7] v fun e w' => e = .returned (.int .u32 ((rotl 7 ve : Nat) : Int)) ∧ ∃ n, w' = v.drewN n) := fun v => turn_any ve 7 v lve (by decide) (by decide)
                  have br7 : rotl 7 ve < 4294967296 := rotl_lt 7 ve (by decide) lve
                  generalize rotl 7 ve = r7 at *
                  have HT30 : Hid (∀ v : World, Calls Tryd.prog 33 #[.int .u32 (va : Int), .int .i64 30] v fun e w' => e = .returned (.int .u32 ((rotl 30 va : Nat) : Int)) ∧ ∃ n, w' = v.drewN n) := fun v => turn_any va 30 v lva (by decide) (by decide)
                  have br30 : rotl 30 va < 4294967296 := rotl_lt 30 va (by decide) lva
                  generalize rotl 30 va = r30 at *
                  have HT19 : Hid (∀ v : World, Calls Tryd.prog 33 #[.int .u32 (va : Int), .int .i64 19] v fun e w' => e = .returned (.int .u32 ((rotl 19 va : Nat) : Int)) ∧ ∃ n, w' = v.drewN n) := fun v => turn_any va 19 v lva (by decide) (by decide)
                  have br19 : rotl 19 va < 4294967296 := rotl_lt 19 va (by decide) lva
                  generalize rotl 19 va = r19 at *
                  have HT10 : Hid (∀ v : World, Calls Tryd.prog 33 #[.int .u32 (va : Int), .int .i64 10] v fun e w' => e = .returned (.int .u32 ((rotl 10 va : Nat) : Int)) ∧ ∃ n, w' = v.drewN n) := fun v => turn_any va 10 v lva (by decide) (by decide)
                  have br10 : rotl 10 va < 4294967296 := rotl_lt 10 va (by decide) lva
                  generalize rotl 10 va = r10 at *
                  have za := u32_xor_nat r26 r21 br26 br21
                  have ma : r26 ^^^ r21 < 4294967296 := xor_lt br26 br21
                  generalize r26 ^^^ r21 = xa at *
                  have zb := u32_xor_nat xa r7 ma br7
                  have mb : xa ^^^ r7 < 4294967296 := xor_lt ma br7
                  generalize xa ^^^ r7 = s1x at *
                  have zc := u32_xor_nat r30 r19 br30 br19
                  have mc : r30 ^^^ r19 < 4294967296 := xor_lt br30 br19
                  generalize r30 ^^^ r19 = xc at *
                  have zd := u32_xor_nat xc r10 mc br10
                  have md : xc ^^^ r10 < 4294967296 := xor_lt mc br10
                  generalize xc ^^^ r10 = s2x at *
                  have z1 := u32_and_nat ve vf lve lvf
                  have m1 : ve &&& vf < 4294967296 := and_lt lvf
                  have z2 : bits .xor .u32 (ve : Int) 4294967295 = ((ones32 ^^^ ve : Nat) : Int) := by
                    have := u32_xor_nat ve ones32 lve ones32_lt
                    rw [Nat.xor_comm] at this
                    exact this
                  have m2 : ones32 ^^^ ve < 4294967296 := xor_lt ones32_lt lve
                  generalize ve &&& vf = ef at *
                  generalize ones32 ^^^ ve = ne at *
                  have z3 := u32_and_nat ne vg m2 lvg
                  have m3 : ne &&& vg < 4294967296 := and_lt lvg
                  generalize ne &&& vg = ng at *
                  have z4 := u32_xor_nat ef ng m1 m3
                  have m4 : ef ^^^ ng < 4294967296 := xor_lt m1 m3
                  generalize ef ^^^ ng = ch at *
                  have z5 := u32_and_nat va vb lva lvb
                  have z6 := u32_and_nat va vc lva lvc
                  have z7 := u32_and_nat vb vc lvb lvc
                  have m5 : va &&& vb < 4294967296 := and_lt lvb
                  have m6 : va &&& vc < 4294967296 := and_lt lvc
                  have m7 : vb &&& vc < 4294967296 := and_lt lvc
                  generalize va &&& vb = ab at *
                  generalize va &&& vc = ac at *
                  generalize vb &&& vc = bc at *
                  have z8 := u32_xor_nat ab ac m5 m6
                  have m8 : ab ^^^ ac < 4294967296 := xor_lt m5 m6
                  generalize ab ^^^ ac = mm at *
                  have z9 := u32_xor_nat mm bc m8 m7
                  have m9 : mm ^^^ bc < 4294967296 := xor_lt m8 m7
                  generalize mm ^^^ bc = mj at *
                  have vt1' := add_wrap vh s1x
                  have HLt1 := hidM (add32_lt vh s1x)
                  generalize add32 vh s1x = t1 at *
                  have vt2' := add_wrap t1 ch
                  have HLt2 := hidM (add32_lt t1 ch)
                  generalize add32 t1 ch = t2 at *
                  have vt3' := add_wrap t2 kk
                  have HLt3 := hidM (add32_lt t2 kk)
                  generalize add32 t2 kk = t3 at *
                  have vt4' := add_wrap t3 x
                  have HLt4 := hidM (add32_lt t3 x)
                  generalize add32 t3 x = t4 at *
                  have vuu' := add_wrap s2x mj
                  have HLuu := hidM (add32_lt s2x mj)
                  generalize add32 s2x mj = uu at *
                  have vna' := add_wrap t4 uu
                  have HLna := hidM (add32_lt t4 uu)
                  generalize add32 t4 uu = na at *
                  have vnd' := add_wrap vd t4
                  have HLnd := hidM (add32_lt vd t4)
                  generalize add32 vd t4 = nd at *
                  have k64 : (kb : Int) < 64 := by omega
                  have dk : decide ((kb : Int) < 64) = true := by simp; omega
                  clear ma mb mc md m1 m2 m3 m4 m5 m6 m7 m8 m9 br26 br21 br7 br30 br19 br10
                  go_wp2
                  go_quiet (first | (go_at_call 33; first | with_reducible exact Calls.quiet_of (HT26.out _) | with_reducible exact Calls.quiet_of (HT21.out _) | with_reducible exact Calls.quiet_of (HT7.out _)))
                  clear hxc hkc
                  have d0' : (wr.drewN nq).cell? ⟨gv, 0, none⟩ = some (.int .u32 (va : Int)) := d0
                  have d1' : (wr.drewN nq).cell? ⟨gv, 1, none⟩ = some (.int .u32 (vb : Int)) := d1
                  have d2' : (wr.drewN nq).cell? ⟨gv, 2, none⟩ = some (.int .u32 (vc : Int)) := d2
                  have d3' : (wr.drewN nq).cell? ⟨gv, 3, none⟩ = some (.int .u32 (vd : Int)) := d3
                  have d4' : (wr.drewN nq).cell? ⟨gv, 4, none⟩ = some (.int .u32 (ve : Int)) := d4
                  have d5' : (wr.drewN nq).cell? ⟨gv, 5, none⟩ = some (.int .u32 (vf : Int)) := d5
                  have d6' : (wr.drewN nq).cell? ⟨gv, 6, none⟩ = some (.int .u32 (vg : Int)) := d6
                  have d7' : (wr.drewN nq).cell? ⟨gv, 7, none⟩ = some (.int .u32 (vh : Int)) := d7
                  have HBV' : Hid (Below wi.heap.size wi (wr.drewN nq)) := below_drewN HBV.out _
                  clear HBV d0 d1 d2 d3 d4 d5 d6 d7
                  generalize wr.drewN nq = wy at *
                  have d0 := d0'
                  have d1 := d1'
                  have d2 := d2'
                  have d3 := d3'
                  have d4 := d4'
                  have d5 := d5'
                  have d6 := d6'
                  have d7 := d7'
                  have HBV := HBV'
                  clear HBV' d0' d1' d2' d3' d4' d5' d6' d7'
                  go_wp2
                  go_quiet (first | (go_at_call 33; first | with_reducible exact Calls.quiet_of (HT30.out _) | with_reducible exact Calls.quiet_of (HT19.out _) | with_reducible exact Calls.quiet_of (HT10.out _)))
                  have d0' : (wy.drewN nq).cell? ⟨gv, 0, none⟩ = some (.int .u32 (va : Int)) := d0
                  have d1' : (wy.drewN nq).cell? ⟨gv, 1, none⟩ = some (.int .u32 (vb : Int)) := d1
                  have d2' : (wy.drewN nq).cell? ⟨gv, 2, none⟩ = some (.int .u32 (vc : Int)) := d2
                  have d3' : (wy.drewN nq).cell? ⟨gv, 3, none⟩ = some (.int .u32 (vd : Int)) := d3
                  have d4' : (wy.drewN nq).cell? ⟨gv, 4, none⟩ = some (.int .u32 (ve : Int)) := d4
                  have d5' : (wy.drewN nq).cell? ⟨gv, 5, none⟩ = some (.int .u32 (vf : Int)) := d5
                  have d6' : (wy.drewN nq).cell? ⟨gv, 6, none⟩ = some (.int .u32 (vg : Int)) := d6
                  have d7' : (wy.drewN nq).cell? ⟨gv, 7, none⟩ = some (.int .u32 (vh : Int)) := d7
                  have HBV' : Hid (Below wi.heap.size wi (wy.drewN nq)) := below_drewN HBV.out _
                  clear HBV d0 d1 d2 d3 d4 d5 d6 d7
                  generalize wy.drewN nq = wz at *
                  have d0 := d0'
                  have d1 := d1'
                  have d2 := d2'
                  have d3 := d3'
                  have d4 := d4'
                  have d5 := d5'
                  have d6 := d6'
                  have d7 := d7'
                  have HBV := HBV'
                  clear HBV' d0' d1' d2' d3' d4' d5' d6' d7'
                  go_wp2
                  go_region_held3 (fun w' => w'.cell? ⟨gv, 0, none⟩ = some (.int .u32 (va : Int)) ∧ w'.cell? ⟨gv, 1, none⟩ = some (.int .u32 (vb : Int)) ∧ w'.cell? ⟨gv, 2, none⟩ = some (.int .u32 (vc : Int)) ∧ w'.cell? ⟨gv, 3, none⟩ = some (.int .u32 (vd : Int)) ∧ w'.cell? ⟨gv, 4, none⟩ = some (.int .u32 (ve : Int)) ∧ w'.cell? ⟨gv, 5, none⟩ = some (.int .u32 (vf : Int)) ∧ w'.cell? ⟨gv, 6, none⟩ = some (.int .u32 (vg : Int)) ∧ w'.cell? ⟨gv, 7, none⟩ = some (.int .u32 (vh : Int))) (go_keep) (fail)
                  have HBN : Hid (Below wi.heap.size wi (wz.drew.alloc (.cells #[.int .u32 (na : Int), .int .u32 (va : Int), .int .u32 (vb : Int), .int .u32 (vc : Int), .int .u32 (nd : Int), .int .u32 (ve : Int), .int .u32 (vf : Int), .int .u32 (vg : Int)] 30))) := HBV.out.drew.alloc (by have := HBV.out.size; show wi.heap.size ≤ wz.heap.size; omega) _
                  have HBZ := hidM HBV.out.size
                  go_wp2
                  go_roundw
                  case rel => exact ⟨kb + 1, wz.heap.size, 8, na, va, vb, vc, nd, ve, vf, vg, by omega, by go_num, rfl, HLna.out, lva, lvb, lvc, HLnd.out, lve, lvf, lvg, World.cell?_alloc_mark wz.drew #[.int .u32 (na : Int), .int .u32 (va : Int), .int .u32 (vb : Int), .int .u32 (vc : Int), .int .u32 (nd : Int), .int .u32 (ve : Int), .int .u32 (vf : Int), .int .u32 (vg : Int)] 30 (0, 0) 0, World.cell?_alloc_mark wz.drew #[.int .u32 (na : Int), .int .u32 (va : Int), .int .u32 (vb : Int), .int .u32 (vc : Int), .int .u32 (nd : Int), .int .u32 (ve : Int), .int .u32 (vf : Int), .int .u32 (vg : Int)] 30 (0, 0) 1, World.cell?_alloc_mark wz.drew #[.int .u32 (na : Int), .int .u32 (va : Int), .int .u32 (vb : Int), .int .u32 (vc : Int), .int .u32 (nd : Int), .int .u32 (ve : Int), .int .u32 (vf : Int), .int .u32 (vg : Int)] 30 (0, 0) 2, World.cell?_alloc_mark wz.drew #[.int .u32 (na : Int), .int .u32 (va : Int), .int .u32 (vb : Int), .int .u32 (vc : Int), .int .u32 (nd : Int), .int .u32 (ve : Int), .int .u32 (vf : Int), .int .u32 (vg : Int)] 30 (0, 0) 3, World.cell?_alloc_mark wz.drew #[.int .u32 (na : Int), .int .u32 (va : Int), .int .u32 (vb : Int), .int .u32 (vc : Int), .int .u32 (nd : Int), .int .u32 (ve : Int), .int .u32 (vf : Int), .int .u32 (vg : Int)] 30 (0, 0) 4, World.cell?_alloc_mark wz.drew #[.int .u32 (na : Int), .int .u32 (va : Int), .int .u32 (vb : Int), .int .u32 (vc : Int), .int .u32 (nd : Int), .int .u32 (ve : Int), .int .u32 (vf : Int), .int .u32 (vg : Int)] 30 (0, 0) 5, World.cell?_alloc_mark wz.drew #[.int .u32 (na : Int), .int .u32 (va : Int), .int .u32 (vb : Int), .int .u32 (vc : Int), .int .u32 (nd : Int), .int .u32 (ve : Int), .int .u32 (vf : Int), .int .u32 (vg : Int)] 30 (0, 0) 6, World.cell?_alloc_mark wz.drew #[.int .u32 (na : Int), .int .u32 (va : Int), .int .u32 (vb : Int), .int .u32 (vc : Int), .int .u32 (nd : Int), .int .u32 (ve : Int), .int .u32 (vf : Int), .int .u32 (vg : Int)] 30 (0, 0) 7, HST.out, HBN.out, HBZ.out⟩
                  case measure => simp [intOf]; omega
                · obtain rfl : kb = 64 := by omega
                  rw [show ((64 : Nat) : Int) = 64 from rfl]
                  have HV8 : Hid (∀ i, i < 8 → wr.cell? ⟨gv, i, none⟩ = some (.int .u32 (([va, vb, vc, vd, ve, vf, vg, vh] : List Nat).getD i 0 : Nat))) := by
                    intro i hi
                    rcases (by omega : i = 0 ∨ i = 1 ∨ i = 2 ∨ i = 3 ∨ i = 4 ∨ i = 5 ∨ i = 6 ∨ i = 7) with rfl | rfl | rfl | rfl | rfl | rfl | rfl | rfl <;> assumption
                  have HH8 : Hid (∀ i, i < 8 → wr.cell? ⟨g, i, none⟩ = some (.int .u32 (H.getD i 0 : Nat))) := fun i hi => (HBV.out.cell (p := ⟨g, i, none⟩) (World.block_lt_of_cell? wi _ (HHR.out.at i (by rw [HW8.out.len]; exact hi)))).trans (HHR.out.at i (by rw [HW8.out.len]; exact hi))
                  have HME : Hid (mixL2 H p = [add32 (H.getD 0 0) va, add32 (H.getD 1 0) vb, add32 (H.getD 2 0) vc, add32 (H.getD 3 0) vd, add32 (H.getD 4 0) ve, add32 (H.getD 5 0) vf, add32 (H.getD 6 0) vg, add32 (H.getD 7 0) vh]) := by
                    unfold Hid mixL2
                    show [add32 (H.getD 0 0) (rounds2 (sched2 p) (s8Of H) 64).a, add32 (H.getD 1 0) (rounds2 (sched2 p) (s8Of H) 64).b, add32 (H.getD 2 0) (rounds2 (sched2 p) (s8Of H) 64).c, add32 (H.getD 3 0) (rounds2 (sched2 p) (s8Of H) 64).d, add32 (H.getD 4 0) (rounds2 (sched2 p) (s8Of H) 64).e, add32 (H.getD 5 0) (rounds2 (sched2 p) (s8Of H) 64).f, add32 (H.getD 6 0) (rounds2 (sched2 p) (s8Of H) 64).g, add32 (H.getD 7 0) (rounds2 (sched2 p) (s8Of H) 64).h] = _
                    rw [← HR.out]
                  have HMX : Hid (∀ i, i < 8 → (mixL2 H p).getD i 0 = add32 (H.getD i 0) (([va, vb, vc, vd, ve, vf, vg, vh] : List Nat).getD i 0)) := by
                    intro i hi
                    rw [HME.out]
                    rcases (by omega : i = 0 ∨ i = 1 ∨ i = 2 ∨ i = 3 ∨ i = 4 ∨ i = 5 ∨ i = 6 ∨ i = 7) with rfl | rfl | rfl | rfl | rfl | rfl | rfl | rfl <;> rfl
                  have HML : Hid ((mixL2 H p).length = 8) := (mixL2_ok H p).len
                  have HBX : Hid (Below w1.heap.size w1 wr) := HBW.out.trans (HBV.out.mono HBW.out.size)
                  have HLH := HW8.out.len
                  clear d0 d1 d2 d3 d4 d5 d6 d7 HR HME HBV HSC HKI HHR HBW
                  generalize ([va, vb, vc, vd, ve, vf, vg, vh] : List Nat) = VL at *
                  generalize mixL2 H p = R at *
                  obtain ⟨wn, hwn⟩ : ∃ wn : World, wn = wr := ⟨_, rfl⟩
                  rw [← hwn] at HV8 HH8 HBX ⊢
                  clear hwn hkb h64
                  have HN0 := hidM (own_emptyW wn)
                  have HBN0 : Hid (Below wn.heap.size wn (wn.alloc (.cells #[] 30))) := (Below.refl _ _).alloc (Nat.le_refl _) _
                  have hgl : g < wn.heap.size := World.block_lt_of_cell? wn _ (HH8.out 0 (by decide))
                  have hvl : gv < wn.heap.size := World.block_lt_of_cell? wn _ (HV8.out 0 (by decide))
                  go_wp2
                  go_loopw [18, 19, 213] (fun v _ i wr => ∃ (j gn cn : Nat), j ≤ 8 ∧ i = .int .i64 j ∧ v = .slice (some ⟨gn, 0, none⟩) j cn ∧ OwnW wr wn.heap.size (.slice (some ⟨gn, 0, none⟩) j cn) (R.take j) ∧ Below wn.heap.size wn wr) (fun _ _ i _ => 8 - (intOf i).toNat)
                  case atStart => exact ⟨0, wn.heap.size, 0, Nat.zero_le _, rfl, rfl, HN0.out, HBN0.out⟩
                  case round =>
                    obtain ⟨j, gn, cn, hj, rfl, rfl, hown, hbr⟩ := hrel
                    have HO := hidM hown
                    have HBI := hidM hbr
                    clear hown hbr HN0 HBN0
                    by_cases h8 : j < 8
                    · have ch := (HBI.out.cell (p := ⟨g, j, none⟩) hgl).trans (HH8.out j h8)
                      have cv := (HBI.out.cell (p := ⟨gv, j, none⟩) hvl).trans (HV8.out j h8)
                      have HTK : Hid (R.take (j + 1) = R.take j ++ [add32 (H.getD j 0) (VL.getD j 0)]) := by unfold Hid; rw [takeN_snoc R j (by rw [HML.out]; exact h8), HMX.out j h8]
                      generalize H.getD j 0 = x at *
                      generalize VL.getD j 0 = y at *
                      have t1 := add_wrap x y
                      generalize add32 x y = z at *
                      have hgn := (World.ownsRow.lt HO.out gn rfl).1
                      have n1 : g ≠ gn := by omega
                      have n2 : gv ≠ gn := by omega
                      have HEL : Hid ((R.take j).length = j) := by unfold Hid; rw [List.length_take, HML.out]; omega
                      have HLE : Hid ((R.take j).length ≤ 1000000) := by unfold Hid; rw [HEL.out]; omega
                      have kj : (j : Int) < 8 := by omega
                      have HBS := hidM HBI.out.size
                      generalize R.take j = P at *
                      have HOA : Hid (∀ m, OwnW ((wr.drewN m).alloc (.cells #[.int .u32 (z : Int)] 30)) wn.heap.size (.slice (some ⟨gn, 0, none⟩) j cn) P) := fun m => World.ownsRow.alloc (w := wr.drewN m) HO.out _
                      have HCA : Hid (∀ m, ((wr.drewN m).alloc (.cells #[.int .u32 (z : Int)] 30)).cell? ⟨wr.heap.size, 0, none⟩ = some (.int .u32 (z : Int))) := fun m => World.cell?_alloc_mark (wr.drewN m) #[.int .u32 (z : Int)] 30 (0, 0) 0
                      have HBA : Hid (∀ m, wn.heap.size ≤ ((wr.drewN m).alloc (.cells #[.int .u32 (z : Int)] 30)).heap.size) := fun m => by have := HBS.out; simp; omega
                      have HBG : Hid (∀ m w', ((wr.drewN m).alloc (.cells #[.int .u32 (z : Int)] 30)).grownBy w' (some gn) → Below wn.heap.size wn w') := fun m w' hg => ((below_drewN HBI.out m).alloc HBS.out _).grown hg (HBA.out m) (fun k hk => by simp at hk; omega)
                      go_wp2_with fail
                      go_region_held3 (fun w' => w'.cell? ⟨g, j, none⟩ = some (.int .u32 (x : Int)) ∧ w'.cell? ⟨gv, j, none⟩ = some (.int .u32 (y : Int))) (first | exact keepN2 hg7 n1 n2 (by assumption) | go_keep)
                        (first
                          | (refine step_append_W rfl _ _ rfl i0 hi hz0 hz1 hz2 wn.heap.size gn j cn P z rfl HEL.out (HOA.out 1) ⟨wr.heap.size, 0, none⟩ 1 rfl (HCA.out 1) HLE.out (HBA.out 1) ?_; intro g7 c7 w7 ho7 hg7 hkp; have HO7 := hidM ho7; have HB7 := hidM (HBG.out 1 _ hg7)))
                      clear hkp ho7 hg7
                      go_wp2
                      go_roundw
                      case rel => exact ⟨j + 1, g7, c7, by omega, by go_num, rfl, by rw [HTK.out]; exact HO7.out, HB7.out⟩
                      case measure => simp [intOf]; omega
                    · obtain rfl : j = 8 := by omega
                      rw [show ((8 : Nat) : Int) = 8 from rfl]
                      have HOR : Hid (OwnW wr w1.heap.size (.slice (some ⟨gn, 0, none⟩) 8 cn) R) := by
                        have := HO.out
                        rw [List.take_of_length_le (by rw [HML.out]; exact Nat.le_refl _)] at this
                        exact own_mono this HBX.out.size
                      have HBR : Hid (Below w1.heap.size w1 wr) := HBX.out.trans (HBI.out.mono HBX.out.size)
                      have hq3 : q2 = 64 * (k + 1) := by have := HQ.out; omega
                      clear HO HBI h8 hj
                      go_wp2
                      go_roundw
                      case rel => exact ⟨k + 1, q2, gn, cn, R, by omega, hq3, by go_num, rfl, HOR.out, HABS.out.symm, HBR.out⟩
                      case measure => simp [intOf]; omega
        · obtain rfl : k = K := by omega
          have hqL : ¬ ((q : Int) < (LM : Int)) := by omega
          have HWA : Hid (WAt wr (some ⟨g, 0, none⟩) H) := .inr ⟨g, 0, rfl, fun i hi => by rw [Nat.zero_add]; exact HOH.out.at i hi⟩
          have HSX : Hid (sha2L s.data.toList = wordsB H) := by unfold Hid; rw [HSH.out, ← HAB.out]
          have HBE : Hid (Below w.heap.size w wr) := HB1.out.trans (HB.out.mono HB1.out.size)
          go_wp2_with fail
          refine (out_any (some ⟨g, 0, none⟩) c 8 H _ HW8.out.1 (by decide) HW8.out.2 HWA.out).mono ?_
          rintro _ w9 ⟨rfl, hb9⟩
          rw [← HSX.out]
          generalize hsx : (⟨(sha2L s.data.toList).toArray⟩ : ByteArray) = B at *
          clear HSX HSH
          go_wp2
          go_ret
          exact ⟨by rw [hsx]; rfl, HBE.out.trans (hb9.mono HBE.out.size)⟩
end Go.Proofs.YtbodjopdhciaeabDoor
