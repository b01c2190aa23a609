/-
  Walks of the document's SHA-1: Sum1.
-/
import Derived.Test.YtbodjopdhciaeabDoorRefC
namespace Go.Proofs.YtbodjopdhciaeabDoor
open Go.RowKit

theorem pad_blocks (M : List UInt8) : ∃ K, (M ++ padB M.length).length = 64 * K ∧ 1 ≤ K ∧ 64 * K ≤ M.length + 100 := by
  have h := pad_sum M.length
  have hl : (padB M.length).length ≤ 100 := by rw [padB_len]; unfold padN; omega
  have h9 : 9 ≤ (padB M.length).length := by rw [padB_len]; omega
  refine ⟨(M.length + (padB M.length).length) / 64, ?_, ?_, ?_⟩
  · rw [List.length_append]; omega
  · omega
  · omega
theorem wordsAt_blocks (mix : List Nat → List UInt8 → List Nat) (s : List Nat) (M : List UInt8) (K : Nat) (h : M.length = 64 * K) : wordsAt mix s M = absN mix s M K := by
  unfold wordsAt; rw [h, Nat.mul_comm, Nat.mul_div_cancel _ (by decide)]
theorem blk_len (M : List UInt8) (k K : Nat) (h : M.length = 64 * K) (hk : k < K) : (blk M k).length = 64 := by
  unfold blk; rw [List.length_take, List.length_drop]; omega
theorem OwnM.range {w : World} {B : Nat} {v : Value} {M : List UInt8} (h : OwnM w B v M) : ∃ g cap, v = .slice (some ⟨g, 0, none⟩) M.length cap ∧ B ≤ g ∧ g < w.heap.size ∧ M.length ≤ cap ∧ cap ≤ maxLen ∧ ∀ k K, M.length = 64 * K → k < K → w.rangeAt g (64 * k) (bytesV (blk M k)) := by
  have h' := h
  obtain ⟨g, cap, cur, fz, h1, hb, hg, hf, hl, hm, hs, ht⟩ := h'
  obtain ⟨g2, cap2, e1, _, _, _, hc⟩ := h.cells
  rw [h1] at e1
  simp only [Value.slice.injEq, Option.some.injEq, Addr.mk.injEq, and_true, true_and] at e1
  obtain ⟨rfl, rfl⟩ := e1
  refine ⟨g, cap, h1, hb, (Array.getElem?_eq_some_iff.1 hg).1, hl, hm, fun k K hK hk => ?_⟩
  intro j v hv
  have hj : j < (blk M k).length := by have := (List.getElem?_eq_some_iff.1 hv).1; rwa [bytesV_len] at this
  have hj64 : j < 64 := by rw [blk_len M k K hK hk] at hj; exact hj
  rw [bytesV_at _ j hj] at hv
  rw [hc (64 * k + j) (by omega)]
  simp only [Option.some.injEq] at hv
  rw [← hv]
  have e : (blk M k)[j]? = M[64 * k + j]? := by unfold blk; rw [List.getElem?_take, if_pos hj64, List.getElem?_drop]
  rw [List.getElem?_eq_getElem hj, List.getElem?_eq_getElem (show 64 * k + j < M.length by omega)] at e
  rw [Option.some.inj e]
set_option maxRecDepth 100000 in
theorem mixL1_of (x0 x1 x2 x3 x4 a b c d e : Nat) (p : List UInt8) (h : (a, b, c, d, e) = rounds1 (sched1 p) (x0, x1, x2, x3, x4) 80) : mixL1 [x0, x1, x2, x3, x4] p = [add32 x0 a, add32 x1 b, add32 x2 c, add32 x3 d, add32 x4 e] := by
  unfold mixL1
  show [add32 x0 (rounds1 (sched1 p) (x0, x1, x2, x3, x4) 80).1, add32 x1 (rounds1 (sched1 p) (x0, x1, x2, x3, x4) 80).2.1, add32 x2 (rounds1 (sched1 p) (x0, x1, x2, x3, x4) 80).2.2.1, add32 x3 (rounds1 (sched1 p) (x0, x1, x2, x3, x4) 80).2.2.2.1, add32 x4 (rounds1 (sched1 p) (x0, x1, x2, x3, x4) 80).2.2.2.2] = _
  rw [← h]

set_option maxRecDepth 100000 in
set_option maxHeartbeats 8000000 in
theorem rsum1_any (s : ByteArray) (w : World) (hs : s.size ≤ 1000000) :
    Calls Tryd.prog 10 #[.string s] w fun e w' => e = .returned (.string ⟨(sha1L s.data.toList).toArray⟩) ∧ Below w.heap.size w w' := by
  obtain ⟨i0, hi, hz0, hz1, hz2⟩ := info_parts Tryd.info30
  go_enter Tryd.func10, Tryd.ntmps10
  go_wp2_with fail
  refine (pad_any s w hs).mono ?_
  rintro _ w1 ⟨⟨v1, rfl, ho1⟩, hb1⟩
  obtain ⟨K, hK, hK1, hKb⟩ := pad_blocks s.data.toList
  have hsl : s.data.toList.length = s.size := by simp
  rw [hsl] at hK hKb
  obtain ⟨gp, cap, rfl, hgp1, hgp2, hcap, hcm, hrg⟩ := ho1.range
  have HSH : Hid (sha1L s.data.toList = wordsB (absN mixL1 h0 (s.data.toList ++ padB s.size) K)) := by
    unfold Hid sha1L; rw [hsl, wordsAt_blocks _ _ _ K hK]
  clear ho1
  generalize s.data.toList ++ padB s.size = M at *
  have HRG := hidM (fun k hk => hrg k K hK hk)
  have HKM := hidM hK
  have HB1 := hidM hb1
  rw [hK] at hcap
  rw [hK]
  clear hrg hK hb1
  obtain ⟨LM, hLM⟩ : ∃ LM, LM = 64 * K := ⟨_, rfl⟩
  rw [← hLM] at hcap hKb ⊢
  have HLM := hidM hLM
  have lm1 : 64 * K ≤ LM := by omega
  have lm2 : LM ≤ 64 * K := by omega
  have HCM : Hid (cap ≤ maxLen) := hcm
  have hcap9 : (cap : Int) ≤ 9223372036854775807 := by unfold maxLen at hcm; omega
  clear hLM hcm
  have HC0 : Hid ((w1.alloc (.cells #[.int .u32 1732584193, .int .u32 4023233417, .int .u32 2562383102, .int .u32 271733878, .int .u32 3285377520] 30)).heap[w1.heap.size]? = some (.cells #[.int .u32 1732584193, .int .u32 4023233417, .int .u32 2562383102, .int .u32 271733878, .int .u32 3285377520] 30 (0, 0))) := heap_alloc_new w1 _
  have HBZ : Hid (Below w1.heap.size w1 (w1.alloc (.cells #[.int .u32 1732584193, .int .u32 4023233417, .int .u32 2562383102, .int .u32 271733878, .int .u32 3285377520] 30))) := (Below.refl _ _).alloc (Nat.le_refl _) _
  go_wp2
  go_loopw [4, 5] (fun hv av wr => ∃ k q g x0 x1 x2 x3 x4 : Nat, k ≤ K ∧ q = 64 * k ∧ av = .int .i64 q ∧ hv = .slice (some ⟨g, 0, none⟩) 5 5 ∧ (wr.cell? ⟨g, 0, none⟩ = some (.int .u32 (x0 : Int)) ∧ wr.cell? ⟨g, 1, none⟩ = some (.int .u32 (x1 : Int)) ∧ wr.cell? ⟨g, 2, none⟩ = some (.int .u32 (x2 : Int)) ∧ wr.cell? ⟨g, 3, none⟩ = some (.int .u32 (x3 : Int)) ∧ wr.cell? ⟨g, 4, none⟩ = some (.int .u32 (x4 : Int))) ∧ [x0, x1, x2, x3, x4] = absN mixL1 h0 M k ∧ Below w1.heap.size w1 wr) (fun _ av _ => LM - (intOf av).toNat)
  case atStart => exact ⟨0, 0, w1.heap.size, 1732584193, 4023233417, 2562383102, 271733878, 3285377520, Nat.zero_le _, rfl, rfl, rfl, ⟨by rw [cell_of_row _ _ 0 _ 30 (0, 0) HC0.out]; rfl, by rw [cell_of_row _ _ 1 _ 30 (0, 0) HC0.out]; rfl, by rw [cell_of_row _ _ 2 _ 30 (0, 0) HC0.out]; rfl, by rw [cell_of_row _ _ 3 _ 30 (0, 0) HC0.out]; rfl, by rw [cell_of_row _ _ 4 _ 30 (0, 0) HC0.out]; rfl⟩, rfl, HBZ.out⟩
  case round =>
    obtain ⟨k, q, g, x0, x1, x2, x3, x4, hk, hq, rfl, rfl, hcells, habs, hbr⟩ := hrel
    have HAB := hidM habs
    have HCE := hidM hcells
    have HB := hidM hbr
    have HQ := hidM hq
    clear habs hcells hbr HC0 HBZ
    have hW5 : W32 5 [x0, x1, x2, x3, x4] := by rw [HAB.out]; exact absN_ok h0_ok (fun h p _ => mixL1_ok h p) M k
    have bx0 : x0 < 4294967296 := hW5.at5 0 x0 rfl
    have bx1 : x1 < 4294967296 := hW5.at5 1 x1 rfl
    have bx2 : x2 < 4294967296 := hW5.at5 2 x2 rfl
    have bx3 : x3 < 4294967296 := hW5.at5 3 x3 rfl
    have bx4 : x4 < 4294967296 := hW5.at5 4 x4 rfl
    by_cases hlt : k < K
    · have hqL : (q : Int) < (LM : Int) := by omega
      obtain ⟨q2, hq2⟩ : ∃ q2, q2 = q + 64 := ⟨_, rfl⟩
      have wq : IntKind.i64.wrap ((q : Int) + 64) = (q2 : Int) := by rw [IntKind.wrap_i64]; omega
      have wq' : (q : Int) + 64 = (q2 : Int) := by omega
      have s1 : (q : Int) ≤ (q2 : Int) := by omega
      have s2 : (q2 : Int) ≤ (cap : Int) := by omega
      have s3 : (0 : Int) ≤ (q : Int) := by omega
      have s4 : q2 - q = 64 := by omega
      have s5 : q < cap := by omega
      have hRB := HRG.out k hlt
      rw [← hq] at hRB
      have HRB : Hid (wr.rangeAt gp q (bytesV (blk M k))) := rangeW_keep hRB HB.out hgp2
      have HBL : Hid ((blk M k).length = 64) := blk_len M k K HKM.out hlt
      have HGP : Hid (gp < wr.heap.size) := Nat.lt_of_lt_of_le hgp2 HB.out.size
      have HABS : Hid (absN mixL1 h0 M (k + 1) = mixL1 [x0, x1, x2, x3, x4] (blk M k)) := by unfold Hid; rw [absN, ← HAB.out]
      clear hRB hq hq2
      generalize blk M k = p at *
      go_wp2_with fail
      refine (words_any gp q (cap - q) p wr HBL.out HRB.out HGP.out).mono ?_
      rintro _ w2 ⟨⟨v2, rfl, ho2⟩, hb2⟩
      have hl16 : (words16 p).length = 16 := by simp [words16]
      obtain ⟨g2, c2, rfl⟩ : ∃ g2 c2, v2 = .slice (some ⟨g2, 0, none⟩) 16 c2 := by
        rcases ho2.2 with ⟨_, hn⟩ | ⟨g2, c2, cur, hv, _⟩
        · rw [hl16] at hn; omega
        · exact ⟨g2, c2, by rw [hv, hl16]⟩
      have HO2 := hidM ho2
      have HB2 := hidM hb2
      obtain ⟨wo, hwo⟩ : ∃ wo : World, wo = wr := ⟨_, rfl⟩
      rw [← hwo] at HO2 HB2 HCE HB HRB HGP
      have HL16 := hidM hl16
      clear hwo ho2 hb2 hl16
      go_wp2
      go_loopw [6, 7] (fun v i wr => ∃ n N g6 c6 : Nat, n ≤ 64 ∧ N = 16 + n ∧ i = .int .i64 N ∧ v = .slice (some ⟨g6, 0, none⟩) N c6 ∧ wo.heap.size ≤ g6 ∧ OwnW wr wo.heap.size (.slice (some ⟨g6, 0, none⟩) N c6) (ext1 n (words16 p)) ∧ Below wo.heap.size wo wr) (fun _ i _ => 80 - (intOf i).toNat)
      case atStart => exact ⟨0, 16, g2, c2, by decide, rfl, rfl, rfl, (World.ownsRow.lt HO2.out g2 rfl).1, HO2.out, HB2.out⟩
      case round =>
        obtain ⟨n, N, g6, c6, hn, hN, rfl, rfl, hg6, hown, hbr⟩ := hrel
        clear HO2 HB2
        have HO := hidM hown
        have HBI := hidM hbr
        have HEL : Hid ((ext1 n (words16 p)).length = N) := by unfold Hid; rw [ext1_len, HL16.out, hN]
        have m1 : N ≤ 16 + n := by omega
        have m2 : 16 + n ≤ N := by omega
        have HNN := hidM hN
        clear hown hbr hN
        by_cases h64 : n < 64
        · obtain ⟨a3, ea3⟩ : ∃ a, a = N - 3 := ⟨_, rfl⟩
          obtain ⟨a8, ea8⟩ : ∃ a, a = N - 8 := ⟨_, rfl⟩
          obtain ⟨a14, ea14⟩ : ∃ a, a = N - 14 := ⟨_, rfl⟩
          obtain ⟨a16, ea16⟩ : ∃ a, a = N - 16 := ⟨_, rfl⟩
          have w3 : IntKind.i64.wrap ((N : Int) - 3) = (a3 : Int) := by rw [i64_small _ (by omega) (by omega)]; omega
          have l3 : (a3 : Int) < (N : Int) := by omega
          have k3 : a3 < N := by omega
          have cc3 := HO.out.at a3 (by rw [HEL.out]; omega)
          have w8 : IntKind.i64.wrap ((N : Int) - 8) = (a8 : Int) := by rw [i64_small _ (by omega) (by omega)]; omega
          have l8 : (a8 : Int) < (N : Int) := by omega
          have k8 : a8 < N := by omega
          have cc8 := HO.out.at a8 (by rw [HEL.out]; omega)
          have w14 : IntKind.i64.wrap ((N : Int) - 14) = (a14 : Int) := by rw [i64_small _ (by omega) (by omega)]; omega
          have l14 : (a14 : Int) < (N : Int) := by omega
          have k14 : a14 < N := by omega
          have cc14 := HO.out.at a14 (by rw [HEL.out]; omega)
          have w16 : IntKind.i64.wrap ((N : Int) - 16) = (a16 : Int) := by rw [i64_small _ (by omega) (by omega)]; omega
          have l16 : (a16 : Int) < (N : Int) := by omega
          have k16 : a16 < N := by omega
          have cc16 := HO.out.at a16 (by rw [HEL.out]; omega)
          have dN : decide ((N : Int) < 80) = true := by simp; omega
          obtain ⟨y3, ey3⟩ : ∃ y, y = (ext1 n (words16 p)).getD a3 0 := ⟨_, rfl⟩
          rw [← ey3] at cc3
          have b3 : y3 < 4294967296 := by rw [ey3]; exact ext1_bound p n a3
          obtain ⟨y8, ey8⟩ : ∃ y, y = (ext1 n (words16 p)).getD a8 0 := ⟨_, rfl⟩
          rw [← ey8] at cc8
          have b8 : y8 < 4294967296 := by rw [ey8]; exact ext1_bound p n a8
          obtain ⟨y14, ey14⟩ : ∃ y, y = (ext1 n (words16 p)).getD a14 0 := ⟨_, rfl⟩
          rw [← ey14] at cc14
          have b14 : y14 < 4294967296 := by rw [ey14]; exact ext1_bound p n a14
          obtain ⟨y16, ey16⟩ : ∃ y, y = (ext1 n (words16 p)).getD a16 0 := ⟨_, rfl⟩
          rw [← ey16] at cc16
          have b16 : y16 < 4294967296 := by rw [ey16]; exact ext1_bound p n a16
          have HNX : Hid (nxt1 (ext1 n (words16 p)) (ext1 n (words16 p)).length = rotl 1 (((y3 ^^^ y8) ^^^ y14) ^^^ y16)) := by
            unfold Hid nxt1; rw [HEL.out, ← ea3, ← ea8, ← ea14, ← ea16, ey3, ey8, ey14, ey16]
          obtain ⟨x1', ex1⟩ : ∃ x, x = y3 ^^^ y8 := ⟨_, rfl⟩
          obtain ⟨x2', ex2⟩ : ∃ x, x = x1' ^^^ y14 := ⟨_, rfl⟩
          obtain ⟨x3', ex3⟩ : ∃ x, x = x2' ^^^ y16 := ⟨_, rfl⟩
          have q1 : bits .xor .u32 (y3 : Int) (y8 : Int) = (x1' : Int) := by rw [ex1]; exact u32_xor_nat _ _ b3 b8
          have bx1' : x1' < 4294967296 := by rw [ex1]; exact xor_lt b3 b8
          have q2' : bits .xor .u32 (x1' : Int) (y14 : Int) = (x2' : Int) := by rw [ex2]; exact u32_xor_nat _ _ bx1' b14
          have bx2' : x2' < 4294967296 := by rw [ex2]; exact xor_lt bx1' b14
          have q3 : bits .xor .u32 (x2' : Int) (y16 : Int) = (x3' : Int) := by rw [ex3]; exact u32_xor_nat _ _ bx2' b16
          have bx3' : x3' < 4294967296 := by rw [ex3]; exact xor_lt bx2' b16
          rw [← ex1, ← ex2, ← ex3] at HNX
          have HTN : Hid (∀ v : World, Calls Tryd.prog 33 #[.int .u32 (x3' : Int), .int .i64 1] v fun e w' => e = .returned (.int .u32 ((rotl 1 x3' : Nat) : Int)) ∧ ∃ n, w' = v.drewN n) := fun v => turn_any x3' 1 v bx3' (by decide) (by decide)
          obtain ⟨z, hz⟩ : ∃ z, z = rotl 1 x3' := ⟨_, rfl⟩
          rw [← hz] at HTN HNX
          have HEX : Hid (ext1 (n + 1) (words16 p) = ext1 n (words16 p) ++ [z]) := by unfold Hid; rw [ext1_succ, HNX.out]
          have HBS := hidM HBI.out.size
          have HLE : Hid ((ext1 n (words16 p)).length ≤ 1000000) := by unfold Hid; rw [HEL.out]; omega
          clear ey3 ey8 ey14 ey16 ex1 ex2 ex3 ea3 ea8 ea14 ea16 hz HNX
          generalize ext1 n (words16 p) = P at *
          have HOA : Hid (∀ m, OwnW ((wr.drewN m).alloc (.cells #[.int .u32 (z : Int)] 30)) wo.heap.size (.slice (some ⟨g6, 0, none⟩) N c6) P) := fun m => World.ownsRow.alloc (w := wr.drewN m) HO.out _
          have HCA : Hid (∀ m, ((wr.drewN m).alloc (.cells #[.int .u32 (z : Int)] 30)).cell? ⟨wr.heap.size, 0, none⟩ = some (.int .u32 (z : Int))) := fun m => World.cell?_alloc_mark (wr.drewN m) #[.int .u32 (z : Int)] 30 (0, 0) 0
          have HBA : Hid (∀ m, wo.heap.size ≤ ((wr.drewN m).alloc (.cells #[.int .u32 (z : Int)] 30)).heap.size) := fun m => by have := HBS.out; simp; omega
          have HBG : Hid (∀ m w', ((wr.drewN m).alloc (.cells #[.int .u32 (z : Int)] 30)).grownBy w' (some g6) → Below wo.heap.size wo w') := fun m w' hg => ((below_drewN HBI.out m).alloc HBS.out _).grown hg (HBA.out m) (fun k hk => by simp at hk; omega)
          go_wp2_with fail
          go_region_held3 (fun w' => w'.cell? ⟨g6, a3, none⟩ = some (.int .u32 (y3 : Int)) ∧ w'.cell? ⟨g6, a8, none⟩ = some (.int .u32 (y8 : Int)) ∧ w'.cell? ⟨g6, a14, none⟩ = some (.int .u32 (y14 : Int)) ∧ w'.cell? ⟨g6, a16, none⟩ = some (.int .u32 (y16 : Int))) (first | exact keepW4 hkp k3 k8 k14 k16 (by assumption) | go_keep)
            (first
              | (go_at_call 33; with_reducible refine (HTN.out _).mono ?_; rintro e w' ⟨rfl, nT, rfl⟩)
              | (refine step_append_W rfl _ _ rfl i0 hi hz0 hz1 hz2 wo.heap.size g6 N c6 P z rfl HEL.out (HOA.out _) ⟨wr.heap.size, 0, none⟩ 1 rfl (HCA.out _) HLE.out (HBA.out _) ?_; intro g7 c7 w7 ho7 hg7 hkp; have HO7 := hidM ho7; have HB7 := hidM (HBG.out _ _ hg7)))
          clear hkp ho7 hg7
          have HG7 : Hid (wo.heap.size ≤ g7) := (World.ownsRow.lt HO7.out g7 rfl).1
          go_wp2
          go_roundw
          case rel => exact ⟨n + 1, N + 1, g7, c7, by omega, by rw [HNN.out]; omega, by go_num, rfl, HG7.out, by rw [HEX.out]; exact HO7.out, HB7.out⟩
          case measure => simp [intOf]; omega
        · obtain rfl : n = 64 := by omega
          obtain rfl : N = 80 := by omega
          have HSC : Hid (OwnW wr wo.heap.size (.slice (some ⟨g6, 0, none⟩) 80 c6) (sched1 p)) := HO.out
          have hce := HCE.out
          have HC5 : Hid (wr.cell? ⟨g, 0, none⟩ = some (.int .u32 (x0 : Int)) ∧ wr.cell? ⟨g, 1, none⟩ = some (.int .u32 (x1 : Int)) ∧ wr.cell? ⟨g, 2, none⟩ = some (.int .u32 (x2 : Int)) ∧ wr.cell? ⟨g, 3, none⟩ = some (.int .u32 (x3 : Int)) ∧ wr.cell? ⟨g, 4, none⟩ = some (.int .u32 (x4 : Int))) := by
            have hb : ∀ i v, wo.cell? ⟨g, i, none⟩ = some v → wr.cell? ⟨g, i, none⟩ = some v := fun i v hv => (HBI.out.cell (p := ⟨g, i, none⟩) (World.block_lt_of_cell? wo _ hv)).trans hv
            exact ⟨hb _ _ hce.1, hb _ _ hce.2.1, hb _ _ hce.2.2.1, hb _ _ hce.2.2.2.1, hb _ _ hce.2.2.2.2⟩
          clear HO hce
          obtain ⟨r0, r1, r2, r3, r4⟩ := HC5.out
          rw [show ((80 : Nat) : Int) = 80 from rfl]
          go_wp2
          go_quiet (fail)
          obtain ⟨wi, hwi⟩ : ∃ wi : World, wi = wr := ⟨_, rfl⟩
          rw [← hwi] at HSC HC5 HBI r0 r1 r2 r3 r4 ⊢
          clear hwi
          go_wp2
          go_loopw [8, 9, 10, 11, 12, 13, 14, 15, 16] (fun va vb vc vd ve i _ _ _ wr => ∃ (k a b c d e m : Nat), k ≤ 80 ∧ i = .int .i64 (k : Int) ∧ va = .int .u32 (a : Int) ∧ vb = .int .u32 (b : Int) ∧ vc = .int .u32 (c : Int) ∧ vd = .int .u32 (d : Int) ∧ ve = .int .u32 (e : Int) ∧
      a < 4294967296 ∧ b < 4294967296 ∧ c < 4294967296 ∧ d < 4294967296 ∧ e < 4294967296 ∧ (a, b, c, d, e) = rounds1 (sched1 p) (x0, x1, x2, x3, x4) k ∧ wr = wi.drewN m) (fun _ _ _ _ _ i _ _ _ _ => 80 - (intOf i).toNat)
          case atStart => exact ⟨0, x0, x1, x2, x3, x4, _, by omega, rfl, rfl, rfl, rfl, rfl, rfl, bx0, bx1, bx2, bx3, bx4, rfl, rfl⟩
          case round =>
            obtain ⟨kb, a, b, c, d, e, m, hkb, rfl, rfl, rfl, rfl, rfl, rfl, la, lb, lc, ld, le, hr, rfl⟩ := hrel
            have HR := hidM hr
            clear hr
            by_cases h80 : kb < 80
            · have hx := HSC.out.at kb (by unfold sched1; rw [ext1_len]; simp [words16]; omega)
              have lx : (sched1 p).getD kb 0 < 4294967296 := ext1_bound p 64 kb
              have HST : Hid ((add32 (add32 (add32 (add32 (rotl 5 a) (f1 kb b c d)) e) (k1 kb)) ((sched1 p).getD kb 0), a, rotl 30 b, c, d) = rounds1 (sched1 p) (x0, x1, x2, x3, x4) (kb + 1)) := by
                unfold Hid; rw [rounds1_succ, ← HR.out]; rfl
              have HTA : Hid (∀ v : World, Calls Tryd.prog 33 #[.int .u32 (a : Int), .int .i64 5] v fun e w' => e = .returned (.int .u32 ((rotl 5 a : Nat) : Int)) ∧ ∃ n, w' = v.drewN n) := fun v => turn_any a 5 v la (by decide) (by decide)
              have HTB : Hid (∀ v : World, Calls Tryd.prog 33 #[.int .u32 (b : Int), .int .i64 30] v fun e w' => e = .returned (.int .u32 ((rotl 30 b : Nat) : Int)) ∧ ∃ n, w' = v.drewN n) := fun v => turn_any b 30 v lb (by decide) (by decide)
              have HRB2 : Hid (rotl 30 b < 4294967296) := rotl_lt 30 b (by decide) lb
              generalize (sched1 p).getD kb 0 = x at *
              generalize rotl 5 a = ra at *
              generalize rotl 30 b = rb at *
              clear HR
              by_cases h20 : kb < 20
              · have HFK : Hid (f1 kb b c d = (b &&& c) ||| ((ones32 ^^^ b) &&& d) ∧ k1 kb = 1518500249) := by unfold Hid f1 k1; simp [h20]
                rw [HFK.out.1, HFK.out.2] at HST
                clear HFK
                have z1 := u32_and_nat b c lb lc
                have z2 : bits .xor .u32 (b : Int) 4294967295 = ((ones32 ^^^ b : Nat) : Int) := by
                  have := u32_xor_nat b ones32 lb ones32_lt
                  rw [Nat.xor_comm] at this
                  exact this
                have m2 : ones32 ^^^ b < 4294967296 := xor_lt ones32_lt lb
                have m1 : b &&& c < 4294967296 := and_lt lc
                generalize b &&& c = bc at *
                generalize ones32 ^^^ b = nb' at *
                have z3 := u32_and_nat nb' d m2 ld
                have m3 : nb' &&& d < 4294967296 := and_lt ld
                generalize nb' &&& d = nd at *
                have z4 := u32_or_nat bc nd m1 m3
                generalize bc ||| nd = ff at *
                have y1 := u32_xor_nat b c lb lc
                have y2 := u32_xor_nat (b ^^^ c) d (xor_lt lb lc) ld
                clear m1 m2 m3
                have vt1 := add_wrap ra ff
                have ut1 := add_mod ra ff
                have HLt1 := hidM (add32_lt ra ff)
                generalize add32 ra ff = t1 at *
                have vt2 := add_wrap t1 e
                have ut2 := add_mod t1 e
                have HLt2 := hidM (add32_lt t1 e)
                generalize add32 t1 e = t2 at *
                have vt3 : IntKind.u32.wrap ((t2 : Int) + 1518500249) = ((add32 t2 1518500249 : Nat) : Int) := add_wrap t2 1518500249
                have ut3 : ((t2 : Int) + 1518500249) % 4294967296 = ((add32 t2 1518500249 : Nat) : Int) := add_mod t2 1518500249
                generalize add32 t2 1518500249 = t3 at *
                have vna := add_wrap t3 x
                have una := add_mod t3 x
                have HLna := hidM (add32_lt t3 x)
                generalize add32 t3 x = na at *
                have i20 : decide ((kb : Int) < 20) = true := by simp; omega
                have i40 : decide ((kb : Int) < 40) = true := by simp; omega
                have i60 : decide ((kb : Int) < 60) = true := by simp; omega
                clear lx
                have k80 : (kb : Int) < 80 := by omega
                go_wp2
                go_quiet (first
                  | (go_at_call 33; with_reducible exact quiet_ex (HTA.out _)))
                go_wp2_with fail
                refine (HTB.out _).mono ?_
                rintro e' w' ⟨rfl, nz, rfl⟩
                go_wp2
                go_roundw
                case rel => exact ⟨kb + 1, na, a, rb, c, d, _, by omega, by go_num, val_int (by omega), rfl, rfl, rfl, rfl, HLna.out, la, HRB2.out, lc, ld, HST.out, rfl⟩
                case measure => simp [intOf]; omega
              · by_cases h40 : kb < 40
                · have HFK : Hid (f1 kb b c d = (b ^^^ c) ^^^ d ∧ k1 kb = 1859775393) := by unfold Hid f1 k1; simp [h20, h40]
                  rw [HFK.out.1, HFK.out.2] at HST
                  clear HFK
                  have z1 := u32_xor_nat b c lb lc
                  have m1 : b ^^^ c < 4294967296 := xor_lt lb lc
                  generalize b ^^^ c = bc at *
                  have z2 := u32_xor_nat bc d m1 ld
                  generalize bc ^^^ d = ff at *
                  clear m1
                  have vt1 := add_wrap ra ff
                  have ut1 := add_mod ra ff
                  have HLt1 := hidM (add32_lt ra ff)
                  generalize add32 ra ff = t1 at *
                  have vt2 := add_wrap t1 e
                  have ut2 := add_mod t1 e
                  have HLt2 := hidM (add32_lt t1 e)
                  generalize add32 t1 e = t2 at *
                  have vt3 : IntKind.u32.wrap ((t2 : Int) + 1859775393) = ((add32 t2 1859775393 : Nat) : Int) := add_wrap t2 1859775393
                  have ut3 : ((t2 : Int) + 1859775393) % 4294967296 = ((add32 t2 1859775393 : Nat) : Int) := add_mod t2 1859775393
                  generalize add32 t2 1859775393 = t3 at *
                  have vna := add_wrap t3 x
                  have una := add_mod t3 x
                  have HLna := hidM (add32_lt t3 x)
                  generalize add32 t3 x = na at *
                  have i20 : decide ((kb : Int) < 20) = false := by simp; omega
                  have i40 : decide ((kb : Int) < 40) = true := by simp; omega
                  have i60 : decide ((kb : Int) < 60) = true := by simp; omega
                  clear lx
                  have k80 : (kb : Int) < 80 := by omega
                  go_wp2
                  go_quiet (first
                    | (go_at_call 33; with_reducible exact quiet_ex (HTA.out _)))
                  go_wp2_with fail
                  refine (HTB.out _).mono ?_
                  rintro e' w' ⟨rfl, nz, rfl⟩
                  go_wp2
                  go_roundw
                  case rel => exact ⟨kb + 1, na, a, rb, c, d, _, by omega, by go_num, val_int (by omega), rfl, rfl, rfl, rfl, HLna.out, la, HRB2.out, lc, ld, HST.out, rfl⟩
                  case measure => simp [intOf]; omega
                · by_cases h60 : kb < 60
                  · have HFK : Hid (f1 kb b c d = ((b &&& c) ||| (b &&& d)) ||| (c &&& d) ∧ k1 kb = 2400959708) := by unfold Hid f1 k1; simp [h20, h40, h60]
                    rw [HFK.out.1, HFK.out.2] at HST
                    clear HFK
                    have z1 := u32_and_nat b c lb lc
                    have z2 := u32_and_nat b d lb ld
                    have z3 := u32_and_nat c d lc ld
                    have m1 : b &&& c < 4294967296 := and_lt lc
                    have m2 : b &&& d < 4294967296 := and_lt ld
                    have m3 : c &&& d < 4294967296 := and_lt ld
                    generalize b &&& c = bc at *
                    generalize b &&& d = bd at *
                    generalize c &&& d = cd at *
                    have z4 := u32_or_nat bc bd m1 m2
                    have m4 : bc ||| bd < 4294967296 := or_lt m1 m2
                    generalize bc ||| bd = oo at *
                    have z5 := u32_or_nat oo cd m4 m3
                    generalize oo ||| cd = ff at *
                    clear m1 m2 m3 m4
                    have vt1 := add_wrap ra ff
                    have ut1 := add_mod ra ff
                    have HLt1 := hidM (add32_lt ra ff)
                    generalize add32 ra ff = t1 at *
                    have vt2 := add_wrap t1 e
                    have ut2 := add_mod t1 e
                    have HLt2 := hidM (add32_lt t1 e)
                    generalize add32 t1 e = t2 at *
                    have vt3 : IntKind.u32.wrap ((t2 : Int) + 2400959708) = ((add32 t2 2400959708 : Nat) : Int) := add_wrap t2 2400959708
                    have ut3 : ((t2 : Int) + 2400959708) % 4294967296 = ((add32 t2 2400959708 : Nat) : Int) := add_mod t2 2400959708
                    generalize add32 t2 2400959708 = t3 at *
                    have vna := add_wrap t3 x
                    have una := add_mod t3 x
                    have HLna := hidM (add32_lt t3 x)
                    generalize add32 t3 x = na at *
                    have i20 : decide ((kb : Int) < 20) = false := by simp; omega
                    have i40 : decide ((kb : Int) < 40) = false := by simp; omega
                    have i60 : decide ((kb : Int) < 60) = true := by simp; omega
                    clear lx
                    have k80 : (kb : Int) < 80 := by omega
                    go_wp2
                    go_quiet (first
                      | (go_at_call 33; with_reducible exact quiet_ex (HTA.out _)))
                    go_wp2_with fail
                    refine (HTB.out _).mono ?_
                    rintro e' w' ⟨rfl, nz, rfl⟩
                    go_wp2
                    go_roundw
                    case rel => exact ⟨kb + 1, na, a, rb, c, d, _, by omega, by go_num, val_int (by omega), rfl, rfl, rfl, rfl, HLna.out, la, HRB2.out, lc, ld, HST.out, rfl⟩
                    case measure => simp [intOf]; omega
                  · have HFK : Hid (f1 kb b c d = (b ^^^ c) ^^^ d ∧ k1 kb = 3395469782) := by unfold Hid f1 k1; simp [h20, h40, h60]
                    rw [HFK.out.1, HFK.out.2] at HST
                    clear HFK
                    have z1 := u32_xor_nat b c lb lc
                    have m1 : b ^^^ c < 4294967296 := xor_lt lb lc
                    generalize b ^^^ c = bc at *
                    have z2 := u32_xor_nat bc d m1 ld
                    generalize bc ^^^ d = ff at *
                    clear m1
                    have vt1 := add_wrap ra ff
                    have ut1 := add_mod ra ff
                    have HLt1 := hidM (add32_lt ra ff)
                    generalize add32 ra ff = t1 at *
                    have vt2 := add_wrap t1 e
                    have ut2 := add_mod t1 e
                    have HLt2 := hidM (add32_lt t1 e)
                    generalize add32 t1 e = t2 at *
                    have vt3 : IntKind.u32.wrap ((t2 : Int) + 3395469782) = ((add32 t2 3395469782 : Nat) : Int) := add_wrap t2 3395469782
                    have ut3 : ((t2 : Int) + 3395469782) % 4294967296 = ((add32 t2 3395469782 : Nat) : Int) := add_mod t2 3395469782
                    generalize add32 t2 3395469782 = t3 at *
                    have vna := add_wrap t3 x
                    have una := add_mod t3 x
                    have HLna := hidM (add32_lt t3 x)
                    generalize add32 t3 x = na at *
                    have i20 : decide ((kb : Int) < 20) = false := by simp; omega
                    have i40 : decide ((kb : Int) < 40) = false := by simp; omega
                    have i60 : decide ((kb : Int) < 60) = false := by simp; omega
                    clear lx
                    have k80 : (kb : Int) < 80 := by omega
                    go_wp2
                    go_quiet (first
                      | (go_at_call 33; with_reducible exact quiet_ex (HTA.out _)))
                    go_wp2_with fail
                    refine (HTB.out _).mono ?_
                    rintro e' w' ⟨rfl, nz, rfl⟩
                    go_wp2
                    go_roundw
                    case rel => exact ⟨kb + 1, na, a, rb, c, d, _, by omega, by go_num, val_int (by omega), rfl, rfl, rfl, rfl, HLna.out, la, HRB2.out, lc, ld, HST.out, rfl⟩
                    case measure => simp [intOf]; omega
            · obtain rfl : kb = 80 := by omega
              rw [show ((80 : Nat) : Int) = 80 from rfl]
              have HMX := hidM (mixL1_of x0 x1 x2 x3 x4 a b c d e p HR.out)
              have t0 := add_wrap x0 a
              have t1 := add_wrap x1 b
              have t2 := add_wrap x2 c
              have t3 := add_wrap x3 d
              have t4 := add_wrap x4 e
              generalize add32 x0 a = n0 at *
              generalize add32 x1 b = n1 at *
              generalize add32 x2 c = n2 at *
              generalize add32 x3 d = n3 at *
              generalize add32 x4 e = n4 at *
              go_wp2
              go_region_held3 (fun w' => w'.cell? ⟨g, 0, none⟩ = some (.int .u32 (x0 : Int)) ∧ w'.cell? ⟨g, 1, none⟩ = some (.int .u32 (x1 : Int)) ∧ w'.cell? ⟨g, 2, none⟩ = some (.int .u32 (x2 : Int)) ∧ w'.cell? ⟨g, 3, none⟩ = some (.int .u32 (x3 : Int)) ∧ w'.cell? ⟨g, 4, none⟩ = some (.int .u32 (x4 : Int))) (go_keep) (fail)
              have HBN : Hid (Below w1.heap.size w1 ((wi.drewN (m + 1)).alloc (.cells #[.int .u32 (n0 : Int), .int .u32 (n1 : Int), .int .u32 (n2 : Int), .int .u32 (n3 : Int), .int .u32 (n4 : Int)] 30))) :=
                ((below_drewN (HB.out.trans (HBI.out.mono HB.out.size)) (m + 1)).alloc (by have a1 := HB.out.size; have a2 := HBI.out.size; show w1.heap.size ≤ wi.heap.size; omega) _)
              have hq3 : q2 = 64 * (k + 1) := by have := HQ.out; omega
              go_wp2
              go_roundw
              case rel => exact ⟨k + 1, q2, wi.heap.size, n0, n1, n2, n3, n4, by omega, hq3, by go_num, rfl, ⟨World.cell?_alloc_mark (wi.drewN (m + 1)) #[.int .u32 (n0 : Int), .int .u32 (n1 : Int), .int .u32 (n2 : Int), .int .u32 (n3 : Int), .int .u32 (n4 : Int)] 30 (0, 0) 0, World.cell?_alloc_mark (wi.drewN (m + 1)) #[.int .u32 (n0 : Int), .int .u32 (n1 : Int), .int .u32 (n2 : Int), .int .u32 (n3 : Int), .int .u32 (n4 : Int)] 30 (0, 0) 1, World.cell?_alloc_mark (wi.drewN (m + 1)) #[.int .u32 (n0 : Int), .int .u32 (n1 : Int), .int .u32 (n2 : Int), .int .u32 (n3 : Int), .int .u32 (n4 : Int)] 30 (0, 0) 2, World.cell?_alloc_mark (wi.drewN (m + 1)) #[.int .u32 (n0 : Int), .int .u32 (n1 : Int), .int .u32 (n2 : Int), .int .u32 (n3 : Int), .int .u32 (n4 : Int)] 30 (0, 0) 3, World.cell?_alloc_mark (wi.drewN (m + 1)) #[.int .u32 (n0 : Int), .int .u32 (n1 : Int), .int .u32 (n2 : Int), .int .u32 (n3 : Int), .int .u32 (n4 : Int)] 30 (0, 0) 4⟩, by rw [HABS.out, HMX.out], HBN.out⟩
              case measure => simp [intOf]; omega
    · obtain rfl : k = K := by omega
      have hqL : ¬ ((q : Int) < (LM : Int)) := by omega
      have HWA : Hid (WAt wr (some ⟨g, 0, none⟩) [x0, x1, x2, x3, x4]) := by
        obtain ⟨r0, r1, r2, r3, r4⟩ := HCE.out
        refine .inr ⟨g, 0, rfl, fun i hi => ?_⟩
        have hi5 : i < 5 := hi
        rcases (by omega : i = 0 ∨ i = 1 ∨ i = 2 ∨ i = 3 ∨ i = 4) with rfl | rfl | rfl | rfl | rfl <;> assumption
      have HBD : Hid (∀ j, [x0, x1, x2, x3, x4].getD j 0 < 4294967296) := by
        intro j
        rcases (by omega : j = 0 ∨ j = 1 ∨ j = 2 ∨ j = 3 ∨ j = 4 ∨ 5 ≤ j) with rfl | rfl | rfl | rfl | rfl | h5
        · exact bx0
        · exact bx1
        · exact bx2
        · exact bx3
        · exact bx4
        · simp only [List.getD]; rw [List.getElem?_eq_none (by simpa using h5)]; decide
      have HSX : Hid (sha1L s.data.toList = wordsB [x0, x1, x2, x3, x4]) := by unfold Hid; rw [HSH.out, ← HAB.out]
      have HBE : Hid (Below w.heap.size w wr) := HB1.out.trans (HB.out.mono HB1.out.size)
      go_wp2_with fail
      refine (out_any (some ⟨g, 0, none⟩) 5 5 [x0, x1, x2, x3, x4] _ rfl (by decide) HBD.out HWA.out).mono ?_
      rintro _ w9 ⟨rfl, hb9⟩
      rw [← HSX.out]
      generalize hsx : (⟨(sha1L s.data.toList).toArray⟩ : ByteArray) = B at *
      clear HSX HSH
      go_wp2
      go_ret
      exact ⟨by rw [hsx]; rfl, HBE.out.trans (hb9.mono HBE.out.size)⟩
end Go.Proofs.YtbodjopdhciaeabDoor
