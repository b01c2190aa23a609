/-
  The law TreeFull, walked.
-/
import Derived.Test.YtccohagdfpcplaaDoorTpF
namespace Go.Proofs.YtccohagdfpcplaaDoor
open Go.RowKit

def entN (i : Nat) : EntB := (33188, ⟨#[UInt8.ofNat (97 + i / 26), UInt8.ofNat (97 + i % 26)]⟩, idS)
def esN (n : Nat) : List EntB := (List.range n).map entN
theorem esN_len (n : Nat) : (esN n).length = n := by simp [esN]
theorem esN_succ (n : Nat) : esN (n + 1) = esN n ++ [entN n] := by simp [esN, List.range_succ]
theorem esN_at {n i : Nat} (h : i < n) : (esN n).getD i noE = entN i := by
  unfold esN
  rw [List.getD_eq_getElem?_getD, List.getElem?_map, List.getElem?_range h]; rfl
theorem ent_right : ∀ i, i < 600 → rightB (entN i).1 (entN i).2.1.data.toList (entN i).2.2.data.toList = true := by
  intro i hi
  have hn : ∀ k : Fin 600, nameB (entN k.val).2.1.data.toList = true := by decide +kernel
  unfold rightB
  rw [hn ⟨i, hi⟩, show idB (entN i).2.2.data.toList = true from idS_ok, Bool.and_true, Bool.and_true]
  exact decide_eq_true (show (33188 : Int) ∈ modesL by decide)
theorem ofNat_lt {a b : Nat} (h : a < b) (hb : b < 256) : UInt8.ofNat a < UInt8.ofNat b := by
  rw [UInt8.lt_iff_toNat_lt, UInt8.toNat_ofNat', UInt8.toNat_ofNat']
  omega
theorem ent_less {i j : Nat} (h : j < i) (hi : i < 600) : Op.bytesLess (entN j).2.1.data.toList (entN i).2.1.data.toList = true := by
  show Op.bytesLess [UInt8.ofNat (97 + j / 26), UInt8.ofNat (97 + j % 26)] [UInt8.ofNat (97 + i / 26), UInt8.ofNat (97 + i % 26)] = true
  rw [less_cons, less_cons]
  by_cases e : j / 26 = i / 26
  · have h2 : 97 + j % 26 < 97 + i % 26 := by omega
    rw [e, decide_eq_true (ofNat_lt h2 (by omega))]
    simp
  · have h2 : 97 + j / 26 < 97 + i / 26 := by omega
    rw [decide_eq_true (ofNat_lt h2 (by omega))]
    rfl
theorem full_ok {n : Nat} (h : n ≤ 500) : checkV (esN n) = 0 := by
  unfold checkV
  rw [if_neg (by rw [esN_len]; omega)]
  refine chkr_yes (fun i hi => ?_)
  rw [esN_len] at hi
  refine ⟨by rw [esN_at hi]; exact ent_right i (by omega), fun j hj => ?_⟩
  have hl := ent_less hj (by omega : i < 600)
  unfold keyE
  rw [esN_at hi, esN_at (by omega : j < n)]
  refine ⟨fun e => ?_, ?_⟩
  · rw [e, less_irr] at hl; cases hl
  · have k1 : keyL (entN j).1 (entN j).2.1.data.toList = (entN j).2.1.data.toList := if_neg (by show ¬ (33188 : Int) = 16384; decide)
    have k2 : keyL (entN i).1 (entN i).2.1.data.toList = (entN i).2.1.data.toList := if_neg (by show ¬ (33188 : Int) = 16384; decide)
    rw [k1, k2]
    exact hl
theorem esN_right {n : Nat} (h : n ≤ 600) : ∀ e ∈ esN n, rightB e.1 e.2.1.data.toList e.2.2.data.toList = true := by
  intro e he
  simp only [esN, List.mem_map, List.mem_range] at he
  obtain ⟨i, hi, rfl⟩ := he
  exact ent_right i (by omega)
theorem esN_ok {n : Nat} : ∀ e ∈ esN n, OkE e := by
  intro e he
  simp only [esN, List.mem_map, List.mem_range] at he
  obtain ⟨i, hi, rfl⟩ := he
  exact ⟨by show (-9223372036854775808 : Int) ≤ 33188; decide, by show (33188 : Int) ≤ 9223372036854775807; decide, by show 2 ≤ _; decide, by show 40 ≤ _; decide⟩
theorem full_parse {n : Nat} (h : n ≤ 600) : parseF (formL (esN n)) [] = if 500 < n then (2, []) else (0, esN n) := by
  rw [parse_back _ _ (esN_right h) (by simp)]
  simp only [List.length_nil, Nat.zero_add, List.nil_append, esN_len]
  split
  · rfl
  · rw [full_ok (by omega), if_pos rfl]
theorem full_form {n : Nat} (h : 500 < n) : checkV (esN n) = 2 := by unfold checkV; rw [if_pos (by rw [esN_len]; exact h)]
theorem form_size {n : Nat} (h : n ≤ 600) : (formL (esN n)).length ≤ 200 * n := by
  have := form_len (es := esN n) (fun i hi => esN_right h _ (getD_mem hi)) n (by rw [esN_len]; exact Nat.le_refl _)
  rw [List.take_of_length_le (by rw [esN_len]; exact Nat.le_refl _)] at this
  exact this
theorem conv_two {wr : World} (c1 c2 : UInt8) (y1 y2 : Nat) (h1 : c1.toNat = y1) (h2 : c2.toNat = y2) : (convert 43 9 (.slice (some ⟨wr.heap.size, 0, none⟩) 2 2)).run Tryd.prog (wr.alloc (.cells #[.int .u8 (y1 : Int), .int .u8 (y2 : Int)] 5)) = .ok (.string ⟨#[c1, c2]⟩) (wr.alloc (.cells #[.int .u8 (y1 : Int), .int .u8 (y2 : Int)] 5)) := by
  subst h1 h2
  have h : OwnB (wr.alloc (.cells #[.int .u8 (c1.toNat : Int), .int .u8 (c2.toNat : Int)] 5)) wr.heap.size (.slice (some ⟨wr.heap.size, 0, none⟩) 2 2) [c1, c2] := ⟨rfl, .inr ⟨wr.heap.size, 2, #[.int .u8 (c1.toNat : Int), .int .u8 (c2.toNat : Int)], rfl, Nat.le_refl _, heap_alloc_new _ _, Nat.le_refl _, by decide, rfl, rfl⟩⟩
  exact conv_own h
set_option maxHeartbeats 8000000 in
set_option maxRecDepth 100000 in
theorem tfull_walk (z : Int) (w : World) (hG : GT w) : Calls Tryd.prog 5 #[.int .i64 z] w fun e w' => e = .returned (.bool true) ∧ Below w.heap.size w w' := by
  have HG := hidM hG
  have HAW := hidM (fun V (h : GT V) => awake_any V h)
  obtain ⟨i0, hi, hz0, hz1, hz2⟩ := info_parts info29
  clear hG
  by_cases hneg : z < 0
  · go_enter Tryd.func5, Tryd.ntmps5
    go_wp2_with fail
    refine (HAW.out _ HG.out).mono ?_
    rintro _ w1 ⟨rfl, hb1⟩
    have HB1 := hidM hb1
    go_wp2
    go_ret
    exact ⟨rfl, HB1.out⟩
  by_cases hbig : 600 < z
  · go_enter Tryd.func5, Tryd.ntmps5
    go_wp2_with fail
    refine (HAW.out _ HG.out).mono ?_
    rintro _ w1 ⟨rfl, hb1⟩
    have HB1 := hidM hb1
    go_wp2
    go_ret
    exact ⟨rfl, HB1.out⟩
  obtain ⟨n, rfl⟩ : ∃ n : Nat, z = (n : Int) := ⟨z.toNat, by omega⟩
  have hn : n ≤ 600 := by omega
  have HOA : Hid ((w.alloc (.cells #[] 29)).ownsRow w.heap.size 29 3 (.slice (some ⟨w.heap.size, 0, none⟩) 0 0) 0 []) := World.ownsRow_made w #[] 0 (Nat.le_refl _) (Nat.zero_le _) (by simp)
  have HBA : Hid (Below w.heap.size w (w.alloc (.cells #[] 29))) := (Below.refl _ w).alloc (Nat.le_refl _) _
  go_enter Tryd.func5, Tryd.ntmps5
  go_wp2
  generalize w.alloc (.cells #[] 29) = W0 at *
  go_loopw [3, 4, 5, 6] (fun lv sv iv _ wr => ∃ k : Nat, k ≤ n ∧ iv = .int .i64 (k : Int) ∧ wr.ownsRow w.heap.size 29 3 lv (esN k).length (flatE (esN k)) ∧ sv = .string ⟨(formL (esN k)).toArray⟩ ∧ Below w.heap.size w wr) (fun _ _ iv _ _ => n - (intOf iv).toNat)
  case atStart => exact ⟨0, Nat.zero_le _, rfl, HOA.out, rfl, HBA.out⟩
  case round =>
    obtain ⟨k, hk, rfl, hown, rfl, hbel⟩ := hrel
    have HO := hidM hown
    have HW := hidM hbel
    have HGr := hidM (HG.out.below hbel)
    clear hown hbel HOA HBA
    by_cases hlt : k < n
    · obtain ⟨q1, hq1⟩ : ∃ q, q = k / 26 := ⟨_, rfl⟩
      obtain ⟨q2, hq2⟩ : ∃ q, q = k % 26 := ⟨_, rfl⟩
      have r1 : (k : Int) / 26 = (q1 : Int) := by omega
      have r2 : (k : Int) % 26 = (q2 : Int) := by omega
      have r3 : (k : Int).tdiv 26 = (q1 : Int) := by rw [Int.tdiv_eq_ediv_of_nonneg (by omega)]; exact r1
      have r4 : (k : Int).tmod 26 = (q2 : Int) := by rw [Int.tmod_eq_emod_of_nonneg (by omega)]; exact r2
      obtain ⟨y1, hy1⟩ : ∃ y, 97 + q1 = y := ⟨_, rfl⟩
      obtain ⟨y2, hy2⟩ : ∃ y, 97 + q2 = y := ⟨_, rfl⟩
      have t1 : (97 : Int) + (q1 : Int) = (y1 : Int) := by omega
      have t2 : (97 : Int) + (q2 : Int) = (y2 : Int) := by omega
      have l1 : y1 < 256 := by omega
      have l2 : y2 < 256 := by omega
      have u1 : IntKind.u8.wrap (y1 : Int) = (y1 : Int) := by rw [IntKind.wrap_u8]; omega
      have u2 : IntKind.u8.wrap (y2 : Int) = (y2 : Int) := by rw [IntKind.wrap_u8]; omega
      have hcv := conv_two (wr := wr) (UInt8.ofNat y1) (UInt8.ofNat y2) y1 y2 (by rw [UInt8.toNat_ofNat']; omega) (by rw [UInt8.toNat_ofNat']; omega)
      obtain ⟨NM, hNM⟩ : ∃ NM : ByteArray, NM = ⟨#[UInt8.ofNat y1, UInt8.ofNat y2]⟩ := ⟨_, rfl⟩
      rw [← hNM] at hcv
      have HEN : Hid (((33188, NM, idS) : EntB) = entN k) := by
        unfold Hid entN
        rw [hNM, ← hy1, ← hy2, hq1, hq2]
      have HBZ : Hid ((wr.alloc (.cells #[.int .u8 (y1 : Int), .int .u8 (y2 : Int)] 5)).heap.size = wr.heap.size + 1) := by unfold Hid; simp
      have HOb := hidM (HO.out.alloc (.cells #[.int .u8 (y1 : Int), .int .u8 (y2 : Int)] 5))
      have HWb : Hid (Below w.heap.size w (wr.alloc (.cells #[.int .u8 (y1 : Int), .int .u8 (y2 : Int)] 5))) := HW.out.alloc HW.out.size _
      have HROW : Hid (∀ g, u3.ownBlock = some g → g < (wr.alloc (.cells #[.int .u8 (y1 : Int), .int .u8 (y2 : Int)] 5)).heap.size) := fun g hg => by
        have := (HO.out.lt g hg).2; simp; omega
      clear hNM hq1 hq2 hy1 hy2
      go_upto_region 9 with fail
      clear hcv t1 t2 l1 l2 u1 u2 r1 r2 r3 r4 HO HW
      generalize wr.alloc (.cells #[.int .u8 (y1 : Int), .int .u8 (y2 : Int)] 5) = Wb at *
      change Code.wp _ _ _ _ (Wb.alloc (.cells #[.int .i64 33188, .string NM, .string idS] 29))
      rw [← HBZ.out]
      clear HBZ
      have HEB : Hid (EBox (Wb.alloc (.cells #[.int .i64 33188, .string NM, .string idS] 29)) Wb.heap.size 33188 NM idS) := heap_alloc_new _ _
      have HWx : Hid (Below w.heap.size w (Wb.alloc (.cells #[.int .i64 33188, .string NM, .string idS] 29))) := HWb.out.alloc HWb.out.size _
      have HOx := hidM (HOb.out.alloc (.cells #[.int .i64 33188, .string NM, .string idS] 29))
      have HSN : Hid (esN (k + 1) = esN k ++ [((33188, NM, idS) : EntB)]) := by unfold Hid; rw [HEN.out]; exact esN_succ k
      have HRT : Hid (∀ e ∈ [((33188, NM, idS) : EntB)], rightB e.1 e.2.1.data.toList e.2.2.data.toList = true) := fun e he => by
        rw [List.mem_singleton.1 he, HEN.out]; exact ent_right k (by omega)
      have HFN : Hid ((⟨(formL (esN k)).toArray⟩ ++ ⟨(formL [((33188, NM, idS) : EntB)]).toArray⟩ : ByteArray) = ⟨(formL (esN (k + 1))).toArray⟩) := by
        apply bytes_ext
        rw [HSN.out, form_app]
        simp [ByteArray.data_append]
      have z1 : (⟨(formL (esN k)).toArray⟩ : ByteArray).size ≤ 200000 := by rw [size_mk]; have := form_size (n := k) (by omega); omega
      have z2 : (⟨(formL [((33188, NM, idS) : EntB)]).toArray⟩ : ByteArray).size ≤ 200000 := by
        rw [size_mk]
        have := form_len (es := [((33188, NM, idS) : EntB)]) (fun i hi => HRT.out _ (getD_mem hi)) 1 (by simp)
        rw [List.take_of_length_le (by simp)] at this
        omega
      have hkl : (esN k).length ≤ 600 := by rw [esN_len]; omega
      have HMK := hidM (fun (V : World) (v : Value) (h : V.ownsRow w.heap.size 29 3 v ((esN k).length + 1) (flatE (esN k) ++ [.int .i64 33188, .string NM, .string idS])) => own_more (e := (33188, NM, idS)) h)
      rw [← HSN.out] at HMK
      obtain ⟨e2, he2⟩ : ∃ e2, e2 = esN (k + 1) := ⟨_, rfl⟩
      rw [← he2] at HFN HMK
      have HE2 := hidM he2
      clear he2
      generalize (⟨(formL (esN k)).toArray⟩ : ByteArray) = S0 at *
      clear HEN HSN HWb HOb
      generalize idS = I at *
      generalize flatE (esN k) = fl at *
      generalize (esN k).length = len at *
      have c0 := HEB.out.c0
      have c1 := HEB.out.c1
      have c2 := HEB.out.c2
      have HBL : Hid (Wb.heap.size < (Wb.alloc (.cells #[.int .i64 33188, .string NM, .string I] 29)).heap.size) := by unfold Hid; simp
      generalize Wb.alloc (.cells #[.int .i64 33188, .string NM, .string I] 29) = Wx at *
      generalize Wb.heap.size = B at *
      go_wp2_with (at_builtin; refine wpList_append_own _ rfl _ _ 22 rfl w.heap.size 29 i0 (.agg #[.int .i64 0, .string .empty, .string .empty]) 3 40 Tryd.underlying22 hi hz0 hz1 hz2 rfl (by decide) _ _ _ rfl (World.ownsRow.alloc HOx.out _) ⟨_, 0, none⟩ 1 1 [.int .i64 33188, .string NM, .string I] rfl rfl ?qc2 ?qc3 ?qc4 ?qc5 ?qc6 ?_)
      case qc2 => exact cell_new3 rfl _ _ _
      case qc3 => intro u hu; simp at hu; rcases hu with rfl | rfl | rfl <;> rfl
      case qc4 => unfold maxLen; omega
      case qc5 => omega
      case qc6 => have := HWx.out.size; simp at this ⊢; omega
      intro v' w3 hown' hgrow hnil
      have HO3 := hidM (HMK.out _ _ hown')
      have HB3 : Hid (Below w.heap.size w w3) := (HWx.out.alloc HWx.out.size _).grown hgrow (by have := HWx.out.size; simp at this ⊢; omega) (fun g hg => (HOx.out.lt g hg).1)
      have HE3 : Hid (EBox w3 B 33188 NM I) := by
        obtain ⟨_, _, _, _, hb⟩ := hgrow
        have hlt2 := HBL.out
        refine (hb B (by simp; omega) (fun e => ?_)).trans ((heap_alloc_old _ _ HBL.out).trans HEB.out)
        have := HROW.out B e.symm
        omega
      clear hown' hgrow hnil HMK HOx HWx HEB HBL HROW c0 c1 c2
      have c0 := HE3.out.c0
      have c1 := HE3.out.c1
      have c2 := HE3.out.c2
      have HB4 : Hid (Below w.heap.size w (w3.alloc (.cells #[.int .i64 33188, .string NM, .string I] 29))) := HB3.out.alloc HB3.out.size _
      have HT4 := hidM (rtext_any (some ⟨w3.heap.size, 0, none⟩) 1 [((33188, NM, I) : EntB)] (w3.alloc (.cells #[.int .i64 33188, .string NM, .string I] 29)) (.inr ⟨w3.heap.size, 0, rfl, by simp, fun i hi => by
        obtain rfl : i = 0 := by simp at hi; omega
        have hn := heap_alloc_new w3 (.cells #[.int .i64 33188, .string NM, .string I] 29)
        refine ⟨?_, ?_, ?_⟩ <;> rw [cell_of_row _ _ _ _ 29 (0, 0) hn] <;> rfl⟩) (by simp) HRT.out)
      have HO4 := hidM (HO3.out.alloc (.cells #[.int .i64 33188, .string NM, .string I] 29))
      rw [show [((33188, NM, I) : EntB)].length = 1 from rfl] at HT4
      generalize (⟨(formL [((33188, NM, I) : EntB)]).toArray⟩ : ByteArray) = S1 at *
      have n1 : ¬ 9223372036854775807 < S0.size + S1.size := by omega
      go_wp2_with fail
      refine HT4.out.mono ?_
      rintro _ w5 ⟨rfl, hb5⟩
      have HO5 := hidM (own_below HO4.out hb5)
      have HB5 := hidM (HB4.out.trans (hb5.mono HB4.out.size))
      clear hb5 HT4 HO4 HB4 HO3 HB3 HE3 c0 c1 c2 HRT
      go_wp2
      go_roundw
      case rel => exact ⟨k + 1, by omega, by go_num, by rw [← HE2.out]; exact HO5.out, by rw [HFN.out, HE2.out], HB5.out⟩
      case measure => simp [intOf]; omega
    · obtain rfl : k = n := by omega
      obtain ⟨a, cap, rfl, hc, hE⟩ := own_shape HO.out
      have HTF := hidM (treeFormat_any a cap (esN k) wr HGr.out hE esN_ok)
      have HE := hidM hE
      have hz : (⟨(formL (esN k)).toArray⟩ : ByteArray).size ≤ 200000 := by rw [size_mk]; have := form_size (n := k) hn; omega
      have HPR := hidM (fun V (hV : GT V) => tparse_any ⟨(formL (esN k)).toArray⟩ V hV (by omega))
      have hfp : parseF (⟨(formL (esN k)).toArray⟩ : ByteArray).data.toList [] = if 500 < k then (2, []) else (0, esN k) := full_parse hn
      rw [hfp] at HPR
      clear hE hfp hc HO
      have hlen := esN_len k
      by_cases h5 : 500 < k
      · have hft : formT (esN k) = [] := by unfold formT; rw [if_neg (by rw [full_form h5]; decide)]
        rw [hft, full_form h5] at HTF
        simp only [h5, if_true] at HPR
        have g5 : (500 : Int) < (k : Int) := by omega
        clear hft
        rw [hlen] at HTF ⊢
        generalize (⟨(formL (esN k)).toArray⟩ : ByteArray) = S0 at *
        go_wp2_with fail
        refine HTF.out.mono ?_
        rintro _ w1 ⟨rfl, hb1⟩
        have HB1 := hidM (HW.out.trans (hb1.mono HW.out.size))
        have HG1 := hidM (HGr.out.below hb1)
        clear hb1 HTF
        go_wp2_with fail
        refine (HPR.out _ HG1.out).mono ?_
        rintro _ w2 ⟨⟨v2, rfl, ho2⟩, hb2⟩
        obtain ⟨a2, c2, rfl, hc2, -⟩ := own_shape (es := []) ho2
        have HB2 := hidM (HB1.out.trans (hb2.mono HB1.out.size))
        have HG2 := hidM (HG1.out.below hb2)
        clear hb2 HPR ho2
        rw [show ([] : List EntB).length = 0 from rfl]
        go_wp2_with fail
        refine (HAW.out _ HG2.out).mono ?_
        rintro _ w3 ⟨rfl, hb3⟩
        have HB3 := hidM (HB2.out.trans (hb3.mono HB2.out.size))
        clear hb3
        go_wp2
        go_ret
        exact ⟨by first | rfl | simp, HB3.out⟩
      · have hcz := full_ok (n := k) (by omega)
        have hft : formT (esN k) = formL (esN k) := by unfold formT; rw [if_pos hcz]
        rw [hft, hcz] at HTF
        simp only [h5, if_false] at HPR
        have g5 : ¬ (500 : Int) < (k : Int) := by omega
        clear hft hcz
        generalize (⟨(formL (esN k)).toArray⟩ : ByteArray) = S0 at *
        have HSM := hidM (fun (V : World) a2 c2 (h1 : EntsIn V a2 (esN k)) (h2 : EntsIn V a (esN k)) => rsame_any a2 a c2 cap (esN k) (esN k) V h1 h2 (by omega))
        rw [decide_eq_true rfl] at HSM
        have bS : (S0.toList == S0.toList) = true := by simp
        rw [hlen] at HTF HSM ⊢
        go_wp2_with fail
        refine HTF.out.mono ?_
        rintro _ w1 ⟨rfl, hb1⟩
        have HB1 := hidM (HW.out.trans (hb1.mono HW.out.size))
        have HG1 := hidM (HGr.out.below hb1)
        have HE1 := hidM (HE.out.below hb1)
        clear hb1 HTF HE
        go_wp2_with fail
        refine (HPR.out _ HG1.out).mono ?_
        rintro _ w2 ⟨⟨v2, rfl, ho2⟩, hb2⟩
        obtain ⟨a2, c2, rfl, hc2, hE2⟩ := own_shape ho2
        have HM2 := hidM hE2
        have HB2 := hidM (HB1.out.trans (hb2.mono HB1.out.size))
        have HG2 := hidM (HG1.out.below hb2)
        have HE2 := hidM (HE1.out.below hb2)
        clear hb2 HPR ho2 hE2 HE1 hc2
        rw [hlen]
        go_wp2_with fail
        refine (HAW.out _ HG2.out).mono ?_
        rintro _ w3 ⟨rfl, hb3⟩
        have HB3 := hidM (HB2.out.trans (hb3.mono HB2.out.size))
        have HS3 := hidM (HSM.out w3 a2 c2 (HM2.out.below hb3) (HE2.out.below hb3))
        clear hb3 HSM
        go_wp2_with fail
        refine HS3.out.mono ?_
        rintro _ w4 ⟨rfl, hb4⟩
        have HB4 := hidM (HB3.out.trans (hb4.mono HB3.out.size))
        clear hb4
        go_wp2
        go_ret
        exact ⟨by first | rfl | simp, HB4.out⟩
end Go.Proofs.YtccohagdfpcplaaDoor
