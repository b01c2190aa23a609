/-
  CartularyDigests: a text's sums don't hang on the parts in which it is written: the walk.
-/
import Derived.Test.YtbodjopdhciaeabDoorSumP
import Derived.Test.YtbodjopdhciaeabDoorAsks
namespace Go.Proofs.YtbodjopdhciaeabDoor
open Go.RowKit

theorem CrcBox.at {w w' : World} {b c : Nat} (h : CrcBox w b c) (hx : w'.heap[b]? = w.heap[b]?) : CrcBox w' b c :=
  ⟨h.lt, (World.cell?_of_block (a := ⟨b, 0, none⟩) hx).trans h.cell, (World.frozen?_of_block (a := ⟨b, 0, none⟩) hx).trans h.fz⟩
theorem AdBox.at {w w' : World} {b : Nat} {s : Nat × Nat} (h : AdBox w b s) (hx : w'.heap[b]? = w.heap[b]?) : AdBox w' b s :=
  ⟨h.lt1, h.lt2, (World.cell?_of_block (a := ⟨b, 0, none⟩) hx).trans h.c0, (World.cell?_of_block (a := ⟨b, 1, none⟩) hx).trans h.c1, (World.frozen?_of_block (a := ⟨b, 0, none⟩) hx).trans h.f0, (World.frozen?_of_block (a := ⟨b, 1, none⟩) hx).trans h.f1⟩
/-- Four sums side by side. -/
structure Four (w0 w : World) (A : List UInt8) : Prop where
  ha : HashS mixL1 h0 38 w w0.heap.size A
  hb : HashS mixL2 h2 41 w (w0.heap.size + 1) A
  hc : CrcBox w (w0.heap.size + 1 + 1) (crcW 0 A)
  hd : AdBox w (w0.heap.size + 1 + 1 + 1) (adR (1, 0) A)
  bel : Below w0.heap.size w0 w
  sz : w0.heap.size + 1 + 1 + 1 < w.heap.size
theorem Four.below {w0 w w' : World} {A : List UInt8} (h : Four w0 w A) (hb : Below w.heap.size w w') : Four w0 w' A := by
  have hs := h.sz
  exact ⟨h.ha.same (hb.block _ (by omega)), h.hb.same (hb.block _ (by omega)), h.hc.below hb (by omega), h.hd.below hb (by omega), h.bel.trans (hb.mono h.bel.size), Nat.lt_of_lt_of_le h.sz hb.size⟩
theorem four_start (w : World) : Four w ((((w.alloc (.cells zB1 38)).alloc (.cells zB2 41)).alloc (.cells #[.int .u32 0] 49)).alloc (.cells #[.int .u32 0, .int .u32 0] 51)) [] := by
  refine ⟨hashS_zero1 _ _ ?_, hashS_zero2 _ _ ?_, ?_, ?_, ?_, by simp⟩
  · rw [Below.heap_alloc _ _ _ (by simp <;> omega), Below.heap_alloc _ _ _ (by simp <;> omega), Below.heap_alloc _ _ _ (by simp), _root_.Go.heap_alloc_new]
  · rw [Below.heap_alloc _ _ _ (by simp <;> omega), Below.heap_alloc _ _ _ (by simp)]
    have := _root_.Go.heap_alloc_new (w.alloc (.cells zB1 38)) (.cells zB2 41)
    simpa using this
  · have h : CrcBox (((w.alloc (.cells zB1 38)).alloc (.cells zB2 41)).alloc (.cells #[.int .u32 0] 49)) (w.heap.size + 1 + 1) 0 := by
      have e : ((w.alloc (.cells zB1 38)).alloc (.cells zB2 41)).heap.size = w.heap.size + 1 + 1 := by simp
      have h1 : ∀ W : World, CrcBox (W.alloc (.cells #[.int .u32 0] 49)) W.heap.size 0 := fun W => ⟨by decide, by simp, by simp⟩
      have h2 := h1 ((w.alloc (.cells zB1 38)).alloc (.cells zB2 41))
      rw [e] at h2
      exact h2
    have e0 : crcW 0 [] = 0 := by decide +kernel
    rw [e0]
    exact h.below ((Below.refl _ _).alloc (Nat.le_refl _) _) (by simp)
  · have h := adBox_new (((w.alloc (.cells zB1 38)).alloc (.cells zB2 41)).alloc (.cells #[.int .u32 0] 49))
    have e : (((w.alloc (.cells zB1 38)).alloc (.cells zB2 41)).alloc (.cells #[.int .u32 0] 49)).heap.size = w.heap.size + 1 + 1 + 1 := by simp
    rw [e] at h
    exact h
  · exact (((((Below.refl _ _).alloc (Nat.le_refl _) _).alloc (by simp) _).alloc (by simp <;> omega) _).alloc (by simp <;> omega) _)
theorem Only.butB {b : Nat} {w w' : World} (h : Only b w w') (B : Nat) (hB : B ≤ b) : Below B w w' := h.below hB
theorem Tab.low {w w' : World} {B : Nat} (h : Tab w) (hb : Below B w w') (hB : 0 < B) : Tab w' :=
  ⟨Nat.lt_of_lt_of_le h.1 hb.size, fun i hi => (hb.cell (p := ⟨0, i, none⟩) hB).trans (h.2 i hi)⟩
theorem hex_is_id (l : List UInt8) (h : l.length = 20) : idB (hexL l) = true := by
  unfold idB
  have h1 := hexed_hex l
  unfold hexed at h1
  rw [Bool.and_eq_true] at h1
  rw [h1.1, hexL_len, h]; rfl
def nineS : ByteArray := ⟨#[49, 50, 51, 52, 53, 54, 55, 56, 57]⟩
theorem nine_crc : crcW 0 nineS.data.toList = 3421780262 := by decide +kernel
theorem str_eta (s : ByteArray) : (⟨s.data.toList.toArray⟩ : ByteArray) = s := by
  apply ByteArray.ext; simp

set_option maxRecDepth 100000 in
set_option maxHeartbeats 4000000 in
theorem digests_walk (a : Option Addr) (len cap : Nat) (f : Nat → ByteArray) (w : World) (hT1 : Tab w) (hT2 : Tab2 w) (hf : StrsAt w a len f) :
    Calls Tryd.prog 6 #[.slice a len cap] w fun e w' => e = .returned (.bool true) ∧ Below w.heap.size w w' := by
  have hlen : len ≤ 9223372036854775807 := by have := hf.1; unfold maxLen at this; omega
  have HT := hidM hT1
  have HU := hidM hT2
  have HF := hidM hf
  clear hT1 hT2 hf
  have hz1 := zero38
  have hz2 := zero41
  go_enter Tryd.func6, Tryd.ntmps6
  go_wp2_with fail
  refine (once1_any abcS w (by decide)).mono ?_
  rintro _ w1 ⟨rfl, hb1⟩
  have HB1 := hidM hb1
  have HL1 : Hid ((⟨(sha1L abcS.data.toList).toArray⟩ : ByteArray).size ≤ 1048576) := by
    unfold Hid; show (sha1L abcS.data.toList).toArray.size ≤ _; rw [List.size_toArray, sha1L_len]; decide
  have HX1 : Hid ((⟨(sha1L abcS.data.toList).toArray⟩ : ByteArray).data.toList = sha1L abcS.data.toList) := rfl
  clear hb1
  generalize (⟨(sha1L abcS.data.toList).toArray⟩ : ByteArray) = Q1 at *
  go_wp2_with fail
  refine (hex_any Q1 w1 HL1.out).mono ?_
  rintro _ w2 ⟨rfl, hb2⟩
  rw [HX1.out, abc1]
  have HB2 : Hid (Below w.heap.size w w2) := HB1.out.trans (hb2.mono HB1.out.size)
  clear hb2
  go_wp2_with fail
  refine (crc32_any nineS w2 (by decide) (HT.out.low HB2.out HT.out.1)).mono ?_
  rintro _ w3 ⟨rfl, hb3⟩
  rw [nine_crc]
  have HB3 : Hid (Below w.heap.size w w3) := HB2.out.trans (hb3.mono HB2.out.size)
  have HT3 := hidM (HT.out.low HB3.out HT.out.1)
  have HU3 := hidM (HU.out.below HB3.out HU.out.1)
  have HF3 := hidM (HF.out.below HB3.out)
  have HS0 := hidM (four_start w3)
  clear hb3 HT HU HF HB1 HB2
  generalize hZ1 : zB1 = Z1 at *
  generalize hZ2 : zB2 = Z2 at *
  clear hZ1 hZ2
  go_wp2
  clear hz1 hz2
  go_loopw [7, 8, 9] (fun al i _ wr => ∃ (k : Nat) (s : ByteArray), k ≤ len ∧ k ≤ 12 ∧ i = .int .i64 k ∧ al = .string s ∧ s.size ≤ 200 * k ∧ Four w3 wr s.data.toList) (fun _ i _ _ => 12 - (intOf i).toNat)
  case atStart => exact ⟨0, ⟨#[]⟩, Nat.zero_le _, by omega, rfl, rfl, Nat.zero_le _, HS0.out⟩
  case round =>
    obtain ⟨k, s, hk, hk12, rfl, rfl, hs, hfour⟩ := hrel
    have HV := hidM hfour
    clear hfour HS0
    by_cases hlt : k < len ∧ k < 12
    · obtain ⟨hl1, hl2⟩ := hlt
      obtain ⟨bb, off, rfl, hc⟩ := (HF3.out.below HV.out.bel).get k hl1
      have kk : (k : Int) < (len : Int) := by omega
      generalize f k = S at *
      go_wp2_with fail
      refine (few_any S 200 _).mono ?_
      rintro _ w4 ⟨⟨t, rfl, ht, _⟩, rfl⟩
      clear hc
      have hsl : s.data.toList.length ≤ 200 * k := by simpa using hs
      go_wp2_with fail
      refine (write1_any w3.heap.size s.data.toList t w4 (by have := HV.out.sz; omega) (by omega) HV.out.ha).mono ?_
      rintro _ w5 ⟨rfl, hh5, hb5⟩
      have HA5 := hidM hh5
      have HZ := hidM HV.out.sz
      have HY5 := hidM (HV.out.hb.same (hb5.block _ (by have := HV.out.sz; omega) (by omega)))
      have HC5 := hidM (HV.out.hc.at (hb5.block (w3.heap.size + 1 + 1) (by have := HV.out.sz; omega) (by omega)))
      have HD5 := hidM (HV.out.hd.at (hb5.block (w3.heap.size + 1 + 1 + 1) (by have := HV.out.sz; omega) (by omega)))
      have HB5 : Hid (Below w3.heap.size w3 w5) := HV.out.bel.trans ((hb5.mono HV.out.bel.size).below (Nat.le_refl _))
      have HZ5 : Hid (w3.heap.size + 1 + 1 + 1 < w5.heap.size) := Nat.lt_of_lt_of_le HZ.out hb5.size
      clear hh5 hb5 HV HZ
      go_wp2_with fail
      refine (write2_any (w3.heap.size + 1) s.data.toList t w5 (by have := HZ5.out; omega) (by omega) (HU3.out.below HB5.out HU3.out.1) (by have := HU3.out.1; omega) HY5.out).mono ?_
      rintro _ w6 ⟨rfl, hh6, hb6⟩
      have HY6 := hidM hh6
      have HA6 := hidM (HA5.out.same (hb6.block _ (by have := HZ5.out; omega) (by omega)))
      have HC6 := hidM (HC5.out.at (hb6.block (w3.heap.size + 1 + 1) (by have := HZ5.out; omega) (by omega)))
      have HD6 := hidM (HD5.out.at (hb6.block (w3.heap.size + 1 + 1 + 1) (by have := HZ5.out; omega) (by omega)))
      have HB6 : Hid (Below w3.heap.size w3 w6) := HB5.out.trans ((hb6.mono HB5.out.size).below (by omega))
      have HZ6 : Hid (w3.heap.size + 1 + 1 + 1 < w6.heap.size) := Nat.lt_of_lt_of_le HZ5.out hb6.size
      clear hh6 hb6 HA5 HY5 HC5 HD5 HB5 HZ5
      go_wp2_with fail
      refine (crcWrite_box (w3.heap.size + 1 + 1) _ t w6 (by unfold maxLen; omega) (HT3.out.low HB6.out HT3.out.1) HC6.out).mono ?_
      rintro _ w7 ⟨rfl, ho7, hc7⟩
      rw [crcW_app] at hc7
      have HC7 := hidM hc7
      have HA7 := hidM (HA6.out.same (ho7.block _ (by omega)))
      have HY7 := hidM (HY6.out.same (ho7.block _ (by omega)))
      have HD7 := hidM (HD6.out.only ho7 (by omega))
      have HB7 : Hid (Below w3.heap.size w3 w7) := HB6.out.trans (ho7.below (by omega))
      have HZ7 : Hid (w3.heap.size + 1 + 1 + 1 < w7.heap.size) := by unfold Hid; rw [ho7.size]; exact HZ6.out
      clear ho7 hc7 HA6 HY6 HC6 HD6 HB6 HZ6
      go_wp2_with fail
      refine (adlerWrite_any (w3.heap.size + 1 + 1 + 1) _ t w7 (by unfold maxLen; omega) HD7.out).mono ?_
      rintro _ w8 ⟨rfl, ho8, hd8⟩
      rw [← adR_app] at hd8
      have HFR : Hid (Four w3 w8 (s.data.toList ++ t.data.toList)) := ⟨HA7.out.same (ho8.block _ (by omega)), HY7.out.same (ho8.block _ (by omega)), HC7.out.only ho8 (by omega), hd8, HB7.out.trans (ho8.below (by omega)), by rw [ho8.size]; exact HZ7.out⟩
      clear ho8 hd8 HA7 HY7 HC7 HD7 HB7 HZ7
      rw [← app_data] at HFR
      have hsx : s.size + t.size ≤ 200 * (k + 1) := by omega
      have HSZ : Hid ((s ++ t).size ≤ 200 * (k + 1)) := by unfold Hid; rw [ByteArray.size_append]; exact hsx
      have hadd : ∀ v : World, (Op.stringOp .add s t).run Tryd.prog v = .ok (.string (s ++ t)) v := fun v => run_string_add_sum _ _ _ (by omega)
      generalize s ++ t = y at *
      go_wp2
      go_roundw
      case rel => exact ⟨k + 1, y, by omega, by omega, by go_num, rfl, HSZ.out, HFR.out⟩
      case measure => simp [intOf]; omega
    · have hA4 : s.data.toList.length ≤ 549755813888 := by simp; omega
      have hs5 : s.size ≤ 549755813888 := by omega
      have hsm : s.size ≤ maxLen := by unfold maxLen; omega
      have HX1 : Hid ((⟨(sha1L s.data.toList).toArray⟩ : ByteArray).size = 20) := by unfold Hid; show (sha1L s.data.toList).toArray.size = 20; rw [List.size_toArray, sha1L_len]
      have HX2 : Hid ((⟨(sha2L s.data.toList).toArray⟩ : ByteArray).size = 32) := by unfold Hid; show (sha2L s.data.toList).toArray.size = 32; rw [List.size_toArray, sha2L_len]
      have HSA := hidM (fun v h1 h2 => sum1_any w3.heap.size s.data.toList v h1 hA4 h2)
      have HOA := hidM (fun v => once1_any s v hs5)
      have HSB := hidM (fun v h1 h2 h3 => sum2_any (w3.heap.size + 1) s.data.toList v h1 hA4 h2 h3)
      have HOB := hidM (fun v h1 => once2_any s v hs5 h1)
      have HCC := hidM (fun v h1 => crc32_any s v hsm h1)
      have HAD := hidM (fun v => adler32_any s v hsm)
      have HCL := hidM (crcW_lt 0 s.data.toList (by decide))
      have eA : adSum s.data.toList = (adR (1, 0) s.data.toList).2 * 65536 + (adR (1, 0) s.data.toList).1 := rfl
      rw [eA] at HAD
      clear eA
      have HDS := hidM (fun v h => adlerSum_box (w3.heap.size + 1 + 1 + 1) (adR (1, 0) s.data.toList) v h)
      generalize (⟨(sha1L s.data.toList).toArray⟩ : ByteArray) = S1 at *
      generalize (⟨(sha2L s.data.toList).toArray⟩ : ByteArray) = S2 at *
      have HID : Hid ((⟨(hexL S1.data.toList).toArray⟩ : ByteArray).size = 40) := by
        unfold Hid; show (hexL S1.data.toList).toArray.size = 40; rw [List.size_toArray, hexL_len]; have := HX1.out; simp; omega
      have HHX : Hid (hexed (⟨(hexL S1.data.toList).toArray⟩ : ByteArray).data.toList = true) := hexed_hex _
      have HUN : Hid ((⟨(unhexL (⟨(hexL S1.data.toList).toArray⟩ : ByteArray).data.toList).toArray⟩ : ByteArray) = S1) := by
        unfold Hid
        show (⟨(unhexL (hexL S1.data.toList)).toArray⟩ : ByteArray) = S1
        rw [unhex_hex, str_eta]
      have HIB : Hid (idB (⟨(hexL S1.data.toList).toArray⟩ : ByteArray).data.toList = true) := hex_is_id _ (by have := HX1.out; simpa using this)
      have H44 : Hid ((⟨(b64 S2.data.toList).toArray⟩ : ByteArray).size = 44) := by
        unfold Hid; show (b64 S2.data.toList).toArray.size = 44; rw [List.size_toArray, b64_len]; have := HX2.out; simp; omega
      have HBG : Hid (numB (⟨(bigL (crcW 0 s.data.toList) 4).toArray⟩ : ByteArray).data.toList = crcW 0 s.data.toList) := numB_bigL 4 _ (by have := HCL.out; simpa using this) (by have := HCL.out; unfold M64; omega)
      have HBS : Hid ((⟨(bigL (crcW 0 s.data.toList) 4).toArray⟩ : ByteArray).size ≤ maxLen) := by
        unfold Hid; show (bigL (crcW 0 s.data.toList) 4).toArray.size ≤ maxLen; rw [List.size_toArray, bigL_len]; decide
      have HHA := hidM (fun v => hex_any S1 v (by have := HX1.out; omega))
      have HB64 := hidM (fun v => base64_any S2 v (by have := HX2.out; omega))
      have HBIG := hidM (fun v => big_any (crcW 0 s.data.toList) 4 v (by decide) (by decide))
      generalize (⟨(hexL S1.data.toList).toArray⟩ : ByteArray) = ID at *
      generalize (⟨(b64 S2.data.toList).toArray⟩ : ByteArray) = B6 at *
      generalize (⟨(bigL (crcW 0 s.data.toList) 4).toArray⟩ : ByteArray) = BG at *
      have HUNH := hidM (fun v => unhex_yes ID v (by have := HID.out; omega) HHX.out)
      rw [HUN.out] at HUNH
      have HIDB := hidM (fun v => id_any ID v (by have := HID.out; unfold maxLen; omega))
      rw [HIB.out] at HIDB
      have HFB := hidM (fun v => fromBig_any BG v HBS.out)
      rw [HBG.out] at HFB
      have hcl := HCL.out
      generalize hcc : crcW 0 s.data.toList = cc at *
      generalize (adR (1, 0) s.data.toList).2 * 65536 + (adR (1, 0) s.data.toList).1 = ad at *
      have x1 : ((B6.size : Int) == 44) = true := by rw [H44.out]; rfl
      have HQQ := hidM hcc
      clear hcc
      by_cases hl1 : k < len
      · have hl2 : ¬ k < 12 := fun h => hlt ⟨hl1, h⟩
        have q1 : (k : Int) < (len : Int) := by omega
        have q2 : ¬ (k : Int) < 12 := by omega
        have HV0 := HV
        obtain ⟨v0, hv0⟩ : ∃ v0 : World, v0 = wr := ⟨_, rfl⟩
        rw [← hv0] at HV0 ⊢
        clear hv0 HV
        go_wp2_with fail
        refine (HSA.out v0 (by have := HV0.out.sz; omega) HV0.out.ha).mono ?_
        rintro _ v1 ⟨rfl, hb⟩
        have HV1 := hidM (HV0.out.below hb)
        clear hb
        go_wp2_with fail
        refine (HHA.out v1).mono ?_
        rintro _ v2 ⟨rfl, hb⟩
        have HV2 := hidM (HV1.out.below hb)
        clear hb
        go_wp2_with fail
        refine (HUNH.out v2).mono ?_
        rintro _ v3 ⟨rfl, hb⟩
        have HV3 := hidM (HV2.out.below hb)
        clear hb
        go_wp2_with fail
        refine (HOA.out v3).mono ?_
        rintro _ v4 ⟨rfl, hb⟩
        have HV4 := hidM (HV3.out.below hb)
        clear hb
        go_wp2_with fail
        refine (HIDB.out v4).mono ?_
        rintro _ v5 ⟨rfl, rfl⟩
        go_wp2_with fail
        refine (HSB.out v5 (by have := HV4.out.sz; omega) (HU3.out.below HV4.out.bel HU3.out.1) HV4.out.hb).mono ?_
        rintro _ v6 ⟨rfl, hb⟩
        have HV6 := hidM (HV4.out.below hb)
        clear hb
        go_wp2_with fail
        refine (HOB.out v6 (HU3.out.below HV6.out.bel HU3.out.1)).mono ?_
        rintro _ v7 ⟨rfl, hb⟩
        have HV7 := hidM (HV6.out.below hb)
        clear hb
        go_wp2_with fail
        refine (HSB.out v7 (by have := HV7.out.sz; omega) (HU3.out.below HV7.out.bel HU3.out.1) HV7.out.hb).mono ?_
        rintro _ v8 ⟨rfl, hb⟩
        have HV8 := hidM (HV7.out.below hb)
        clear hb
        go_wp2_with fail
        refine (HB64.out v8).mono ?_
        rintro _ v9 ⟨rfl, hb⟩
        have HV9 := hidM (HV8.out.below hb)
        clear hb
        go_wp2_with fail
        refine (crcSum_any (w3.heap.size + 1 + 1) cc v9 (by have := HV9.out.hc.cell; rw [HQQ.out] at this; exact this)).mono ?_
        rintro _ v10 ⟨rfl, rfl⟩
        go_wp2_with fail
        refine (HCC.out v10 (HT3.out.low HV9.out.bel HT3.out.1)).mono ?_
        rintro _ v11 ⟨rfl, hb⟩
        have HV11 := hidM (HV9.out.below hb)
        clear hb
        go_wp2_with fail
        refine (HDS.out v11 HV11.out.hd).mono ?_
        rintro _ v12 ⟨rfl, nq, rfl⟩
        have HV12 := hidM (HV11.out.below (below_drewN (Below.refl _ _) nq))
        go_wp2_with fail
        refine (HAD.out _).mono ?_
        rintro _ v13 ⟨rfl, hb⟩
        have HV13 := hidM (HV12.out.below hb)
        clear hb
        go_wp2_with fail
        refine (crcSum_any (w3.heap.size + 1 + 1) cc v13 (by have := HV13.out.hc.cell; rw [HQQ.out] at this; exact this)).mono ?_
        rintro _ v14 ⟨rfl, rfl⟩
        go_wp2_with fail
        refine (HBIG.out v14).mono ?_
        rintro _ v15 ⟨rfl, hb⟩
        have HV15 := hidM (HV13.out.below hb)
        clear hb
        go_wp2_with fail
        refine (HFB.out v15).mono ?_
        rintro _ v16 ⟨rfl, rfl⟩
        go_wp2_with fail
        refine (crcSum_any (w3.heap.size + 1 + 1) cc v16 (by have := HV15.out.hc.cell; rw [HQQ.out] at this; exact this)).mono ?_
        rintro _ v17 ⟨rfl, rfl⟩
        have HBF : Hid (Below w.heap.size w v17) := HB3.out.trans (HV15.out.bel.mono HB3.out.size)
        go_wp2
        go_ret
        exact ⟨rfl, HBF.out⟩
      · have q1 : ¬ (k : Int) < (len : Int) := by omega
        have HV0 := HV
        obtain ⟨v0, hv0⟩ : ∃ v0 : World, v0 = wr := ⟨_, rfl⟩
        rw [← hv0] at HV0 ⊢
        clear hv0 HV
        go_wp2_with fail
        refine (HSA.out v0 (by have := HV0.out.sz; omega) HV0.out.ha).mono ?_
        rintro _ v1 ⟨rfl, hb⟩
        have HV1 := hidM (HV0.out.below hb)
        clear hb
        go_wp2_with fail
        refine (HHA.out v1).mono ?_
        rintro _ v2 ⟨rfl, hb⟩
        have HV2 := hidM (HV1.out.below hb)
        clear hb
        go_wp2_with fail
        refine (HUNH.out v2).mono ?_
        rintro _ v3 ⟨rfl, hb⟩
        have HV3 := hidM (HV2.out.below hb)
        clear hb
        go_wp2_with fail
        refine (HOA.out v3).mono ?_
        rintro _ v4 ⟨rfl, hb⟩
        have HV4 := hidM (HV3.out.below hb)
        clear hb
        go_wp2_with fail
        refine (HIDB.out v4).mono ?_
        rintro _ v5 ⟨rfl, rfl⟩
        go_wp2_with fail
        refine (HSB.out v5 (by have := HV4.out.sz; omega) (HU3.out.below HV4.out.bel HU3.out.1) HV4.out.hb).mono ?_
        rintro _ v6 ⟨rfl, hb⟩
        have HV6 := hidM (HV4.out.below hb)
        clear hb
        go_wp2_with fail
        refine (HOB.out v6 (HU3.out.below HV6.out.bel HU3.out.1)).mono ?_
        rintro _ v7 ⟨rfl, hb⟩
        have HV7 := hidM (HV6.out.below hb)
        clear hb
        go_wp2_with fail
        refine (HSB.out v7 (by have := HV7.out.sz; omega) (HU3.out.below HV7.out.bel HU3.out.1) HV7.out.hb).mono ?_
        rintro _ v8 ⟨rfl, hb⟩
        have HV8 := hidM (HV7.out.below hb)
        clear hb
        go_wp2_with fail
        refine (HB64.out v8).mono ?_
        rintro _ v9 ⟨rfl, hb⟩
        have HV9 := hidM (HV8.out.below hb)
        clear hb
        go_wp2_with fail
        refine (crcSum_any (w3.heap.size + 1 + 1) cc v9 (by have := HV9.out.hc.cell; rw [HQQ.out] at this; exact this)).mono ?_
        rintro _ v10 ⟨rfl, rfl⟩
        go_wp2_with fail
        refine (HCC.out v10 (HT3.out.low HV9.out.bel HT3.out.1)).mono ?_
        rintro _ v11 ⟨rfl, hb⟩
        have HV11 := hidM (HV9.out.below hb)
        clear hb
        go_wp2_with fail
        refine (HDS.out v11 HV11.out.hd).mono ?_
        rintro _ v12 ⟨rfl, nq, rfl⟩
        have HV12 := hidM (HV11.out.below (below_drewN (Below.refl _ _) nq))
        go_wp2_with fail
        refine (HAD.out _).mono ?_
        rintro _ v13 ⟨rfl, hb⟩
        have HV13 := hidM (HV12.out.below hb)
        clear hb
        go_wp2_with fail
        refine (crcSum_any (w3.heap.size + 1 + 1) cc v13 (by have := HV13.out.hc.cell; rw [HQQ.out] at this; exact this)).mono ?_
        rintro _ v14 ⟨rfl, rfl⟩
        go_wp2_with fail
        refine (HBIG.out v14).mono ?_
        rintro _ v15 ⟨rfl, hb⟩
        have HV15 := hidM (HV13.out.below hb)
        clear hb
        go_wp2_with fail
        refine (HFB.out v15).mono ?_
        rintro _ v16 ⟨rfl, rfl⟩
        go_wp2_with fail
        refine (crcSum_any (w3.heap.size + 1 + 1) cc v16 (by have := HV15.out.hc.cell; rw [HQQ.out] at this; exact this)).mono ?_
        rintro _ v17 ⟨rfl, rfl⟩
        have HBF : Hid (Below w.heap.size w v17) := HB3.out.trans (HV15.out.bel.mono HB3.out.size)
        go_wp2
        go_ret
        exact ⟨rfl, HBF.out⟩
end Go.Proofs.YtbodjopdhciaeabDoor
