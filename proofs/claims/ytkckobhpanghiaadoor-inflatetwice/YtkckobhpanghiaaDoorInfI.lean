/-
  Walks of inflate: from block to block, from symbol to symbol: the walk.
-/
import Derived.Test.YtkckobhpanghiaaDoorJInfV
namespace Go.Proofs.YtkckobhpanghiaaDoor
open Go.RowKit

set_option maxHeartbeats 8000000 in
set_option maxRecDepth 100000 in
theorem sreadAll_any (B : Nat) (X : ByteArray) (most : Nat) (w : World) (v p1 p2 : Value) (hS : StS w B X 0 most false v [] p1 p2 (.pointer none) (.pointer none)) (hBp : 0 < B) (hX : X.size ≤ 1000000) (hm : most ≤ 65536)
    (hG : ∀ k, k < 19 → w.cell? ⟨0, k, none⟩ = some (.int .i64 (plK k : Int))) :
    Calls Tryd.prog 30 #[.pointer (some ⟨B + 1, 0, none⟩)] w fun e w' => ReadPostS B X most w e w' := by
  have HG := hidM hG
  have HA0 : Hid (AtBlk B X most w w 0 false [] v p1 p2 (.pointer none) (.pointer none)) := ⟨hS, Nat.zero_le _, Nat.zero_le _, .inl ⟨rfl, rfl⟩, Below.refl _ _, fun r h => h⟩
  clear hS hG
  go_enter Tryd.func30, Tryd.ntmps30
  go_wp2
  refine wp_scope_many2 (jumpR B X most w) (fun _ _ w' => 8 * X.size - bitOf B w') ?_ ?_
  · intro hp
    clear hp
    go_wp2
    go_step3
    refine (by assumption : ∀ (a : Act) (w : World), _ → _) _ _ ?_
    have hA9 : ∃ t last o v p1 p2 p3 p4, AtBlk B X most w w t last o v p1 p2 p3 p4 := ⟨_,_,_,_,_,_,_,_, HA0.out⟩
    clear HA0
    obtain ⟨t, last, o, v, p1, p2, p3, p4, hA⟩ := hA9
    have HA := hidM hA
    have c3 := hA.st.box.c3
    have hlim := hA.lim
    clear hA
    cases last with
    | true =>
      go_wp2
      simp only [jumpN]
      go_ret
      exact .inr ⟨t, o, v, p1, p2, p3, p4, HA.out.run _ (.fin t o), HA.out.lim, HA.out.out, rfl, HA.out.st, HA.out.below⟩
    | false =>
      have HH := hidM (readHead_any (B + 1) B X t (8 * X.size - t) most v p1 p2 p3 p4 false w (by omega) HA.out.st.box HA.out.st.rd (by omega) (by omega))
      go_wp2_with fail
      refine HH.out.mono ?_
      rintro _ w2 ⟨hp, ho⟩
      have HO := hidM ho
      have HK : Hid (Kept B w w2) := ho.kept
      clear ho HH c3
      rcases hp with ⟨x, hn, hx8, rfl, hrd, hbx⟩ | ⟨hn, rfl⟩
      · have HN := hidM hn
        have HS := hidM (HA.out.st.two hrd hbx HO.out)
        have hl3 := num_lim hn
        clear hn hrd hbx
        obtain ⟨z, hz⟩ : ∃ z, z = x / 2 := ⟨_, rfl⟩
        rw [← hz]
        have HZ := hidM hz
        have hz4 : z < 4 := by omega
        clear hz
        have hzz : z = 0 ∨ z = 1 ∨ z = 2 ∨ z = 3 := by omega
        rcases hzz with rfl | rfl | rfl | rfl
        · as_aux_lemma =>
          have HST := hidM (readStored_any B X (t + 3) most (x % 2 == 1) v o p1 p2 p3 p4 w2 HS.out hX hl3 hm HA.out.out)
          go_wp2_with fail
          refine HST.out.mono ?_
          intro e w3 hp
          generalize hr : storedR X.data.toList most (t + 3) o = r at hp
          have HR := hidM hr
          clear hr HST
          cases r with
          | bad n =>
            obtain ⟨hn0, rfl, hb⟩ := hp
            have HB := hidM hb
            have e0 : ((n : Int) == 0) = false := by simp; omega
            clear hb
            go_wp2
            simp only [jumpN]
            go_ret
            exact .inl ⟨n, hn0, HA.out.run _ (.stBad t o x n HN.out HZ.out.symm HR.out), rfl, HA.out.below.trans (HK.out.below.trans HB.out)⟩
          | good t' o' =>
            obtain ⟨rfl, v', hst, hkp⟩ := hp
            have HST := hidM hst
            have HKP := hidM hkp
            clear hst hkp
            go_wp2
            go_step3
            obtain ⟨h1, h2⟩ := HA.out.stored HN.out HZ.out.symm HR.out HST.out (HK.out.trans HKP.out)
            exact ⟨rfl, ⟨⟨_,_,_,_,_,_,_,_,_,_,_,_,_,_,_,_,_,_,_,_,_,_,_,_,_,_,_,_,_,_,_,_,_,_,_,_,_,_,_,_,_,_,_,_,_,_,_,_,_,_,_,_,_,_,_,_,_,_,_,_,_,_,_,_, rfl⟩, _,_,_,_,_,_,_,_, h1⟩⟩
        · as_aux_lemma =>
          have HST := hidM (useFixed_any B X (t + 3) most (x % 2 == 1) v o p1 p2 p3 p4 w2 HS.out (HA.out.fixed.kept HK.out))
          go_wp2_with fail
          refine HST.out.mono ?_
          rintro _ w3 ⟨rfl, q1, q2, hst, ht1, ht2, hkp⟩
          have HST := hidM hst
          have HT1 := hidM ht1
          have HT2 := hidM ht2
          have HKP := hidM hkp
          clear hst ht1 ht2 hkp
          go_wp2
          go_step3
          obtain ⟨h1, h2⟩ := HA.out.fixd HN.out HZ.out.symm HST.out HT1.out HT2.out (HK.out.trans HKP.out)
          exact ⟨rfl, ⟨⟨_,_,_,_,_,_,_,_,_,_,_,_,_,_,_,_,_,_,_,_,_,_,_,_,_,_,_,_,_,_,_,_,_,_,_,_,_,_,_,_,_,_,_,_,_,_,_,_,_,_,_,_,_,_,_,_,_,_,_,_,_,_,_,_, rfl⟩, _,_,_,_,_,_,_,_,_,_, h1⟩⟩
        · as_aux_lemma =>
          have hG2 : ∀ k, k < 19 → w2.cell? ⟨0, k, none⟩ = some (.int .i64 (plK k : Int)) := fun k hk => (World.cell?_of_block (w := w) (a := ⟨0, k, none⟩) ((HA.out.below.trans HK.out.below).block 0 hBp)).trans (HG.out k hk)
          have HST := hidM (readCodes_any B X (t + 3) most (x % 2 == 1) v o p1 p2 p3 p4 w2 HS.out hBp hX hl3 hG2)
          clear hG2
          go_wp2_with fail
          refine HST.out.mono ?_
          rintro e w3 hp
          rcases hp with ⟨n, hn0, hd, rfl, hb⟩ | ⟨cl, cd, t', hd, ht', rfl, q1, q2, hst, ht1, ht2, hkp⟩
          · have HD := hidM hd
            have HB := hidM hb
            have e0 : ((n : Int) == 0) = false := by simp; omega
            clear hd hb
            go_wp2
            simp only [jumpN]
            go_ret
            exact .inl ⟨n, hn0, HA.out.run _ (.dyBad t o x n HN.out HZ.out.symm HD.out), rfl, HA.out.below.trans (HK.out.below.trans HB.out)⟩
          · have HD := hidM hd
            have HST := hidM hst
            have HT1 := hidM ht1
            have HT2 := hidM ht2
            have HKP := hidM hkp
            clear hd hst ht1 ht2 hkp
            go_wp2
            go_step3
            obtain ⟨h1, h2⟩ := HA.out.dyn HN.out HZ.out.symm HD.out ht' HST.out HT1.out HT2.out (HK.out.trans HKP.out)
            exact ⟨rfl, ⟨⟨_,_,_,_,_,_,_,_,_,_,_,_,_,_,_,_,_,_,_,_,_,_,_,_,_,_,_,_,_,_,_,_,_,_,_,_,_,_,_,_,_,_,_,_,_,_,_,_,_,_,_,_,_,_,_,_,_,_,_,_,_,_,_,_, rfl⟩, _,_,_,_,_,_,_,_,_,_, h1⟩⟩
        · as_aux_lemma =>
          go_wp2
          simp only [jumpN]
          go_ret
          exact .inl ⟨3, by decide, HA.out.run _ (.kind3 t o x HN.out HZ.out.symm), rfl, HA.out.below.trans HK.out.below⟩
      · have HN := hidM hn
        clear hn
        go_wp2
        simp only [jumpN]
        go_ret
        exact .inl ⟨6, by decide, HA.out.run _ (.head6 t o HN.out), rfl, HA.out.below.trans HK.out.below⟩
  · intro l rest a w1 hf hJ
    clear HA0
    match l, hJ with
    | 0, hJ =>
      obtain ⟨⟨u3, u4, u5, u6, u7, u8, u9, u10, u11, u12, u13, u14, u15, u16, u17, u18, u19, u20, u21, u22, u23, u24, u25, u26, u27, u28, u29, u30, u31, u32, u33, u34, u35, u36, u37, u38, u39, u40, u41, u42, u43, u44, u45, u46, u47, u48, u49, u50, u51, u52, u53, u54, u55, u56, u57, u58, u59, u60, u61, u62, u63, u64, u65, u66, rfl⟩, t, last, o, v, p1, p2, p3, p4, hA⟩ := hJ
      cases hf
      have HA := hidM hA
      have c3 := hA.st.box.c3
      have hlim := hA.lim
      clear hA
      cases last with
      | true =>
        go_wp2
        simp only [jumpN]
        go_ret
        exact .inr ⟨t, o, v, p1, p2, p3, p4, HA.out.run _ (.fin t o), HA.out.lim, HA.out.out, rfl, HA.out.st, HA.out.below⟩
      | false =>
        have HH := hidM (readHead_any (B + 1) B X t (8 * X.size - t) most v p1 p2 p3 p4 false w1 (by omega) HA.out.st.box HA.out.st.rd (by omega) (by omega))
        go_wp2_with fail
        refine HH.out.mono ?_
        rintro _ w2 ⟨hp, ho⟩
        have HO := hidM ho
        have HK : Hid (Kept B w1 w2) := ho.kept
        clear ho HH c3
        rcases hp with ⟨x, hn, hx8, rfl, hrd, hbx⟩ | ⟨hn, rfl⟩
        · have HN := hidM hn
          have HS := hidM (HA.out.st.two hrd hbx HO.out)
          have hl3 := num_lim hn
          clear hn hrd hbx
          obtain ⟨z, hz⟩ : ∃ z, z = x / 2 := ⟨_, rfl⟩
          rw [← hz]
          have HZ := hidM hz
          have hz4 : z < 4 := by omega
          clear hz
          have hzz : z = 0 ∨ z = 1 ∨ z = 2 ∨ z = 3 := by omega
          rcases hzz with rfl | rfl | rfl | rfl
          · as_aux_lemma =>
            have HST := hidM (readStored_any B X (t + 3) most (x % 2 == 1) v o p1 p2 p3 p4 w2 HS.out hX hl3 hm HA.out.out)
            go_wp2_with fail
            refine HST.out.mono ?_
            intro e w3 hp
            generalize hr : storedR X.data.toList most (t + 3) o = r at hp
            have HR := hidM hr
            clear hr HST
            cases r with
            | bad n =>
              obtain ⟨hn0, rfl, hb⟩ := hp
              have HB := hidM hb
              have e0 : ((n : Int) == 0) = false := by simp; omega
              clear hb
              go_wp2
              simp only [jumpN]
              go_ret
              exact .inl ⟨n, hn0, HA.out.run _ (.stBad t o x n HN.out HZ.out.symm HR.out), rfl, HA.out.below.trans (HK.out.below.trans HB.out)⟩
            | good t' o' =>
              obtain ⟨rfl, v', hst, hkp⟩ := hp
              have HST := hidM hst
              have HKP := hidM hkp
              clear hst hkp
              go_wp2
              go_step3
              obtain ⟨h1, h2⟩ := HA.out.stored HN.out HZ.out.symm HR.out HST.out (HK.out.trans HKP.out)
              exact ⟨rfl, ⟨⟨_,_,_,_,_,_,_,_,_,_,_,_,_,_,_,_,_,_,_,_,_,_,_,_,_,_,_,_,_,_,_,_,_,_,_,_,_,_,_,_,_,_,_,_,_,_,_,_,_,_,_,_,_,_,_,_,_,_,_,_,_,_,_,_, rfl⟩, _,_,_,_,_,_,_,_, h1⟩, h2⟩
          · as_aux_lemma =>
            have HST := hidM (useFixed_any B X (t + 3) most (x % 2 == 1) v o p1 p2 p3 p4 w2 HS.out (HA.out.fixed.kept HK.out))
            go_wp2_with fail
            refine HST.out.mono ?_
            rintro _ w3 ⟨rfl, q1, q2, hst, ht1, ht2, hkp⟩
            have HST := hidM hst
            have HT1 := hidM ht1
            have HT2 := hidM ht2
            have HKP := hidM hkp
            clear hst ht1 ht2 hkp
            go_wp2
            go_step3
            obtain ⟨h1, h2⟩ := HA.out.fixd HN.out HZ.out.symm HST.out HT1.out HT2.out (HK.out.trans HKP.out)
            exact ⟨rfl, ⟨⟨_,_,_,_,_,_,_,_,_,_,_,_,_,_,_,_,_,_,_,_,_,_,_,_,_,_,_,_,_,_,_,_,_,_,_,_,_,_,_,_,_,_,_,_,_,_,_,_,_,_,_,_,_,_,_,_,_,_,_,_,_,_,_,_, rfl⟩, _,_,_,_,_,_,_,_,_,_, h1⟩, h2⟩
          · as_aux_lemma =>
            have hG2 : ∀ k, k < 19 → w2.cell? ⟨0, k, none⟩ = some (.int .i64 (plK k : Int)) := fun k hk => (World.cell?_of_block (w := w) (a := ⟨0, k, none⟩) ((HA.out.below.trans HK.out.below).block 0 hBp)).trans (HG.out k hk)
            have HST := hidM (readCodes_any B X (t + 3) most (x % 2 == 1) v o p1 p2 p3 p4 w2 HS.out hBp hX hl3 hG2)
            clear hG2
            go_wp2_with fail
            refine HST.out.mono ?_
            rintro e w3 hp
            rcases hp with ⟨n, hn0, hd, rfl, hb⟩ | ⟨cl, cd, t', hd, ht', rfl, q1, q2, hst, ht1, ht2, hkp⟩
            · have HD := hidM hd
              have HB := hidM hb
              have e0 : ((n : Int) == 0) = false := by simp; omega
              clear hd hb
              go_wp2
              simp only [jumpN]
              go_ret
              exact .inl ⟨n, hn0, HA.out.run _ (.dyBad t o x n HN.out HZ.out.symm HD.out), rfl, HA.out.below.trans (HK.out.below.trans HB.out)⟩
            · have HD := hidM hd
              have HST := hidM hst
              have HT1 := hidM ht1
              have HT2 := hidM ht2
              have HKP := hidM hkp
              clear hd hst ht1 ht2 hkp
              go_wp2
              go_step3
              obtain ⟨h1, h2⟩ := HA.out.dyn HN.out HZ.out.symm HD.out ht' HST.out HT1.out HT2.out (HK.out.trans HKP.out)
              exact ⟨rfl, ⟨⟨_,_,_,_,_,_,_,_,_,_,_,_,_,_,_,_,_,_,_,_,_,_,_,_,_,_,_,_,_,_,_,_,_,_,_,_,_,_,_,_,_,_,_,_,_,_,_,_,_,_,_,_,_,_,_,_,_,_,_,_,_,_,_,_, rfl⟩, _,_,_,_,_,_,_,_,_,_, h1⟩, h2⟩
          · as_aux_lemma =>
            go_wp2
            simp only [jumpN]
            go_ret
            exact .inl ⟨3, by decide, HA.out.run _ (.kind3 t o x HN.out HZ.out.symm), rfl, HA.out.below.trans HK.out.below⟩
        · have HN := hidM hn
          clear hn
          go_wp2
          simp only [jumpN]
          go_ret
          exact .inl ⟨6, by decide, HA.out.run _ (.head6 t o HN.out), rfl, HA.out.below.trans HK.out.below⟩
    | 1, hJ =>
      obtain ⟨⟨u3, u4, u5, u6, u7, u8, u9, u10, u11, u12, u13, u14, u15, u16, u17, u18, u19, u20, u21, u22, u23, u24, u25, u26, u27, u28, u29, u30, u31, u32, u33, u34, u35, u36, u37, u38, u39, u40, u41, u42, u43, u44, u45, u46, u47, u48, u49, u50, u51, u52, u53, u54, u55, u56, u57, u58, u59, u60, u61, u62, u63, u64, u65, u66, rfl⟩, t, last, o, v, p1, p2, p3, p4, cl, cd, hA⟩ := hJ
      cases hf
      have HA := hidM hA
      have c0 := hA.st.box.c0
      have c4 := hA.st.box.c4
      have hlim := hA.lim
      have H50 := hidM (fun V hV => sread_box B 4 cl p1 X t (8 * X.size - t) w1 hA.okl hA.tl hA.st.rd hX (by omega) c0 c4 V hV)
      have HD := DrewOf.refl w1
      obtain ⟨tb, E, hp1, _⟩ := hA.tl
      have HBX := hidM (fun V hV => BoxS.of (V := V) c0 c4 hV)
      clear hA
      subst hp1
      go_wp2_with fail
      go_region_held3 (fun w' => w'.cell? ⟨B + 1, 0, none⟩ = some (.pointer (some ⟨B, 0, none⟩)) ∧ w'.cell? ⟨B + 1, 4, none⟩ = some (.pointer (some ⟨tb, 0, none⟩)) ∧ Hid (Only B w1 w'))
        (first | exact hS50 | exact HBX.out _ (by repeat (first | exact HD | apply DrewOf.drew | apply DrewOf.drewN)))
        (first
          | (go_at_call 50; with_reducible refine (H50.out _ (by repeat (first | exact HD | apply DrewOf.drew | apply DrewOf.drewN))).mono ?_; rintro e w2 ⟨⟨s, n, rfl, HSY⟩, hS50⟩))
      have HO := hS50.2.2
      clear hS50 H50 HD HBX c0 c4
      rename_i hheld
      clear hheld
      rcases HSY.out with ⟨t', hn0, hsym, hrd⟩ | ⟨hn0, hsym, hs0⟩
      · subst hn0
        have HSM := hidM hsym
        have hslt := hsym.lt
        have hs320 : s ≤ 320 := by have := HA.out.okl.few; omega
        have ht' : t' ≤ 8 * X.size := by have := hslt.2.2; rw [total_size] at this; exact this
        have HS2 := hidM (HA.out.st.read hrd HO.out)
        have HK2 : Hid (Kept B w1 w2) := HO.out.kept
        clear hsym hslt hrd HSY
        have hsc : s = 256 ∨ s < 256 ∨ 256 < s := by omega
        rcases hsc with rfl | hs | hs
        · as_aux_lemma =>
          go_wp2
          go_step3
          obtain ⟨h1, h2⟩ := HA.out.ends HSM.out HS2.out HK2.out
          exact ⟨rfl, ⟨⟨_,_,_,_,_,_,_,_,_,_,_,_,_,_,_,_,_,_,_,_,_,_,_,_,_,_,_,_,_,_,_,_,_,_,_,_,_,_,_,_,_,_,_,_,_,_,_,_,_,_,_,_,_,_,_,_,_,_,_,_,_,_,_,_, rfl⟩, _,_,_,_,_,_,_,_, h1⟩, h2⟩
        · as_aux_lemma =>
          have e1 : ((s : Int) == 256) = false := by simp; omega
          have e2 : (s : Int) < 256 := by omega
          have e3 : IntKind.u8.wrap (s : Int) = (s : Int) := by rw [IntKind.wrap_u8]; omega
          have hu : (UInt8.ofNat s).toNat = s := ofNat_nat s hs
          have hput := put_any B X t' most last v o (UInt8.ofNat s) (.pointer (some ⟨tb, 0, none⟩)) p2 p3 p4 w2 HS2.out hm HA.out.out
          rw [hu] at hput
          have HPU := hidM hput
          clear hput hu
          go_wp2_with fail
          refine HPU.out.mono ?_
          rintro e w3 hp
          rcases hp with ⟨hbig, rfl, hb⟩ | ⟨hfit, rfl, v', hst, hkp⟩
          · have HB := hidM hb
            have HBG : Hid (most ≤ o.length) := by unfold Hid; simp at hbig; omega
            clear hb hbig
            go_wp2
            simp only [jumpN]
            go_ret
            exact .inl ⟨2, by decide, HA.out.run _ (.syBig last cl cd t o s t' HSM.out hs HBG.out), rfl, HA.out.below.trans (HK2.out.below.trans HB.out)⟩
          · have HST := hidM hst
            have HKP := hidM hkp
            have HFT : Hid (o.length + 1 ≤ most) := hfit
            clear hst hkp hfit
            go_wp2
            go_step3
            obtain ⟨h1, h2⟩ := HA.out.puts HSM.out hs HFT.out HST.out (HK2.out.trans HKP.out)
            exact ⟨rfl, ⟨⟨_,_,_,_,_,_,_,_,_,_,_,_,_,_,_,_,_,_,_,_,_,_,_,_,_,_,_,_,_,_,_,_,_,_,_,_,_,_,_,_,_,_,_,_,_,_,_,_,_,_,_,_,_,_,_,_,_,_,_,_,_,_,_,_, rfl⟩, _,_,_,_,_,_,_,_,_,_, h1⟩, h2⟩
        · as_aux_lemma =>
          have e1 : ((s : Int) == 256) = false := by simp; omega
          have e2 : ¬ (s : Int) < 256 := by omega
          have HRE := hidM (repeat_any B X t' (8 * X.size - t') s most last v o (.pointer (some ⟨tb, 0, none⟩)) p2 p3 p4 cd w2 HS2.out HA.out.okd (HA.out.td.kept HK2.out) hX (by omega) hm HA.out.out hs hs320)
          go_wp2_with fail
          refine HRE.out.mono ?_
          rintro e w3 ⟨r, hr, hp⟩
          have HR := hidM hr
          clear hr HRE
          cases r with
          | bad n =>
            obtain ⟨hn0, rfl, hb⟩ := hp
            have HB := hidM hb
            have e0 : ((n : Int) == 0) = false := by simp; omega
            clear hb
            go_wp2
            simp only [jumpN]
            go_ret
            exact .inl ⟨n, hn0, HA.out.run _ (.syRBad last cl cd t o s t' n HSM.out hs HR.out), rfl, HA.out.below.trans (HK2.out.below.trans HB.out)⟩
          | good t2 o2 =>
            obtain ⟨rfl, v', hst, hkp⟩ := hp
            have HST := hidM hst
            have HKP := hidM hkp
            clear hst hkp
            go_wp2
            go_step3
            obtain ⟨h1, h2⟩ := HA.out.reps HSM.out hs HR.out HST.out (HK2.out.trans HKP.out)
            exact ⟨rfl, ⟨⟨_,_,_,_,_,_,_,_,_,_,_,_,_,_,_,_,_,_,_,_,_,_,_,_,_,_,_,_,_,_,_,_,_,_,_,_,_,_,_,_,_,_,_,_,_,_,_,_,_,_,_,_,_,_,_,_,_,_,_,_,_,_,_,_, rfl⟩, _,_,_,_,_,_,_,_,_,_, h1⟩, h2⟩
      · have HSM := hidM hsym
        have e0 : ((n : Int) == 0) = false := by simp; omega
        clear hsym HSY
        go_wp2
        simp only [jumpN]
        go_ret
        exact .inl ⟨n, hn0, HA.out.run _ (.syBad last cl cd t o n HSM.out), rfl, HA.out.below.trans HO.out.kept.below⟩
end Go.Proofs.YtkckobhpanghiaaDoor
