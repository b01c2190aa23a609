/-
  Taken over from another program: InfI.
  Taken over from another program: InfJ.
  Taken over from another program: InfL.
-/
import Derived.Test.YtlmeoahcpmikiaaGreatDoorJInfV
import Derived.Test.YtlmeoahcpmikiaaGreatDoorJInfR
namespace Go.Proofs.YtlmeoahcpmikiaaGreatDoor
open Go.RowKit
set_option maxHeartbeats 8000000 in
set_option maxRecDepth 100000 in
theorem sreadAll_any (B : Nat) (X : ByteArray) (most : Nat) (w : World) (v p1 p2 : Value) (hS : StS w B X 0 most false v [] p1 p2 (.pointer none) (.pointer none)) (hBp : 13 < B) (hX : X.size ≤ 1000000) (hm : most ≤ 65536)
    (hG : ∀ k, k < 19 → w.cell? ⟨13, k, none⟩ = some (.int .i64 (plK k : Int))) :
    Calls Tryz.prog 266 #[.pointer (some ⟨B + 1, 0, none⟩)] w fun e w' => ReadPostS B X most w e w' := by
  have HG := hidM hG
  have HA0 : Hid (AtBlk B X most w w 0 false [] v p1 p2 (.pointer none) (.pointer none)) := ⟨hS, Nat.zero_le _, Nat.zero_le _, .inl ⟨rfl, rfl⟩, Below.refl _ _, fun r h => h⟩
  clear hS hG
  go_enter Tryz.func266, Tryz.ntmps266
  go_wp2
  refine wp_scope_many2 (jumpR B X most w) (fun _ _ w' => 8 * X.size - bitOf B w') ?_ ?_
  · intro hp
    clear hp
    go_wp2
    go_step3
    refine (by assumption : ∀ (a : Act) (w : World), _ → _) _ _ ?_
    have hA9 : ∃ t last o v p1 p2 p3 p4, AtBlk B X most w w t last o v p1 p2 p3 p4 := ⟨_,_,_,_,_,_,_,_, HA0.out⟩
    clear HA0
    obtain ⟨t, last, o, v, p1, p2, p3, p4, hA⟩ := hA9
    have HA := hidM hA
    have c3 := hA.st.box.c3
    have hlim := hA.lim
    clear hA
    cases last with
    | true =>
      go_wp2
      simp only [jumpN]
      go_ret
      exact .inr ⟨t, o, v, p1, p2, p3, p4, HA.out.run _ (.fin t o), HA.out.lim, HA.out.out, rfl, HA.out.st, HA.out.below⟩
    | false =>
      have HH := hidM (readHead_any (B + 1) B X t (8 * X.size - t) most v p1 p2 p3 p4 false w (by omega) HA.out.st.box HA.out.st.rd (by omega) (by omega))
      go_wp2_with fail
      refine HH.out.mono ?_
      rintro _ w2 ⟨hp, ho⟩
      have HO := hidM ho
      have HK : Hid (Kept B w w2) := ho.kept
      clear ho HH c3
      rcases hp with ⟨x, hn, hx8, rfl, hrd, hbx⟩ | ⟨hn, rfl⟩
      · have HN := hidM hn
        have HS := hidM (HA.out.st.two hrd hbx HO.out)
        have hl3 := num_lim hn
        clear hn hrd hbx
        obtain ⟨z, hz⟩ : ∃ z, z = x / 2 := ⟨_, rfl⟩
        rw [← hz]
        have HZ := hidM hz
        have hz4 : z < 4 := by omega
        clear hz
        have hzz : z = 0 ∨ z = 1 ∨ z = 2 ∨ z = 3 := by omega
        rcases hzz with rfl | rfl | rfl | rfl
        · as_aux_lemma =>
          have HST := hidM (readStored_any B X (t + 3) most (x % 2 == 1) v o p1 p2 p3 p4 w2 HS.out hX hl3 hm HA.out.out)
          go_wp2_with fail
          refine HST.out.mono ?_
          intro e w3 hp
          generalize hr : storedR X.data.toList most (t + 3) o = r at hp
          have HR := hidM hr
          clear hr HST
          cases r with
          | bad n =>
            obtain ⟨hn0, rfl, hb⟩ := hp
            have HB := hidM hb
            have e0 : ((n : Int) == 0) = false := by simp; omega
            clear hb
            go_wp2
            simp only [jumpN]
            go_ret
            exact .inl ⟨n, hn0, HA.out.run _ (.stBad t o x n HN.out HZ.out.symm HR.out), rfl, HA.out.below.trans (HK.out.below.trans HB.out)⟩
          | good t' o' =>
            obtain ⟨rfl, v', hst, hkp⟩ := hp
            have HST := hidM hst
            have HKP := hidM hkp
            clear hst hkp
            go_wp2
            go_step3
            obtain ⟨h1, h2⟩ := HA.out.stored HN.out HZ.out.symm HR.out HST.out (HK.out.trans HKP.out)
            exact ⟨rfl, ⟨⟨_,_,_,_,_,_,_,_,_,_,_,_,_,_,_,_,_,_,_,_,_,_,_,_,_,_,_,_,_,_,_,_,_,_,_,_,_,_,_,_,_,_,_,_,_,_,_,_,_,_,_,_,_,_,_,_,_,_,_,_,_,_,_,_, rfl⟩, _,_,_,_,_,_,_,_, h1⟩⟩
        · as_aux_lemma =>
          have HST := hidM (useFixed_any B X (t + 3) most (x % 2 == 1) v o p1 p2 p3 p4 w2 HS.out (HA.out.fixed.kept HK.out))
          go_wp2_with fail
          refine HST.out.mono ?_
          rintro _ w3 ⟨rfl, q1, q2, hst, ht1, ht2, hkp⟩
          have HST := hidM hst
          have HT1 := hidM ht1
          have HT2 := hidM ht2
          have HKP := hidM hkp
          clear hst ht1 ht2 hkp
          go_wp2
          go_step3
          obtain ⟨h1, h2⟩ := HA.out.fixd HN.out HZ.out.symm HST.out HT1.out HT2.out (HK.out.trans HKP.out)
          exact ⟨rfl, ⟨⟨_,_,_,_,_,_,_,_,_,_,_,_,_,_,_,_,_,_,_,_,_,_,_,_,_,_,_,_,_,_,_,_,_,_,_,_,_,_,_,_,_,_,_,_,_,_,_,_,_,_,_,_,_,_,_,_,_,_,_,_,_,_,_,_, rfl⟩, _,_,_,_,_,_,_,_,_,_, h1⟩⟩
        · as_aux_lemma =>
          have hG2 : ∀ k, k < 19 → w2.cell? ⟨13, k, none⟩ = some (.int .i64 (plK k : Int)) := fun k hk => (World.cell?_of_block (w := w) (a := ⟨13, k, none⟩) ((HA.out.below.trans HK.out.below).block 13 hBp)).trans (HG.out k hk)
          have HST := hidM (readCodes_any B X (t + 3) most (x % 2 == 1) v o p1 p2 p3 p4 w2 HS.out hBp hX hl3 hG2)
          clear hG2
          go_wp2_with fail
          refine HST.out.mono ?_
          rintro e w3 hp
          rcases hp with ⟨n, hn0, hd, rfl, hb⟩ | ⟨cl, cd, t', hd, ht', rfl, q1, q2, hst, ht1, ht2, hkp⟩
          · have HD := hidM hd
            have HB := hidM hb
            have e0 : ((n : Int) == 0) = false := by simp; omega
            clear hd hb
            go_wp2
            simp only [jumpN]
            go_ret
            exact .inl ⟨n, hn0, HA.out.run _ (.dyBad t o x n HN.out HZ.out.symm HD.out), rfl, HA.out.below.trans (HK.out.below.trans HB.out)⟩
          · have HD := hidM hd
            have HST := hidM hst
            have HT1 := hidM ht1
            have HT2 := hidM ht2
            have HKP := hidM hkp
            clear hd hst ht1 ht2 hkp
            go_wp2
            go_step3
            obtain ⟨h1, h2⟩ := HA.out.dyn HN.out HZ.out.symm HD.out ht' HST.out HT1.out HT2.out (HK.out.trans HKP.out)
            exact ⟨rfl, ⟨⟨_,_,_,_,_,_,_,_,_,_,_,_,_,_,_,_,_,_,_,_,_,_,_,_,_,_,_,_,_,_,_,_,_,_,_,_,_,_,_,_,_,_,_,_,_,_,_,_,_,_,_,_,_,_,_,_,_,_,_,_,_,_,_,_, rfl⟩, _,_,_,_,_,_,_,_,_,_, h1⟩⟩
        · as_aux_lemma =>
          go_wp2
          simp only [jumpN]
          go_ret
          exact .inl ⟨3, by decide, HA.out.run _ (.kind3 t o x HN.out HZ.out.symm), rfl, HA.out.below.trans HK.out.below⟩
      · have HN := hidM hn
        clear hn
        go_wp2
        simp only [jumpN]
        go_ret
        exact .inl ⟨6, by decide, HA.out.run _ (.head6 t o HN.out), rfl, HA.out.below.trans HK.out.below⟩
  · intro l rest a w1 hf hJ
    clear HA0
    match l, hJ with
    | 0, hJ =>
      obtain ⟨⟨u3, u4, u5, u6, u7, u8, u9, u10, u11, u12, u13, u14, u15, u16, u17, u18, u19, u20, u21, u22, u23, u24, u25, u26, u27, u28, u29, u30, u31, u32, u33, u34, u35, u36, u37, u38, u39, u40, u41, u42, u43, u44, u45, u46, u47, u48, u49, u50, u51, u52, u53, u54, u55, u56, u57, u58, u59, u60, u61, u62, u63, u64, u65, u66, rfl⟩, t, last, o, v, p1, p2, p3, p4, hA⟩ := hJ
      cases hf
      have HA := hidM hA
      have c3 := hA.st.box.c3
      have hlim := hA.lim
      clear hA
      cases last with
      | true =>
        go_wp2
        simp only [jumpN]
        go_ret
        exact .inr ⟨t, o, v, p1, p2, p3, p4, HA.out.run _ (.fin t o), HA.out.lim, HA.out.out, rfl, HA.out.st, HA.out.below⟩
      | false =>
        have HH := hidM (readHead_any (B + 1) B X t (8 * X.size - t) most v p1 p2 p3 p4 false w1 (by omega) HA.out.st.box HA.out.st.rd (by omega) (by omega))
        go_wp2_with fail
        refine HH.out.mono ?_
        rintro _ w2 ⟨hp, ho⟩
        have HO := hidM ho
        have HK : Hid (Kept B w1 w2) := ho.kept
        clear ho HH c3
        rcases hp with ⟨x, hn, hx8, rfl, hrd, hbx⟩ | ⟨hn, rfl⟩
        · have HN := hidM hn
          have HS := hidM (HA.out.st.two hrd hbx HO.out)
          have hl3 := num_lim hn
          clear hn hrd hbx
          obtain ⟨z, hz⟩ : ∃ z, z = x / 2 := ⟨_, rfl⟩
          rw [← hz]
          have HZ := hidM hz
          have hz4 : z < 4 := by omega
          clear hz
          have hzz : z = 0 ∨ z = 1 ∨ z = 2 ∨ z = 3 := by omega
          rcases hzz with rfl | rfl | rfl | rfl
          · as_aux_lemma =>
            have HST := hidM (readStored_any B X (t + 3) most (x % 2 == 1) v o p1 p2 p3 p4 w2 HS.out hX hl3 hm HA.out.out)
            go_wp2_with fail
            refine HST.out.mono ?_
            intro e w3 hp
            generalize hr : storedR X.data.toList most (t + 3) o = r at hp
            have HR := hidM hr
            clear hr HST
            cases r with
            | bad n =>
              obtain ⟨hn0, rfl, hb⟩ := hp
              have HB := hidM hb
              have e0 : ((n : Int) == 0) = false := by simp; omega
              clear hb
              go_wp2
              simp only [jumpN]
              go_ret
              exact .inl ⟨n, hn0, HA.out.run _ (.stBad t o x n HN.out HZ.out.symm HR.out), rfl, HA.out.below.trans (HK.out.below.trans HB.out)⟩
            | good t' o' =>
              obtain ⟨rfl, v', hst, hkp⟩ := hp
              have HST := hidM hst
              have HKP := hidM hkp
              clear hst hkp
              go_wp2
              go_step3
              obtain ⟨h1, h2⟩ := HA.out.stored HN.out HZ.out.symm HR.out HST.out (HK.out.trans HKP.out)
              exact ⟨rfl, ⟨⟨_,_,_,_,_,_,_,_,_,_,_,_,_,_,_,_,_,_,_,_,_,_,_,_,_,_,_,_,_,_,_,_,_,_,_,_,_,_,_,_,_,_,_,_,_,_,_,_,_,_,_,_,_,_,_,_,_,_,_,_,_,_,_,_, rfl⟩, _,_,_,_,_,_,_,_, h1⟩, h2⟩
          · as_aux_lemma =>
            have HST := hidM (useFixed_any B X (t + 3) most (x % 2 == 1) v o p1 p2 p3 p4 w2 HS.out (HA.out.fixed.kept HK.out))
            go_wp2_with fail
            refine HST.out.mono ?_
            rintro _ w3 ⟨rfl, q1, q2, hst, ht1, ht2, hkp⟩
            have HST := hidM hst
            have HT1 := hidM ht1
            have HT2 := hidM ht2
            have HKP := hidM hkp
            clear hst ht1 ht2 hkp
            go_wp2
            go_step3
            obtain ⟨h1, h2⟩ := HA.out.fixd HN.out HZ.out.symm HST.out HT1.out HT2.out (HK.out.trans HKP.out)
            exact ⟨rfl, ⟨⟨_,_,_,_,_,_,_,_,_,_,_,_,_,_,_,_,_,_,_,_,_,_,_,_,_,_,_,_,_,_,_,_,_,_,_,_,_,_,_,_,_,_,_,_,_,_,_,_,_,_,_,_,_,_,_,_,_,_,_,_,_,_,_,_, rfl⟩, _,_,_,_,_,_,_,_,_,_, h1⟩, h2⟩
          · as_aux_lemma =>
            have hG2 : ∀ k, k < 19 → w2.cell? ⟨13, k, none⟩ = some (.int .i64 (plK k : Int)) := fun k hk => (World.cell?_of_block (w := w) (a := ⟨13, k, none⟩) ((HA.out.below.trans HK.out.below).block 13 hBp)).trans (HG.out k hk)
            have HST := hidM (readCodes_any B X (t + 3) most (x % 2 == 1) v o p1 p2 p3 p4 w2 HS.out hBp hX hl3 hG2)
            clear hG2
            go_wp2_with fail
            refine HST.out.mono ?_
            rintro e w3 hp
            rcases hp with ⟨n, hn0, hd, rfl, hb⟩ | ⟨cl, cd, t', hd, ht', rfl, q1, q2, hst, ht1, ht2, hkp⟩
            · have HD := hidM hd
              have HB := hidM hb
              have e0 : ((n : Int) == 0) = false := by simp; omega
              clear hd hb
              go_wp2
              simp only [jumpN]
              go_ret
              exact .inl ⟨n, hn0, HA.out.run _ (.dyBad t o x n HN.out HZ.out.symm HD.out), rfl, HA.out.below.trans (HK.out.below.trans HB.out)⟩
            · have HD := hidM hd
              have HST := hidM hst
              have HT1 := hidM ht1
              have HT2 := hidM ht2
              have HKP := hidM hkp
              clear hd hst ht1 ht2 hkp
              go_wp2
              go_step3
              obtain ⟨h1, h2⟩ := HA.out.dyn HN.out HZ.out.symm HD.out ht' HST.out HT1.out HT2.out (HK.out.trans HKP.out)
              exact ⟨rfl, ⟨⟨_,_,_,_,_,_,_,_,_,_,_,_,_,_,_,_,_,_,_,_,_,_,_,_,_,_,_,_,_,_,_,_,_,_,_,_,_,_,_,_,_,_,_,_,_,_,_,_,_,_,_,_,_,_,_,_,_,_,_,_,_,_,_,_, rfl⟩, _,_,_,_,_,_,_,_,_,_, h1⟩, h2⟩
          · as_aux_lemma =>
            go_wp2
            simp only [jumpN]
            go_ret
            exact .inl ⟨3, by decide, HA.out.run _ (.kind3 t o x HN.out HZ.out.symm), rfl, HA.out.below.trans HK.out.below⟩
        · have HN := hidM hn
          clear hn
          go_wp2
          simp only [jumpN]
          go_ret
          exact .inl ⟨6, by decide, HA.out.run _ (.head6 t o HN.out), rfl, HA.out.below.trans HK.out.below⟩
    | 1, hJ =>
      obtain ⟨⟨u3, u4, u5, u6, u7, u8, u9, u10, u11, u12, u13, u14, u15, u16, u17, u18, u19, u20, u21, u22, u23, u24, u25, u26, u27, u28, u29, u30, u31, u32, u33, u34, u35, u36, u37, u38, u39, u40, u41, u42, u43, u44, u45, u46, u47, u48, u49, u50, u51, u52, u53, u54, u55, u56, u57, u58, u59, u60, u61, u62, u63, u64, u65, u66, rfl⟩, t, last, o, v, p1, p2, p3, p4, cl, cd, hA⟩ := hJ
      cases hf
      have HA := hidM hA
      have c0 := hA.st.box.c0
      have c4 := hA.st.box.c4
      have hlim := hA.lim
      have H50 := hidM (fun V hV => sread_box B 4 cl p1 X t (8 * X.size - t) w1 hA.okl hA.tl hA.st.rd hX (by omega) c0 c4 V hV)
      have HD := DrewOf.refl w1
      obtain ⟨tb, E, hp1, _⟩ := hA.tl
      have HBX := hidM (fun V hV => BoxS.of (V := V) c0 c4 hV)
      clear hA
      subst hp1
      go_wp2_with fail
      go_region_held3 (fun w' => w'.cell? ⟨B + 1, 0, none⟩ = some (.pointer (some ⟨B, 0, none⟩)) ∧ w'.cell? ⟨B + 1, 4, none⟩ = some (.pointer (some ⟨tb, 0, none⟩)) ∧ Hid (Only B w1 w'))
        (first | exact hS50 | exact HBX.out _ (by repeat (first | exact HD | apply DrewOf.drew | apply DrewOf.drewN)))
        (first
          | (go_at_call 287; with_reducible refine (H50.out _ (by repeat (first | exact HD | apply DrewOf.drew | apply DrewOf.drewN))).mono ?_; rintro e w2 ⟨⟨s, n, rfl, HSY⟩, hS50⟩))
      have HO := hS50.2.2
      clear hS50 H50 HD HBX c0 c4
      rename_i hheld
      clear hheld
      rcases HSY.out with ⟨t', hn0, hsym, hrd⟩ | ⟨hn0, hsym, hs0⟩
      · subst hn0
        have HSM := hidM hsym
        have hslt := hsym.lt
        have hs320 : s ≤ 320 := by have := HA.out.okl.few; omega
        have ht' : t' ≤ 8 * X.size := by have := hslt.2.2; rw [total_size] at this; exact this
        have HS2 := hidM (HA.out.st.read hrd HO.out)
        have HK2 : Hid (Kept B w1 w2) := HO.out.kept
        clear hsym hslt hrd HSY
        have hsc : s = 256 ∨ s < 256 ∨ 256 < s := by omega
        rcases hsc with rfl | hs | hs
        · as_aux_lemma =>
          go_wp2
          go_step3
          obtain ⟨h1, h2⟩ := HA.out.ends HSM.out HS2.out HK2.out
          exact ⟨rfl, ⟨⟨_,_,_,_,_,_,_,_,_,_,_,_,_,_,_,_,_,_,_,_,_,_,_,_,_,_,_,_,_,_,_,_,_,_,_,_,_,_,_,_,_,_,_,_,_,_,_,_,_,_,_,_,_,_,_,_,_,_,_,_,_,_,_,_, rfl⟩, _,_,_,_,_,_,_,_, h1⟩, h2⟩
        · as_aux_lemma =>
          have e1 : ((s : Int) == 256) = false := by simp; omega
          have e2 : (s : Int) < 256 := by omega
          have e3 : IntKind.u8.wrap (s : Int) = (s : Int) := by rw [IntKind.wrap_u8]; omega
          have hu : (UInt8.ofNat s).toNat = s := ofNat_nat s hs
          have hput := put_any B X t' most last v o (UInt8.ofNat s) (.pointer (some ⟨tb, 0, none⟩)) p2 p3 p4 w2 HS2.out hm HA.out.out
          rw [hu] at hput
          have HPU := hidM hput
          clear hput hu
          go_wp2_with fail
          refine HPU.out.mono ?_
          rintro e w3 hp
          rcases hp with ⟨hbig, rfl, hb⟩ | ⟨hfit, rfl, v', hst, hkp⟩
          · have HB := hidM hb
            have HBG : Hid (most ≤ o.length) := by unfold Hid; simp at hbig; omega
            clear hb hbig
            go_wp2
            simp only [jumpN]
            go_ret
            exact .inl ⟨2, by decide, HA.out.run _ (.syBig last cl cd t o s t' HSM.out hs HBG.out), rfl, HA.out.below.trans (HK2.out.below.trans HB.out)⟩
          · have HST := hidM hst
            have HKP := hidM hkp
            have HFT : Hid (o.length + 1 ≤ most) := hfit
            clear hst hkp hfit
            go_wp2
            go_step3
            obtain ⟨h1, h2⟩ := HA.out.puts HSM.out hs HFT.out HST.out (HK2.out.trans HKP.out)
            exact ⟨rfl, ⟨⟨_,_,_,_,_,_,_,_,_,_,_,_,_,_,_,_,_,_,_,_,_,_,_,_,_,_,_,_,_,_,_,_,_,_,_,_,_,_,_,_,_,_,_,_,_,_,_,_,_,_,_,_,_,_,_,_,_,_,_,_,_,_,_,_, rfl⟩, _,_,_,_,_,_,_,_,_,_, h1⟩, h2⟩
        · as_aux_lemma =>
          have e1 : ((s : Int) == 256) = false := by simp; omega
          have e2 : ¬ (s : Int) < 256 := by omega
          have HRE := hidM (repeat_any B X t' (8 * X.size - t') s most last v o (.pointer (some ⟨tb, 0, none⟩)) p2 p3 p4 cd w2 HS2.out HA.out.okd (HA.out.td.kept HK2.out) hX (by omega) hm HA.out.out hs hs320)
          go_wp2_with fail
          refine HRE.out.mono ?_
          rintro e w3 ⟨r, hr, hp⟩
          have HR := hidM hr
          clear hr HRE
          cases r with
          | bad n =>
            obtain ⟨hn0, rfl, hb⟩ := hp
            have HB := hidM hb
            have e0 : ((n : Int) == 0) = false := by simp; omega
            clear hb
            go_wp2
            simp only [jumpN]
            go_ret
            exact .inl ⟨n, hn0, HA.out.run _ (.syRBad last cl cd t o s t' n HSM.out hs HR.out), rfl, HA.out.below.trans (HK2.out.below.trans HB.out)⟩
          | good t2 o2 =>
            obtain ⟨rfl, v', hst, hkp⟩ := hp
            have HST := hidM hst
            have HKP := hidM hkp
            clear hst hkp
            go_wp2
            go_step3
            obtain ⟨h1, h2⟩ := HA.out.reps HSM.out hs HR.out HST.out (HK2.out.trans HKP.out)
            exact ⟨rfl, ⟨⟨_,_,_,_,_,_,_,_,_,_,_,_,_,_,_,_,_,_,_,_,_,_,_,_,_,_,_,_,_,_,_,_,_,_,_,_,_,_,_,_,_,_,_,_,_,_,_,_,_,_,_,_,_,_,_,_,_,_,_,_,_,_,_,_, rfl⟩, _,_,_,_,_,_,_,_,_,_, h1⟩, h2⟩
      · have HSM := hidM hsym
        have e0 : ((n : Int) == 0) = false := by simp; omega
        clear hsym HSY
        go_wp2
        simp only [jumpN]
        go_ret
        exact .inl ⟨n, hn0, HA.out.run _ (.syBad last cl cd t o n HSM.out), rfl, HA.out.below.trans HO.out.kept.below⟩
end Go.Proofs.YtlmeoahcpmikiaaGreatDoor
namespace Go.Proofs.YtlmeoahcpmikiaaGreatDoor
open Go.RowKit
set_option maxHeartbeats 400000 in
set_option maxRecDepth 100000 in
theorem newR_eq (s : ByteArray) (A : Nat) (w : World) (hA : A ≤ s.size) :
    Calls Tryz.prog 265 #[.string s, .int .i64 (A : Int)] w fun e w' => e = .returned (.pointer (some ⟨w.heap.size, 0, none⟩)) ∧ w' = w.alloc (.cells #[.string (s.extract A s.size), .int .i64 0] 365) := by
  have e1 : (if (A : Int) < 0 then 0 else (A : Int)) = (A : Int) := if_neg (by omega)
  have e2 : (if (s.size : Int) < (A : Int) then (s.size : Int) else (A : Int)) = (A : Int) := if_neg (by omega)
  go_enter Tryz.func265, Tryz.ntmps265
  go_wp2
  go_ret
  exact ⟨rfl, rfl⟩
/-- what Inflate says of a text: bytes, how many bytes the stream has, the error -/
def InfQ (l : List UInt8) (a m : Int) (r : List UInt8 × Nat × Nat) : Prop :=
  ((a < 0 ∨ (l.length : Int) < a ∨ m < 0 ∨ 65536 < m) ∧ r = ([], 0, 1)) ∨
  (∃ A M : Nat, a = A ∧ m = M ∧ A ≤ l.length ∧ M ≤ 65536 ∧ ((∃ n, n ≠ 0 ∧ Run (l.drop A) M (.blk false) 0 [] (.bad n) ∧ r = ([], 0, n)) ∨ ∃ t o, Run (l.drop A) M (.blk false) 0 [] (.good t o) ∧ t ≤ 8 * (l.length - A) ∧ o.length ≤ M ∧ r = (o, (t + 7) / 8, 0)))
/-- Inflate's three results -/
def InfPost (s : ByteArray) (a m : Int) (e : Ending) : Prop :=
  ∃ r, InfQ s.data.toList a m r ∧ e = .returned (.tuple #[.string ⟨r.1.toArray⟩, .int .i64 (r.2.1 : Int), .int .i64 (r.2.2 : Int)])
theorem drop_extract (s : ByteArray) (A : Nat) : (s.extract A s.size).data.toList = s.data.toList.drop A := by
  rw [extract_list, List.take_of_length_le]
  rw [List.length_drop, Array.length_toList]
  exact Nat.le_refl _
set_option maxHeartbeats 2000000 in
set_option maxRecDepth 100000 in
theorem inflate_any (s : ByteArray) (a m : Int) (w : World) (hs : s.size ≤ 1000000) (hw : 13 < w.heap.size) (hG : ∀ k, k < 19 → w.cell? ⟨13, k, none⟩ = some (.int .i64 (plK k : Int))) :
    Calls Tryz.prog 235 #[.string s, .int .i64 a, .int .i64 m] w fun e w' => InfPost s a m e ∧ Below w.heap.size w w' := by
  have hlen : s.data.toList.length = s.size := Array.length_toList
  have HLEN := hidM hlen
  have HG := hidM hG
  clear hG hlen
  by_cases hbad : a < 0 ∨ (s.size : Int) < a ∨ m < 0 ∨ 65536 < m
  · have HQ : Hid (InfQ s.data.toList a m ([], 0, 1)) := .inl ⟨by rw [HLEN.out]; exact hbad, rfl⟩
    have hb2 : (decide (a < 0) || (decide ((s.size : Int) < a) || (decide (m < 0) || decide (65536 < m)))) = true := by simpa using hbad
    go_enter Tryz.func235, Tryz.ntmps235
    by_cases h1 : a < 0
    · go_wp2
      go_ret3
      exact ⟨⟨_, HQ.out, rfl⟩, Below.refl _ _⟩
    · by_cases h2 : (s.size : Int) < a
      · go_wp2
        go_ret3
        exact ⟨⟨_, HQ.out, rfl⟩, Below.refl _ _⟩
      · by_cases h3 : m < 0
        · go_wp2
          go_ret3
          exact ⟨⟨_, HQ.out, rfl⟩, Below.refl _ _⟩
        · have h4 : 65536 < m := by omega
          go_wp2
          go_ret3
          exact ⟨⟨_, HQ.out, rfl⟩, Below.refl _ _⟩
  · obtain ⟨A, rfl⟩ : ∃ A : Nat, a = A := ⟨a.toNat, by omega⟩
    obtain ⟨M, rfl⟩ : ∃ M : Nat, m = M := ⟨m.toNat, by omega⟩
    have h1 : A ≤ s.size := by omega
    have h2 : M ≤ 65536 := by omega
    have g1 : ¬ (A : Int) < 0 := by omega
    have g2 : ¬ (s.size : Int) < (A : Int) := by omega
    have g3 : ¬ (M : Int) < 0 := by omega
    have g4 : ¬ (65536 : Int) < (M : Int) := by omega
    clear hbad
    have hXs : (s.extract A s.size).size = s.size - A := by rw [ByteArray.size_extract]; omega
    have HXL := hidM (drop_extract s A)
    have HNEW := hidM (newR_eq s A w h1)
    go_enter Tryz.func235, Tryz.ntmps235
    go_wp2_with fail
    refine HNEW.out.mono ?_
    rintro _ w1 ⟨rfl, rfl⟩
    clear HNEW
    generalize s.extract A s.size = X at *
    have HS0 : Hid (StS ((w.alloc (.cells #[.string X, .int .i64 0] 365)).alloc (.cells #[.pointer (some ⟨w.heap.size, 0, none⟩), .slice none 0 0, .int .i64 (M : Int), .bool false, .pointer none, .pointer none, .pointer none, .pointer none] 338)) w.heap.size X 0 M false (.slice none 0 0) [] (.pointer none) (.pointer none) (.pointer none) (.pointer none)) :=
      ⟨(Below.heap_alloc _ _ w.heap.size (by simp)).trans (heap_alloc_new w _), heap_alloc2_new w _ _, ⟨rfl, .inl ⟨rfl, rfl⟩⟩⟩
    have HB0 : Hid (Below w.heap.size w ((w.alloc (.cells #[.string X, .int .i64 0] 365)).alloc (.cells #[.pointer (some ⟨w.heap.size, 0, none⟩), .slice none 0 0, .int .i64 (M : Int), .bool false, .pointer none, .pointer none, .pointer none, .pointer none] 338))) :=
      ((Below.refl _ w).alloc (Nat.le_refl _) _).alloc (by simp) _
    go_wp2_with fail
    generalize ((w.alloc (.cells #[.string X, .int .i64 0] 365)).alloc (.cells #[.pointer (some ⟨w.heap.size, 0, none⟩), .slice none 0 0, .int .i64 (M : Int), .bool false, .pointer none, .pointer none, .pointer none, .pointer none] 338)) = w1 at *
    refine (sreadAll_any w.heap.size X M w1 _ _ _ HS0.out hw (by omega) h2 (fun k hk => (World.cell?_of_block (w := w) (a := ⟨13, k, none⟩) (HB0.out.block 13 hw)).trans (HG.out k hk))).mono ?_
    intro e w2 hp
    clear HS0
    rcases hp with ⟨n, hn0, hrun, rfl, hb⟩ | ⟨t, o, v, p1, p2, p3, p4, hrun, ht, hol, rfl, hst, hb⟩
    · have HB2 : Hid (Below w.heap.size w w2) := HB0.out.trans hb
      have HQ : Hid (InfQ s.data.toList (A : Int) (M : Int) ([], 0, n)) := .inr ⟨A, M, rfl, rfl, by rw [HLEN.out]; exact h1, h2, .inl ⟨n, hn0, by rw [← HXL.out]; exact hrun, rfl⟩⟩
      have e0 : ((n : Int) == 0) = false := by simp; omega
      clear hrun hb
      go_wp2
      go_ret3
      exact ⟨⟨_, HQ.out, rfl⟩, HB2.out⟩
    · have HB2 : Hid (Below w.heap.size w w2) := HB0.out.trans hb
      have HQ : Hid (InfQ s.data.toList (A : Int) (M : Int) (o, (t + 7) / 8, 0)) := .inr ⟨A, M, rfl, rfl, by rw [HLEN.out]; exact h1, h2, .inr ⟨t, o, by rw [← HXL.out]; exact hrun, by rw [HLEN.out, ← hXs]; exact ht, hol, rfl⟩⟩
      have c0 := hst.box.c0
      have c1 := hst.box.c1
      have hcv : ∀ k, (convert 74 9 v).run Tryz.prog (w2.drewN k) = .ok (.string ⟨o.toArray⟩) (w2.drewN k) := fun k => conv_own (w := w2.drewN k) hst.own
      have HU := hidM (fun V (hV : Hid (DrewOf w2 V)) => (by obtain ⟨k, rfl⟩ := hV; exact used_any w.heap.size X t (w2.drewN k) hst.rd (by omega) : Calls Tryz.prog 267 #[.pointer (some ⟨w.heap.size, 0, none⟩)] V fun e w' => e = .returned (.int .i64 (((t + 7) / 8 : Nat) : Int)) ∧ w' = V))
      have HD := DrewOf.refl w2
      obtain ⟨U, hU⟩ : ∃ U, U = (t + 7) / 8 := ⟨_, rfl⟩
      rw [← hU] at HQ HU
      obtain ⟨O, hO⟩ : ∃ O : ByteArray, O = ⟨o.toArray⟩ := ⟨_, rfl⟩
      rw [← hO] at hcv
      have HO := hidM hO
      clear hrun hb hst hol ht hU hO
      go_wp2
      go_quiet ((go_at_call 267; with_reducible exact Calls.quiet_of_same (HU.out _ (by repeat (first | exact HD | apply DrewOf.drew | apply DrewOf.drewN)))))

      go_wp2
      go_ret3
      exact ⟨⟨_, HQ.out, by rw [HO.out]; rfl⟩, HB2.out.trans (below_drewN (Below.refl _ _) _)⟩
end Go.Proofs.YtlmeoahcpmikiaaGreatDoor
namespace Go.Proofs.YtlmeoahcpmikiaaGreatDoor
open Go.RowKit
theorem InfQ.run {l : List UInt8} {A M t : Nat} {o : List UInt8} {r : List UInt8 × Nat × Nat} (h : InfQ l A M r) (hA : A ≤ l.length) (hM : M ≤ 65536) (hr : Run (l.drop A) M (.blk false) 0 [] (.good t o)) : r = (o, (t + 7) / 8, 0) := by
  rcases h with ⟨h, _⟩ | ⟨A', M', ha, hm, _,_, ⟨n, _, hb, _⟩ | ⟨t', o', hg, _,_, rfl⟩⟩
  · omega
  · obtain rfl : A = A' := by omega
    obtain rfl : M = M' := by omega
    cases hr.det trivial _ hb
  · obtain rfl : A = A' := by omega
    obtain rfl : M = M' := by omega
    cases hr.det trivial _ hg
    rfl
theorem InfQ.runBad {l : List UInt8} {A M n : Nat} {r : List UInt8 × Nat × Nat} (h : InfQ l A M r) (hA : A ≤ l.length) (hM : M ≤ 65536) (hr : Run (l.drop A) M (.blk false) 0 [] (.bad n)) : r = ([], 0, n) := by
  rcases h with ⟨h, _⟩ | ⟨A', M', ha, hm, _,_, ⟨n', _, hb, rfl⟩ | ⟨t', o', hg, _,_,_⟩⟩
  · omega
  · obtain rfl : A = A' := by omega
    obtain rfl : M = M' := by omega
    cases hr.det trivial _ hb
    rfl
  · obtain rfl : A = A' := by omega
    obtain rfl : M = M' := by omega
    cases hr.det trivial _ hg
/-- the first set's order lies in block 0 -/
def GOk (w : World) : Prop := 13 < w.heap.size ∧ ∀ k, k < 19 → w.cell? ⟨13, k, none⟩ = some (.int .i64 (plK k : Int))
theorem GOk.below {w w' : World} (h : GOk w) (hb : Below w.heap.size w w') : GOk w' :=
  ⟨Nat.lt_of_lt_of_le h.1 hb.size, fun k hk => (World.cell?_of_block (w := w) (a := ⟨13, k, none⟩) (hb.block 13 h.1)).trans (h.2 k hk)⟩
end Go.Proofs.YtlmeoahcpmikiaaGreatDoor
