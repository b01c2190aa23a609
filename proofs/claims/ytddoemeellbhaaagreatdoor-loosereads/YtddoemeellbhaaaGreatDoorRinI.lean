/-
  Walks of the document's Inflate: the symbols of a block.
-/
import Derived.Test.YtddoemeellbhaaaGreatDoorRinX
namespace Go.Proofs.YtddoemeellbhaaaGreatDoor
open Go.RowKit
set_option maxHeartbeats 8000000 in
set_option maxRecDepth 100000 in
theorem rpack_any (R g c T t most : Nat) (X o : List UInt8) (v : Value) (w : World) (cl cd : Cd) (a1 a2 : Option Addr) (k1 k2 : Nat) (hS : StX w R g c T X t most 0 v o) (hcl : cl.Good) (hcd : cd.Good)
    (hI1 : IntsAt w a1 cl.L .i64 (fun i => (cl.ln i : Int))) (hI2 : IntsAt w a2 cd.L .i64 (fun i => (cd.ln i : Int))) (hT : T ≤ 1000000) (ht : t ≤ T) (hm : most ≤ 65536) (hl : o.length ≤ most) :
    Calls Tryz.prog 106 #[.pointer (some ⟨R, 0, none⟩), .slice a1 cl.L k1, .slice a2 cd.L k2] w fun e w' => e = .returned (.tuple #[]) ∧ PackX cl cd R g c T X t most v o w w' := by
  have hRB := hS.box.lt
  have HS := hidM hS
  have HI2 := hidM hI2
  have HC1 := hidM (codes_any a1 cl.L k1 cl.ln w hI1 hcl.ok.short hcl.ok.few hcl.ok.fits)
  clear hS hI1 hI2
  go_enter Tryz.func106, Tryz.ntmps106
  go_wp2_with fail
  refine HC1.out.mono ?_
  rintro _ w1 ⟨⟨b1, d1, rfl, hC1⟩, hB1⟩
  have HB1 := hidM hB1
  have HK1 : Hid (CodR w1 w.heap.size b1 cl) := hC1
  clear hC1 hB1 HC1
  go_wp2_with fail
  refine (codes_any a2 cd.L k2 cd.ln w1 (HI2.out.below HB1.out) hcd.ok.short hcd.ok.few hcd.ok.fits).mono ?_
  rintro _ w2 ⟨⟨b2, d2, rfl, hC2⟩, hB2⟩
  have HB2 : Hid (Below w.heap.size w w2) := HB1.out.trans (hB2.mono HB1.out.size)
  have HK1' : Hid (CodR w2 w.heap.size b1 cl) := CodesAt.below HK1.out hB2
  have HK2 : Hid (CodR w2 w.heap.size b2 cd) := by
    rcases hC2 with h | ⟨g, h1, h2, h3⟩
    · exact .inl h
    · refine .inr ⟨g, Nat.le_trans HB1.out.size h1, h2, fun s hs => ?_⟩
      obtain ⟨a', c', h4, h5⟩ := h3 s hs
      refine ⟨a', c', h4, ?_⟩
      rcases h5 with h5 | ⟨b, off, h6, h7, h8⟩
      · exact .inl h5
      · exact .inr ⟨b, off, Nat.le_trans HB1.out.size h6, h7, h8⟩
  clear hC2 hB2 HB1 HK1 HI2
  go_wp2_with fail
  refine (rlens_any w2).mono ?_
  rintro _ w3 ⟨⟨u1, u2, u3, u4, rfl, hu1, hu2, hu3, hu4⟩, hB3⟩
  have HB3 : Hid (Below w.heap.size w w3) := HB2.out.trans (hB3.mono HB2.out.size)
  have HL1 : Hid (CodR w3 w.heap.size b1 cl) := CodesAt.below HK1'.out hB3
  have HL2 : Hid (CodR w3 w.heap.size b2 cd) := CodesAt.below HK2.out hB3
  have hsz := HB2.out.size
  obtain ⟨g1, q1, rfl, hg1, hg1', ht1⟩ := hu1
  obtain ⟨g2, q2, rfl, hg2, hg2', ht2⟩ := hu2
  obtain ⟨g3, q3, rfl, hg3, hg3', ht3⟩ := hu3
  obtain ⟨g4, q4, rfl, hg4, hg4', ht4⟩ := hu4
  have HT1 := hidM ht1
  have HT2 := hidM ht2
  have HT3 := hidM ht3
  have HT4 := hidM ht4
  clear hB3 HK1' HK2 HB2 ht1 ht2 ht3 ht4
  have HS3 := hidM (HS.out.later HB3.out)
  have HP3 := hidM (Below.stp (v := v) HB3.out (Nat.le_of_lt hRB))
  have HI0 : Hid (PkI cl cd R g c T X t most v o w w.heap.size w3 w3) :=
    .inl ⟨t, v, o, fun _ _ h => h, Nat.le_refl _, ht, hl, HS3.out, HP3.out, Nat.le_refl _, fun k h1 h2 => ⟨rfl, fun e => by have := (HS.out.own.ge e.symm).2; omega⟩⟩
  obtain ⟨B, hB⟩ : ∃ B, B = w.heap.size := ⟨_, rfl⟩
  rw [← hB] at HI0 HL1 HL2 hRB hsz
  clear hB HS3 HP3 HB3 HS
  go_wp2
  go_loopw [12, 13, 14, 15, 16] (fun _ _ _ _ _ wr => PkI cl cd R g c T X t most v o w B w3 wr) (fun _ _ _ _ _ wr => T - bitX R wr)
  case atStart => exact HI0.out
  case round =>
    clear HI0
    rcases hrel with ⟨t', v', o', hrun, htt, htT, hol, hst, hsp, hfz⟩ | ⟨e, v', o', t', he, hrun, hst, hsp⟩
    · have HRUN := hidM hrun
      have HST := hidM hst
      have HSP := hidM hsp
      have HFZ := hidM hfz
      have c4 := hst.box.c4
      clear hrun hst hsp hfz
      have HSYM := hidM (rsym_any R g c T t' most B X o' v' wr cl b1 d1 HST.out hcl (HFZ.out.codes HL1.out) hT htT)
      have HBT : Hid (bitX R wr = t') := HST.out.bit
      go_wp2_with fail
      refine HSYM.out.mono ?_
      rintro _ w4 ⟨hp, ho⟩
      have HSP4 := hidM (HSP.out.trans (ho.stp (v := v')))
      have HFZ4 := hidM (HFZ.out.stp (ho.stp (v := v')) hRB)
      clear ho HSYM HSP HFZ c4 HST
      rcases hp with ⟨s, t2, hsym, ht2T, hsL, rfl, hst⟩ | ⟨r, hr, hsym, rfl, hst⟩
      · have HST4 := hidM hst
        have HSY := hidM hsym
        have hlt := hsym.lt.2.1
        have c4 := hst.box.c4
        have s320 : s < 320 := Nat.lt_of_lt_of_le hsL hcl.ok.few
        clear hst hsym
        by_cases h256 : s = 256
        · as_aux_lemma =>
          subst h256
          have HEND : Hid (PackX cl cd R g c T X t most v o w w4) := .inr ⟨t2, v', o', fun last r h => HRUN.out last r (.syEnd last cl cd t' o' t2 r HSY.out h), by omega, ht2T, hol, HST4.out, HSP4.out⟩
          go_wp2
          (try simp only [Exit.inBlock, Exit.then])
          refine bodyPost_ret (results_none rfl _ _ _) rfl ⟨rfl, HEND.out⟩
        · have g256 : ((s : Int) == 256) = false := by simp; omega
          by_cases hlit : s < 256
          · as_aux_lemma =>
            obtain ⟨b, hb⟩ : ∃ b : UInt8, s = b.toNat := ⟨UInt8.ofNat s, by simp; omega⟩
            subst hb
            have hlit' : (b.toNat : Int) < 256 := by omega
            go_wp2_with fail
            refine (rput_any R g c T t2 most X o' b v' w4 HST4.out hm hol).mono ?_
            rintro _ w5 ⟨rfl, hp⟩
            have HI : Hid (PkI cl cd R g c T X t most v o w B w3 w5) := by
              rcases hp with ⟨h1, h2, h3⟩ | ⟨h1, v2, h2, h3⟩
              · exact .inr ⟨2, v', o', t2, by decide, fun last => HRUN.out last _ (.syBig last cl cd t' o' _ t2 HSY.out hlit h1), h2, HSP4.out.trans h3⟩
              · exact .inl ⟨t2, v2, o' ++ [b], fun last r h => HRUN.out last r (.syPut last cl cd t' o' _ t2 r HSY.out hlit h1 (by rw [byte_back]; exact h)), by omega, ht2T, by rw [List.length_append]; exact h1, h2, HSP4.out.trans h3, HFZ4.out.stp h3 hRB⟩
            have HBT5 : Hid (bitX R w5 = t2) := by
              rcases hp with ⟨_, h2, _⟩ | ⟨_,_, h2, _⟩
              · exact h2.bit
              · exact h2.bit
            clear hp
            go_wp2
            go_roundw
            case rel => exact HI.out
            case measure => rw [HBT5.out, HBT.out]; omega
          · have glit : ¬ (s : Int) < 256 := by omega
            have dlit : decide ((s : Int) < 256) = false := by simp; omega
            by_cases hhi : 285 < s
            · as_aux_lemma =>
              have ghi : (285 : Int) < (s : Int) := by omega
              have HF := hidM (rfail_any R g c T t2 most 3 X o' v' w4 HST4.out)
              have h1 := HST4.out.setE 3
              have HEND : Hid (PackX cl cd R g c T X t most v o w (w4.setCell ⟨R, 4, none⟩ (.int .i64 ((3 : Nat) : Int)))) := .inl ⟨3, v', o', t2, by decide, fun last => HRUN.out last _ (.syRBad last cl cd t' o' s t2 3 HSY.out (by omega) (.high hhi)), h1.1, HSP4.out.trans h1.2.stp⟩
              clear h1
              go_wp2_with fail
              refine HF.out.mono ?_
              rintro _ _ ⟨rfl, rfl⟩
              go_wp2
              (try simp only [Exit.inBlock, Exit.then])
              refine bodyPost_ret (results_none rfl _ _ _) rfl ⟨rfl, HEND.out⟩
            · have ghi : ¬ (285 : Int) < (s : Int) := by omega
              have dhi : decide ((285 : Int) < (s : Int)) = false := by simp; omega
              obtain ⟨j, hj⟩ : ∃ j, s = 257 + j := ⟨s - 257, by omega⟩
              have hj29 : j < 29 := by omega
              have ej : (s : Int) - 257 = (j : Int) := by omega
              have wj : IntKind.i64.wrap (j : Int) = (j : Int) := by rw [IntKind.wrap_i64]; omega
              have j0 : (0 : Int) ≤ (j : Int) := by omega
              have j29 : (j : Int) < 29 := by omega
              have e1 := HFZ4.out.cell (Nat.le_trans hsz hg1) hg1' HT1.out hj29
              have e2 := HFZ4.out.cell (Nat.le_trans hsz hg2) hg2' HT2.out hj29
              rw [← hj] at e1 e2
              have hA := lenOf_le (s := s) (by omega) (by omega)
              have HJ := hidM hj
              clear hj
              obtain ⟨A, hAe⟩ : ∃ A, A = (lenOf s).1 := ⟨_, rfl⟩
              obtain ⟨K, hKe⟩ : ∃ K, K = (lenOf s).2 := ⟨_, rfl⟩
              rw [← hAe] at e1
              rw [← hKe] at e2
              rw [← hAe, ← hKe] at hA
              have n1 : g1 ≠ R := by omega
              have n2 : g2 ≠ R := by omega
              have H34 := hidM (fun V hV => num_in R g c T t2 most K X o' v' w4 g1 g2 j A HST4.out hT ht2T (by omega) e1 e2 n1 n2 V hV)
              have HBX := hidM (fun V hV => TabS2.of (R := R) (V := V) e1 e2 hV)
              have HD := DrewOf.refl w4
              have HAE := hidM hAe
              have HKE := hidM hKe
              clear hAe hKe
              go_wp2_with fail
              go_region_held3 (fun w' => w'.cell? ⟨g1, j, none⟩ = some (.int .i64 (A : Int)) ∧ w'.cell? ⟨g2, j, none⟩ = some (.int .i64 (K : Int)) ∧ Hid (Only R w4 w'))
                (first | exact hS50 | exact HBX.out _ (by repeat (first | exact HD | apply DrewOf.drew | apply DrewOf.drewN)))
                (first
                  | (go_at_call 103; with_reducible refine (H34.out _ (by repeat (first | exact HD | apply DrewOf.drew | apply DrewOf.drewN))).mono ?_; rintro e w5 ⟨⟨x, rfl, HNR⟩, hS50⟩))
              have HO5 := hS50.2.2
              clear hS50 H34 HD HBX e1 e2 c4
              rename_i hheld
              clear hheld
              have HSP5 := hidM (HSP4.out.trans (HO5.out.stp (v := v')))
              have HFZ5 := hidM (HFZ4.out.stp (HO5.out.stp (v := v')) hRB)
              clear HO5 HSP4 HFZ4 HST4
              have hx16 := HNR.out.1
              obtain ⟨nn, hnn⟩ : ∃ nn, nn = A + x := ⟨_, rfl⟩
              have enn : (A : Int) + (x : Int) = (nn : Int) := by omega
              have HNN := hidM hnn
              have hnn9 : nn ≤ 100000 := by omega
              have wnn := wrap_small nn (by omega)
              clear hnn
              rcases HNR.out.2 with ⟨hnum, hx2, ht3, hst⟩ | ⟨hx0, hnum, hst⟩
              · have HST5 := hidM hst
                have HNU := hidM hnum
                clear hst hnum HNR hx2
                have HSYM := hidM (rsym_any R g c T (t2 + K) most B X o' v' w5 cd b2 d2 HST5.out hcd (HFZ5.out.codes HL2.out) hT ht3)
                go_wp2_with fail
                refine HSYM.out.mono ?_
                rintro _ w6 ⟨hp, ho⟩
                have HSP6 := hidM (HSP5.out.trans (ho.stp (v := v')))
                have HFZ6 := hidM (HFZ5.out.stp (ho.stp (v := v')) hRB)
                clear ho HSYM HSP5 HFZ5 HST5
                rcases hp with ⟨k, t4, hsym, ht4T, hkL, rfl, hst⟩ | ⟨r, hr, hsym, rfl, hst⟩
                · have HST6 := hidM hst
                  have HSD := hidM hsym
                  have hlt4 := hsym.lt.2.1
                  have c4 := hst.box.c4
                  have k320 : k < 320 := Nat.lt_of_lt_of_le hkL hcd.ok.few
                  clear hst hsym
                  by_cases hk29 : 29 < k
                  · as_aux_lemma =>
                    have gk : (29 : Int) < (k : Int) := by omega
                    have HF := hidM (rfail_any R g c T t4 most 3 X o' v' w6 HST6.out)
                    have h1 := HST6.out.setE 3
                    have HEND : Hid (PackX cl cd R g c T X t most v o w (w6.setCell ⟨R, 4, none⟩ (.int .i64 ((3 : Nat) : Int)))) := .inl ⟨3, v', o', t4, by decide, fun last => HRUN.out last _ (.syRBad last cl cd t' o' s t2 3 HSY.out (by omega) (.dhigh x k t4 (by omega) (by rw [← HKE.out]; exact HNU.out) (by rw [← HKE.out]; exact HSD.out) hk29)), h1.1, HSP6.out.trans h1.2.stp⟩
                    have HS7 := hidM h1.1
                    clear h1
                    go_wp2_with fail
                    refine HF.out.mono ?_
                    rintro _ _ ⟨rfl, rfl⟩
                    clear HF c4
                    generalize w6.setCell ⟨R, 4, none⟩ (.int .i64 ((3 : Nat) : Int)) = w7 at *
                    have c4 : w7.cell? ⟨R, 4, none⟩ = some (.int .i64 3) := HS7.out.box.c4
                    go_wp2
                    (try simp only [Exit.inBlock, Exit.then])
                    refine bodyPost_ret (results_none rfl _ _ _) rfl ⟨rfl, HEND.out⟩
                  · have gk : ¬ (29 : Int) < (k : Int) := by omega
                    have dk : decide ((29 : Int) < (k : Int)) = false := by simp; omega
                    have hk30 : k < 30 := by omega
                    have k0 : (0 : Int) ≤ (k : Int) := by omega
                    have k30 : (k : Int) < 30 := by omega
                    have e3 := HFZ6.out.cell (Nat.le_trans hsz hg3) hg3' HT3.out hk30
                    have e4 := HFZ6.out.cell (Nat.le_trans hsz hg4) hg4' HT4.out hk30
                    have hD := distOf_le (s := k) (by omega)
                    obtain ⟨D, hDe⟩ : ∃ D, D = (distOf k).1 := ⟨_, rfl⟩
                    obtain ⟨F, hFe⟩ : ∃ F, F = (distOf k).2 := ⟨_, rfl⟩
                    rw [← hDe] at e3
                    rw [← hFe] at e4
                    rw [← hDe, ← hFe] at hD
                    have n3 : g3 ≠ R := by omega
                    have n4 : g4 ≠ R := by omega
                    have H34 := hidM (fun V hV => num_in R g c T t4 most F X o' v' w6 g3 g4 k D HST6.out hT ht4T (by omega) e3 e4 n3 n4 V hV)
                    have HBX := hidM (fun V hV => TabS2.of (R := R) (V := V) e3 e4 hV)
                    have HD := DrewOf.refl w6
                    have HDE := hidM hDe
                    have HFE := hidM hFe
                    clear hDe hFe
                    go_wp2_with fail
                    go_region_held3 (fun w' => w'.cell? ⟨g3, k, none⟩ = some (.int .i64 (D : Int)) ∧ w'.cell? ⟨g4, k, none⟩ = some (.int .i64 (F : Int)) ∧ Hid (Only R w6 w'))
                      (first | exact hS51 | exact HBX.out _ (by repeat (first | exact HD | apply DrewOf.drew | apply DrewOf.drewN)))
                      (first
                        | (go_at_call 103; with_reducible refine (H34.out _ (by repeat (first | exact HD | apply DrewOf.drew | apply DrewOf.drewN))).mono ?_; rintro e w7 ⟨⟨y, rfl, HNR⟩, hS51⟩))
                    have HO7 := hS51.2.2
                    clear hS51 H34 HD HBX e3 e4 c4
                    rename_i hheld
                    clear hheld
                    have HSP7 := hidM (HSP6.out.trans (HO7.out.stp (v := v')))
                    have HFZ7 := hidM (HFZ6.out.stp (HO7.out.stp (v := v')) hRB)
                    clear HO7 HSP6 HFZ6 HST6
                    have hy16 := HNR.out.1
                    obtain ⟨bk, hbk⟩ : ∃ bk, bk = D + y := ⟨_, rfl⟩
                    have ebk : (D : Int) + (y : Int) = (bk : Int) := by omega
                    have HBK := hidM hbk
                    have hbk9 : bk ≤ 200000 := by omega
                    have wbk := wrap_small bk (by omega)
                    have hbk1 : 1 ≤ bk := by omega
                    clear hbk
                    rcases HNR.out.2 with ⟨hnum, hy2, ht5, hst⟩ | ⟨hy0, hnum, hst⟩
                    · have HST7 := hidM hst
                      have HNV := hidM hnum
                      have c4 := hst.box.c4
                      obtain ⟨ov, oc, hov⟩ := hst.own.shape
                      clear hst hnum HNR hy2
                      subst hov
                      have c2 := HST7.out.box.c2
                      by_cases hfar : o'.length < bk
                      · as_aux_lemma =>
                        have gf : (o'.length : Int) < (bk : Int) := by omega
                        have HF := hidM (rfail_any R g c T (t4 + F) most 3 X o' _ w7 HST7.out)
                        have h1 := HST7.out.setE 3
                        have HI : Hid (PkI cl cd R g c T X t most v o w B w3 (w7.setCell ⟨R, 4, none⟩ (.int .i64 ((3 : Nat) : Int)))) := .inr ⟨3, _, o', t4 + F, by decide, fun last => HRUN.out last _ (.syRBad last cl cd t' o' s t2 3 HSY.out (by omega) (.far x k t4 y (by omega) (by rw [← HKE.out]; exact HNU.out) (by rw [← HKE.out]; exact HSD.out) (by omega) (by rw [← HFE.out]; exact HNV.out) (by rw [← HDE.out, ← HBK.out]; exact hfar))), h1.1, HSP7.out.trans h1.2.stp⟩
                        have HB8 : Hid (bitX R (w7.setCell ⟨R, 4, none⟩ (.int .i64 ((3 : Nat) : Int))) = t4 + F) := h1.1.bit
                        have HS8 := hidM h1.1
                        clear h1
                        go_wp2_with fail
                        refine HF.out.mono ?_
                        rintro _ _ ⟨rfl, rfl⟩
                        clear HF c4 c2
                        generalize w7.setCell ⟨R, 4, none⟩ (.int .i64 ((3 : Nat) : Int)) = w8 at *
                        have c4 : w8.cell? ⟨R, 4, none⟩ = some (.int .i64 3) := HS8.out.box.c4
                        go_wp2
                        go_loopw [16] (fun i wr' => i = .int .i64 0 ∧ wr' = w8) (fun _ _ => 0)
                        case atStart => exact ⟨rfl, rfl⟩
                        case round =>
                          obtain ⟨rfl, rfl⟩ := hrel
                          have hn0 : (0 : Int) < (nn : Int) := by omega
                          go_wp2
                          go_roundw
                          case rel => exact HI.out
                          case measure => rw [HB8.out, HBT.out]; omega
                      · as_aux_lemma =>
                        have gf : ¬ (o'.length : Int) < (bk : Int) := by omega
                        have df : decide ((o'.length : Int) < (bk : Int)) = false := by simp; omega
                        have HR0 : Hid (RpI R g c T X (t4 + F) most (.slice ov o'.length oc) o' bk nn w7 0 w7) := .inl ⟨_, HST7.out, Stp.refl _ _ _, hol⟩
                        go_wp2
                        go_loopw [16] (fun i wr' => ∃ q : Nat, q ≤ nn ∧ i = .int .i64 q ∧ RpI R g c T X (t4 + F) most (.slice ov o'.length oc) o' bk nn w7 q wr') (fun i _ => nn - (intOf i).toNat)
                        case atStart => exact ⟨0, Nat.zero_le _, rfl, HR0.out⟩
                        case round =>
                          obtain ⟨q, hq, rfl, hrp⟩ := hrel
                          clear HR0 c4 c2
                          rcases hrp with ⟨v2, hst, hsp, hqm⟩ | ⟨hbig, v2, o2, hst, hsp⟩
                          · have HST8 := hidM hst
                            have HSP8 := hidM hsp
                            have c4 := hst.box.c4
                            have HAL := hidM (again_len o' bk q)
                            by_cases hqn : q < nn
                            · obtain ⟨b, hb, hag⟩ := again_get o' bk q (by omega) (by omega)
                              obtain ⟨gv, cv, hv2, hcell⟩ := hst.own.cellAt hb
                              have HAG := hidM hag
                              subst hv2
                              have c2 := hst.box.c2
                              have H54 : Hid (∀ V, Hid (DrewOf wr V) → Calls Tryz.prog 150 #[.pointer (some ⟨R, 0, none⟩), .int .u8 (b.toNat : Int)] V fun e w' => e = .returned (.tuple #[]) ∧ Hid (RpI R g c T X (t4 + F) most (.slice ov o'.length oc) o' bk nn w7 (q + 1) w')) := fun V hV => by
                                refine (put_in R g c T (t4 + F) most X (again o' bk q) b _ _ HST8.out hm (by rw [HAL.out]; exact hqm) V hV).mono ?_
                                rintro e w9 ⟨he, hp⟩
                                refine ⟨he, ?_⟩
                                rcases hp.out.2 with ⟨h1, h2, h3⟩ | ⟨h1, v3, h2, h3⟩
                                · rw [HAL.out] at h1
                                  exact .inr ⟨by omega, _,_, h2, HSP8.out.trans h3⟩
                                · rw [HAL.out] at h1
                                  exact .inl ⟨v3, by rw [HAG.out]; exact h2, HSP8.out.trans h3, by omega⟩
                              have gq : (q : Int) < (nn : Int) := by omega
                              obtain ⟨zl, hzl⟩ : ∃ zl, zl = (again o' bk q).length := ⟨_, rfl⟩
                              rw [← hzl] at HAL c2 hcell
                              obtain ⟨z, hz⟩ : ∃ z, z = zl - bk := ⟨_, rfl⟩
                              have hzl9 : zl ≤ 100000 := by have := HAL.out; omega
                              have hzb : bk ≤ zl := by have := HAL.out; omega
                              have ez : (zl : Int) - (bk : Int) = (z : Int) := by omega
                              rw [← hz] at hcell
                              have hzz : (z : Int) < (zl : Int) := by omega
                              have z0 : (0 : Int) ≤ (z : Int) := Int.natCast_nonneg z
                              have wz := wrap_small z (by rw [hz]; exact Nat.le_trans (Nat.sub_le _ _) (Nat.le_trans hzl9 (by decide)))
                              have HD := DrewOf.refl wr
                              have hb256 := byte_lt b
                              have HBX : Hid (∀ V, Hid (DrewOf wr V) → V.cell? ⟨R, 2, none⟩ = some (.slice (some ⟨gv, 0, none⟩) zl cv) ∧ V.cell? ⟨gv, z, none⟩ = some (.int .u8 (b.toNat : Int))) := fun V hV => by
                                obtain ⟨m9, rfl⟩ := hV
                                exact ⟨c2, hcell⟩
                              clear hst hsp hag hb hz hzl
                              go_wp2
                              clear HRUN HSY HNU HSD HNV HL1 HL2 HT1 HT2 HT3 HT4 HFZ7 HSP7 HST8 HSP8 HBT HST7 HAG HBX
                              have HDD := DrewOf.drew HD
                              clear HD
                              refine wp_region_noPanic ?_
                              refine wp_region_any (by kernel_rfl) ?_
                              change wpAny _ _ _ _ _ _ _ (World.drew _)
                              refine wpAny_take (i := 0) (v := ?_) rfl (by kernel_rfl) (by kernel_rfl) (by kernel_rfl) (fun _ _ _ h => h) (Or.inl ⟨by kernel_rfl, ?_⟩) ?_
                              rotate_left
                              · intro w
                                go_simp
                                try with_reducible rfl
                              change wpAny _ _ _ _ _ _ (⟨#[_,_,_,_,_,_,_,_,_,_,_,_,_,_,_,_,_,_,_,_,_,_,_,_,_,_,_,_,_,_,_,_,_,_,_,_,_,_,_,_,_,_,_,_,_,_,_,_,_,_,_,_,_,_,_,_,_,_,_,_,_,_,_,_,_,_,_,_,_,_,_,_,_,_,_,_,_,_,_,_,_,_,_,_,_,_,_,_,_,_,_,_,_,_,_,_,_,_,_,_,_,_,_,_,_,_,_,_,_,_,_,_,_,_,_,_,_,_,_,_,_,_,_,_,_,_,_,_,_,_,_,_,_,_,_,_,_,_,_,_], _⟩ : Act) _
                              refine wpAny_take (i := 1) (v := ?_) rfl (by kernel_rfl) (by kernel_rfl) (by kernel_rfl) (fun _ _ _ h => h) (Or.inl ⟨by kernel_rfl, ?_⟩) ?_
                              rotate_left
                              · intro w
                                go_simp
                                try with_reducible rfl
                              change wpAny _ _ _ _ _ _ (⟨#[_,_,_,_,_,_,_,_,_,_,_,_,_,_,_,_,_,_,_,_,_,_,_,_,_,_,_,_,_,_,_,_,_,_,_,_,_,_,_,_,_,_,_,_,_,_,_,_,_,_,_,_,_,_,_,_,_,_,_,_,_,_,_,_,_,_,_,_,_,_,_,_,_,_,_,_,_,_,_,_,_,_,_,_,_,_,_,_,_,_,_,_,_,_,_,_,_,_,_,_,_,_,_,_,_,_,_,_,_,_,_,_,_,_,_,_,_,_,_,_,_,_,_,_,_,_,_,_,_,_,_,_,_,_,_,_,_,_,_,_], _⟩ : Act) _
                              refine wpAny_take (i := 2) (v := ?_) rfl (by kernel_rfl) (by kernel_rfl) (by kernel_rfl) (fun _ _ _ h => h) (Or.inl ⟨by kernel_rfl, ?_⟩) ?_
                              rotate_left
                              · intro w
                                go_simp
                                try with_reducible rfl
                              change wpAny _ _ _ _ _ _ (⟨#[_,_,_,_,_,_,_,_,_,_,_,_,_,_,_,_,_,_,_,_,_,_,_,_,_,_,_,_,_,_,_,_,_,_,_,_,_,_,_,_,_,_,_,_,_,_,_,_,_,_,_,_,_,_,_,_,_,_,_,_,_,_,_,_,_,_,_,_,_,_,_,_,_,_,_,_,_,_,_,_,_,_,_,_,_,_,_,_,_,_,_,_,_,_,_,_,_,_,_,_,_,_,_,_,_,_,_,_,_,_,_,_,_,_,_,_,_,_,_,_,_,_,_,_,_,_,_,_,_,_,_,_,_,_,_,_,_,_,_,_], _⟩ : Act) _
                              refine wpAny_take (i := 3) (v := ?_) rfl (by kernel_rfl) (by kernel_rfl) (by kernel_rfl) (fun _ _ _ h => h) (Or.inl ⟨by kernel_rfl, ?_⟩) ?_
                              rotate_left
                              · intro w
                                go_simp
                                try with_reducible rfl
                              change wpAny _ _ _ _ _ _ (⟨#[_,_,_,_,_,_,_,_,_,_,_,_,_,_,_,_,_,_,_,_,_,_,_,_,_,_,_,_,_,_,_,_,_,_,_,_,_,_,_,_,_,_,_,_,_,_,_,_,_,_,_,_,_,_,_,_,_,_,_,_,_,_,_,_,_,_,_,_,_,_,_,_,_,_,_,_,_,_,_,_,_,_,_,_,_,_,_,_,_,_,_,_,_,_,_,_,_,_,_,_,_,_,_,_,_,_,_,_,_,_,_,_,_,_,_,_,_,_,_,_,_,_,_,_,_,_,_,_,_,_,_,_,_,_,_,_,_,_,_,_], _⟩ : Act) _
                              refine wpAny_take (i := 5) (v := ?_) rfl (by kernel_rfl) (by kernel_rfl) (by kernel_rfl) (fun _ _ _ h => h) (Or.inl ⟨by kernel_rfl, ?_⟩) ?_
                              rotate_left
                              · intro w
                                go_simp
                                try with_reducible rfl
                              change wpAny _ _ _ _ _ _ (⟨#[_,_,_,_,_,_,_,_,_,_,_,_,_,_,_,_,_,_,_,_,_,_,_,_,_,_,_,_,_,_,_,_,_,_,_,_,_,_,_,_,_,_,_,_,_,_,_,_,_,_,_,_,_,_,_,_,_,_,_,_,_,_,_,_,_,_,_,_,_,_,_,_,_,_,_,_,_,_,_,_,_,_,_,_,_,_,_,_,_,_,_,_,_,_,_,_,_,_,_,_,_,_,_,_,_,_,_,_,_,_,_,_,_,_,_,_,_,_,_,_,_,_,_,_,_,_,_,_,_,_,_,_,_,_,_,_,_,_,_,_], _⟩ : Act) _
                              refine wpAny_take (i := 6) (v := ?_) rfl (by kernel_rfl) (by kernel_rfl) (by kernel_rfl) (fun _ _ _ h => h) (Or.inl ⟨by kernel_rfl, ?_⟩) ?_
                              rotate_left
                              · intro w
                                go_simp
                                try with_reducible rfl
                              change wpAny _ _ _ _ _ _ (⟨#[_,_,_,_,_,_,_,_,_,_,_,_,_,_,_,_,_,_,_,_,_,_,_,_,_,_,_,_,_,_,_,_,_,_,_,_,_,_,_,_,_,_,_,_,_,_,_,_,_,_,_,_,_,_,_,_,_,_,_,_,_,_,_,_,_,_,_,_,_,_,_,_,_,_,_,_,_,_,_,_,_,_,_,_,_,_,_,_,_,_,_,_,_,_,_,_,_,_,_,_,_,_,_,_,_,_,_,_,_,_,_,_,_,_,_,_,_,_,_,_,_,_,_,_,_,_,_,_,_,_,_,_,_,_,_,_,_,_,_,_], _⟩ : Act) _
                              refine wpAny_take (i := 7) (v := ?_) rfl (by kernel_rfl) (by kernel_rfl) (by kernel_rfl) (fun _ _ _ h => h) (Or.inl ⟨by kernel_rfl, ?_⟩) ?_
                              rotate_left
                              · intro w
                                go_simp
                                try with_reducible rfl
                              change wpAny _ _ _ _ _ _ (⟨#[_,_,_,_,_,_,_,_,_,_,_,_,_,_,_,_,_,_,_,_,_,_,_,_,_,_,_,_,_,_,_,_,_,_,_,_,_,_,_,_,_,_,_,_,_,_,_,_,_,_,_,_,_,_,_,_,_,_,_,_,_,_,_,_,_,_,_,_,_,_,_,_,_,_,_,_,_,_,_,_,_,_,_,_,_,_,_,_,_,_,_,_,_,_,_,_,_,_,_,_,_,_,_,_,_,_,_,_,_,_,_,_,_,_,_,_,_,_,_,_,_,_,_,_,_,_,_,_,_,_,_,_,_,_,_,_,_,_,_,_], _⟩ : Act) _
                              refine wpAny_take (i := 10) (v := ?_) rfl (by kernel_rfl) (by kernel_rfl) (by kernel_rfl) (fun _ _ _ h => h) (Or.inl ⟨by kernel_rfl, ?_⟩) ?_
                              rotate_left
                              · intro w
                                go_simp
                                try with_reducible rfl
                              change wpAny _ _ _ _ _ _ (⟨#[_,_,_,_,_,_,_,_,_,_,_,_,_,_,_,_,_,_,_,_,_,_,_,_,_,_,_,_,_,_,_,_,_,_,_,_,_,_,_,_,_,_,_,_,_,_,_,_,_,_,_,_,_,_,_,_,_,_,_,_,_,_,_,_,_,_,_,_,_,_,_,_,_,_,_,_,_,_,_,_,_,_,_,_,_,_,_,_,_,_,_,_,_,_,_,_,_,_,_,_,_,_,_,_,_,_,_,_,_,_,_,_,_,_,_,_,_,_,_,_,_,_,_,_,_,_,_,_,_,_,_,_,_,_,_,_,_,_,_,_], _⟩ : Act) _
                              refine wpAny_ready (rs := [4, 8]) (by kernel_rfl) (by simp) (AllReady.cons rfl (fun K hK => ?_) (AllReady.cons rfl (fun K hK => ?_) AllReady.nil))
                              · go_simp
                                refine hK _ _ ?_
                                clear hK K
                                refine wpAny_ready (rs := [8]) (by kernel_rfl) (by simp) (AllReady.cons rfl (fun K hK => ?_) AllReady.nil)
                                go_simp
                                refine hK _ _ ?_
                                clear hK K
                                refine wpAny_take (i := 9) (v := ?_) rfl (by kernel_rfl) (by kernel_rfl) (by kernel_rfl) (fun _ _ _ h => h) (Or.inl ⟨by kernel_rfl, ?_⟩) ?_
                                rotate_left
                                · intro w
                                  go_simp
                                  try with_reducible rfl
                                change wpAny _ _ _ _ _ _ (⟨#[_,_,_,_,_,_,_,_,_,_,_,_,_,_,_,_,_,_,_,_,_,_,_,_,_,_,_,_,_,_,_,_,_,_,_,_,_,_,_,_,_,_,_,_,_,_,_,_,_,_,_,_,_,_,_,_,_,_,_,_,_,_,_,_,_,_,_,_,_,_,_,_,_,_,_,_,_,_,_,_,_,_,_,_,_,_,_,_,_,_,_,_,_,_,_,_,_,_,_,_,_,_,_,_,_,_,_,_,_,_,_,_,_,_,_,_,_,_,_,_,_,_,_,_,_,_,_,_,_,_,_,_,_,_,_,_,_,_,_,_], _⟩ : Act) _
                                refine wpAny_take (i := 11) (v := ?_) rfl (by kernel_rfl) (by kernel_rfl) (by kernel_rfl) (fun _ _ _ h => h) (Or.inl ⟨by kernel_rfl, ?_⟩) ?_
                                rotate_left
                                · intro w
                                  go_simp
                                  try with_reducible rfl
                                change wpAny _ _ _ _ _ _ (⟨#[_,_,_,_,_,_,_,_,_,_,_,_,_,_,_,_,_,_,_,_,_,_,_,_,_,_,_,_,_,_,_,_,_,_,_,_,_,_,_,_,_,_,_,_,_,_,_,_,_,_,_,_,_,_,_,_,_,_,_,_,_,_,_,_,_,_,_,_,_,_,_,_,_,_,_,_,_,_,_,_,_,_,_,_,_,_,_,_,_,_,_,_,_,_,_,_,_,_,_,_,_,_,_,_,_,_,_,_,_,_,_,_,_,_,_,_,_,_,_,_,_,_,_,_,_,_,_,_,_,_,_,_,_,_,_,_,_,_,_,_], _⟩ : Act) _
                                refine wpAny_take (i := 12) (v := ?_) rfl (by kernel_rfl) (by kernel_rfl) (by kernel_rfl) (fun _ _ _ h => h) (Or.inl ⟨by kernel_rfl, ?_⟩) ?_
                                rotate_left
                                · intro w
                                  go_simp
                                  try with_reducible rfl
                                change wpAny _ _ _ _ _ _ (⟨#[_,_,_,_,_,_,_,_,_,_,_,_,_,_,_,_,_,_,_,_,_,_,_,_,_,_,_,_,_,_,_,_,_,_,_,_,_,_,_,_,_,_,_,_,_,_,_,_,_,_,_,_,_,_,_,_,_,_,_,_,_,_,_,_,_,_,_,_,_,_,_,_,_,_,_,_,_,_,_,_,_,_,_,_,_,_,_,_,_,_,_,_,_,_,_,_,_,_,_,_,_,_,_,_,_,_,_,_,_,_,_,_,_,_,_,_,_,_,_,_,_,_,_,_,_,_,_,_,_,_,_,_,_,_,_,_,_,_,_,_], _⟩ : Act) _
                                refine wpAny_ready (rs := [13]) (by kernel_rfl) (by simp) (AllReady.cons rfl (fun K hK => ?_) AllReady.nil)
                                go_simp
                                refine hK _ _ ?_
                                clear hK K
                                refine wpAny_ready (rs := [14]) (by kernel_rfl) (by simp) (AllReady.cons rfl (fun K hK => ?_) AllReady.nil)
                                go_simp
                                with_reducible refine (H54.out _ HDD).mono ?_
                                rintro _ w9 ⟨rfl, HR1⟩
                                refine hK _ _ ?_
                                clear hK K
                                refine wpAny_done (by kernel_rfl) ?_ _
                                refine NoPanic.normal ?_
                                clear H54 HDD ez hzz z0 wz hzb hzl9 hcell c2
                                go_wp2
                                go_roundw
                                case rel => exact ⟨q + 1, hqn, by go_num, HR1.out⟩
                                case measure =>
                                  simp only [intOf]
                                  clear HAL gf df hbk1 hbk9 hnn9 hy16 hx16 hA hD
                                  omega
                              · go_simp
                                refine hK _ _ ?_
                                clear hK K
                                refine wpAny_take (i := 9) (v := ?_) rfl (by kernel_rfl) (by kernel_rfl) (by kernel_rfl) (fun _ _ _ h => h) (Or.inl ⟨by kernel_rfl, ?_⟩) ?_
                                rotate_left
                                · intro w
                                  go_simp
                                  try with_reducible rfl
                                change wpAny _ _ _ _ _ _ (⟨#[_,_,_,_,_,_,_,_,_,_,_,_,_,_,_,_,_,_,_,_,_,_,_,_,_,_,_,_,_,_,_,_,_,_,_,_,_,_,_,_,_,_,_,_,_,_,_,_,_,_,_,_,_,_,_,_,_,_,_,_,_,_,_,_,_,_,_,_,_,_,_,_,_,_,_,_,_,_,_,_,_,_,_,_,_,_,_,_,_,_,_,_,_,_,_,_,_,_,_,_,_,_,_,_,_,_,_,_,_,_,_,_,_,_,_,_,_,_,_,_,_,_,_,_,_,_,_,_,_,_,_,_,_,_,_,_,_,_,_,_], _⟩ : Act) _
                                refine wpAny_take (i := 11) (v := ?_) rfl (by kernel_rfl) (by kernel_rfl) (by kernel_rfl) (fun _ _ _ h => h) (Or.inl ⟨by kernel_rfl, ?_⟩) ?_
                                rotate_left
                                · intro w
                                  go_simp
                                  try with_reducible rfl
                                change wpAny _ _ _ _ _ _ (⟨#[_,_,_,_,_,_,_,_,_,_,_,_,_,_,_,_,_,_,_,_,_,_,_,_,_,_,_,_,_,_,_,_,_,_,_,_,_,_,_,_,_,_,_,_,_,_,_,_,_,_,_,_,_,_,_,_,_,_,_,_,_,_,_,_,_,_,_,_,_,_,_,_,_,_,_,_,_,_,_,_,_,_,_,_,_,_,_,_,_,_,_,_,_,_,_,_,_,_,_,_,_,_,_,_,_,_,_,_,_,_,_,_,_,_,_,_,_,_,_,_,_,_,_,_,_,_,_,_,_,_,_,_,_,_,_,_,_,_,_,_], _⟩ : Act) _
                                refine wpAny_ready (rs := [4]) (by kernel_rfl) (by simp) (AllReady.cons rfl (fun K hK => ?_) AllReady.nil)
                                go_simp
                                refine hK _ _ ?_
                                clear hK K
                                refine wpAny_take (i := 12) (v := ?_) rfl (by kernel_rfl) (by kernel_rfl) (by kernel_rfl) (fun _ _ _ h => h) (Or.inl ⟨by kernel_rfl, ?_⟩) ?_
                                rotate_left
                                · intro w
                                  go_simp
                                  try with_reducible rfl
                                change wpAny _ _ _ _ _ _ (⟨#[_,_,_,_,_,_,_,_,_,_,_,_,_,_,_,_,_,_,_,_,_,_,_,_,_,_,_,_,_,_,_,_,_,_,_,_,_,_,_,_,_,_,_,_,_,_,_,_,_,_,_,_,_,_,_,_,_,_,_,_,_,_,_,_,_,_,_,_,_,_,_,_,_,_,_,_,_,_,_,_,_,_,_,_,_,_,_,_,_,_,_,_,_,_,_,_,_,_,_,_,_,_,_,_,_,_,_,_,_,_,_,_,_,_,_,_,_,_,_,_,_,_,_,_,_,_,_,_,_,_,_,_,_,_,_,_,_,_,_,_], _⟩ : Act) _
                                refine wpAny_ready (rs := [13]) (by kernel_rfl) (by simp) (AllReady.cons rfl (fun K hK => ?_) AllReady.nil)
                                go_simp
                                refine hK _ _ ?_
                                clear hK K
                                refine wpAny_ready (rs := [14]) (by kernel_rfl) (by simp) (AllReady.cons rfl (fun K hK => ?_) AllReady.nil)
                                go_simp
                                with_reducible refine (H54.out _ HDD).mono ?_
                                rintro _ w9 ⟨rfl, HR1⟩
                                refine hK _ _ ?_
                                clear hK K
                                refine wpAny_done (by kernel_rfl) ?_ _
                                refine NoPanic.normal ?_
                                clear H54 HDD ez hzz z0 wz hzb hzl9 hcell c2
                                go_wp2
                                go_roundw
                                case rel => exact ⟨q + 1, hqn, by go_num, HR1.out⟩
                                case measure =>
                                  simp only [intOf]
                                  clear HAL gf df hbk1 hbk9 hnn9 hy16 hx16 hA hD
                                  omega
                            · have hqn' : q = nn := by omega
                              have gq : ¬ (q : Int) < (nn : Int) := by omega
                              have HI : Hid (PkI cl cd R g c T X t most v o w B w3 wr) := by
                                subst hqn'
                                refine .inl ⟨t4 + F, v2, again o' bk q, fun last r h => HRUN.out last r (.syRep last cl cd t' o' s t2 (t4 + F) _ r HSY.out (by omega) ?_ h), by omega, by omega, by rw [HAL.out]; exact hqm, HST8.out, HSP7.out.trans HSP8.out, HFZ7.out.stp HSP8.out hRB⟩
                                have h9 := Rep.good (X := X) (most := most) (cd := cd) (t := t2) (s := s) (o := o') x k t4 y (by omega) (by rw [← HKE.out]; exact HNU.out) (by rw [← HKE.out]; exact HSD.out) (by omega) (by rw [← HFE.out]; exact HNV.out) (by rw [← HDE.out, ← HBK.out]; omega) (by rw [← HAE.out, ← HNN.out]; exact hqm)
                                rw [← HFE.out, ← HDE.out, ← HBK.out, ← HAE.out, ← HNN.out] at h9
                                exact h9
                              have HB8 : Hid (bitX R wr = t4 + F) := HST8.out.bit
                              clear hst hsp
                              go_wp2
                              go_roundw
                              case rel => exact HI.out
                              case measure => rw [HB8.out, HBT.out]; omega
                          · have c4 : wr.cell? ⟨R, 4, none⟩ = some (.int .i64 2) := hst.box.c4
                            have HI : Hid (PkI cl cd R g c T X t most v o w B w3 wr) := .inr ⟨2, v2, o2, t4 + F, by decide, fun last => HRUN.out last _ (.syRBad last cl cd t' o' s t2 2 HSY.out (by omega) (.big x k t4 y (by omega) (by rw [← HKE.out]; exact HNU.out) (by rw [← HKE.out]; exact HSD.out) (by omega) (by rw [← HFE.out]; exact HNV.out) (by rw [← HDE.out, ← HBK.out]; omega) (by rw [← HAE.out, ← HNN.out]; exact hbig))), hst, HSP7.out.trans hsp⟩
                            have HB8 : Hid (bitX R wr = t4 + F) := hst.bit
                            clear hst hsp
                            by_cases gq : (q : Int) < (nn : Int)
                            · go_wp2
                              go_roundw
                              case rel => exact HI.out
                              case measure => rw [HB8.out, HBT.out]; omega
                            · go_wp2
                              go_roundw
                              case rel => exact HI.out
                              case measure => rw [HB8.out, HBT.out]; omega
                    · as_aux_lemma =>
                      have HI : Hid (PkI cl cd R g c T X t most v o w B w3 w7) := .inr ⟨6, v', o', t4, by decide, fun last => HRUN.out last _ (.syRBad last cl cd t' o' s t2 6 HSY.out (by omega) (.dist6 x k t4 (by omega) (by rw [← HKE.out]; exact HNU.out) (by rw [← HKE.out]; exact HSD.out) (by omega) (by rw [← HFE.out]; exact hnum))), hst, HSP7.out⟩
                      have HB8 : Hid (bitX R w7 = t4) := hst.bit
                      have c4 : w7.cell? ⟨R, 4, none⟩ = some (.int .i64 6) := hst.box.c4
                      clear hst hnum HNR
                      go_wp2
                      go_loopw [16] (fun i wr' => i = .int .i64 0 ∧ wr' = w7) (fun _ _ => 0)
                      case atStart => exact ⟨rfl, rfl⟩
                      case round =>
                        obtain ⟨rfl, rfl⟩ := hrel
                        have hn0 : (0 : Int) < (nn : Int) := by omega
                        go_wp2
                        go_roundw
                        case rel => exact HI.out
                        case measure => rw [HB8.out, HBT.out]; omega
                · as_aux_lemma =>
                  have HEND : Hid (PackX cl cd R g c T X t most v o w w6) := .inl ⟨r, v', o', t2 + K, by omega, fun last => HRUN.out last _ (.syRBad last cl cd t' o' s t2 r HSY.out (by omega) (.dist x r (by omega) (by rw [← HKE.out]; exact HNU.out) (by rw [← HKE.out]; exact hsym))), hst, HSP6.out⟩
                  have c4 := hst.box.c4
                  have e0 : ((r : Int) == 0) = false := by simp; omega
                  clear hst hsym
                  go_wp2
                  (try simp only [Exit.inBlock, Exit.then])
                  refine bodyPost_ret (results_none rfl _ _ _) rfl ⟨rfl, HEND.out⟩
              · as_aux_lemma =>
                have HEND : Hid (PackX cl cd R g c T X t most v o w w5) := .inl ⟨6, v', o', t2, by decide, fun last => HRUN.out last _ (.syRBad last cl cd t' o' s t2 6 HSY.out (by omega) (.len6 (by omega) (by rw [← HKE.out]; exact hnum))), hst, HSP5.out⟩
                have HF := hidM (rsym_err R g c T t2 most 6 X o' v' (.slice b2 cd.L d2) w5 hst (by decide))
                have c4 : w5.cell? ⟨R, 4, none⟩ = some (.int .i64 6) := hst.box.c4
                clear hst hnum HNR
                go_wp2_with fail
                refine HF.out.mono ?_
                rintro _ w0 ⟨rfl, h0⟩
                rw [h0]
                clear h0 w0
                go_wp2
                (try simp only [Exit.inBlock, Exit.then])
                refine bodyPost_ret (results_none rfl _ _ _) rfl ⟨rfl, HEND.out⟩
      · as_aux_lemma =>
        have HEND : Hid (PackX cl cd R g c T X t most v o w w4) := .inl ⟨r, v', o', t', by omega, fun last => HRUN.out last _ (.syBad last cl cd t' o' r hsym), hst, HSP4.out⟩
        have c4 := hst.box.c4
        have e0 : ((r : Int) == 0) = false := by simp; omega
        clear hst hsym
        go_wp2
        (try simp only [Exit.inBlock, Exit.then])
        refine bodyPost_ret (results_none rfl _ _ _) rfl ⟨rfl, HEND.out⟩
    · have HEND : Hid (PackX cl cd R g c T X t most v o w wr) := .inl ⟨e, v', o', t', he, hrun, hst, hsp⟩
      have c4 := hst.box.c4
      have e0 : ((e : Int) == 0) = false := by simp; omega
      clear hrun hst hsp
      go_wp2
      exact bodyPost_end (results_none rfl _ _ _) rfl ⟨rfl, HEND.out⟩
end Go.Proofs.YtddoemeellbhaaaGreatDoor
