/-
  Walks of the document's Inflate: Inflate, over what its dynamic block answers (a premise here).
-/
import Derived.Test.YtddoemeellbhaaaGreatDoorJRinM
namespace Go.Proofs.YtddoemeellbhaaaGreatDoor
open Go.RowKit
theorem stx_new {w w1 : World} {X : ByteArray} {v : Value} {M : Nat} (hO : OwnSI w1 w.heap.size v (bitsL X.data.toList)) :
    ∃ g c, v = .slice (some ⟨g, 0, none⟩) (8 * X.size) c ∧ StX (w1.alloc (.cells #[.slice (some ⟨g, 0, none⟩) (8 * X.size) c, .int .i64 0, .slice none 0 0, .int .i64 (M : Int), .int .i64 0] 118)) w1.heap.size g c (8 * X.size) X.data.toList 0 M 0 (.slice none 0 0) [] := by
  obtain ⟨h1, g, c, hv⟩ := hO
  have hl : (bitsL X.data.toList).length = 8 * X.size := by rw [bitsL_len, Array.length_toList]; rfl
  rw [hl] at hv
  subst hv
  have hb : BAt w1 (some ⟨g, 0, none⟩) (bitsL X.data.toList) := by
    obtain ⟨a, cp, he, h2⟩ := h1.bat
    simp only [Value.slice.injEq] at he
    rw [he.1]
    exact h2
  have hgc : g < w1.heap.size ∧ 8 * X.size ≤ c := by
    rcases h1.2 with ⟨h0, _⟩ | ⟨g', cap, cur, hv, hg, hc, hn, _⟩
    · simp at h0
    · simp only [Value.slice.injEq, Option.some.injEq, Addr.mk.injEq, and_true] at hv
      obtain ⟨h3, _, h4⟩ := hv
      subst h3 h4
      exact ⟨(Array.getElem?_eq_some_iff.1 hc).1, by rw [hl] at hn; exact hn⟩
  refine ⟨g, c, rfl, heap_alloc_new w1 _, hb.block (Below.heap_alloc w1 _ g hgc.1), hgc.1, (total_size X).symm, hgc.2, ⟨rfl, .inl ⟨rfl, rfl⟩⟩⟩
set_option maxHeartbeats 8000000 in
set_option maxRecDepth 100000 in
theorem rinflate_of (HDYN : Hid DynSpec) (s : ByteArray) (a m : Int) (w : World) (hs : s.size ≤ 100000) :
    Calls Tryz.prog 57 #[.string s, .int .i64 a, .int .i64 m] w fun e w' => InfPost s a m e ∧ Below w.heap.size w w' := by
  have hlen : s.data.toList.length = s.size := Array.length_toList
  have HLEN := hidM hlen
  clear hlen
  by_cases hbad : a < 0 ∨ (s.size : Int) < a ∨ m < 0 ∨ 65536 < m
  · have HQ : Hid (InfQ s.data.toList a m ([], 0, 1)) := .inl ⟨by rw [HLEN.out]; exact hbad, rfl⟩
    go_enter Tryz.func57, Tryz.ntmps57
    by_cases h1 : a < 0
    · go_wp2
      go_ret3
      exact ⟨⟨_, HQ.out, rfl⟩, Below.refl _ _⟩
    · by_cases h2 : (s.size : Int) < a
      · go_wp2
        go_ret3
        exact ⟨⟨_, HQ.out, rfl⟩, Below.refl _ _⟩
      · by_cases h3 : m < 0
        · go_wp2
          go_ret3
          exact ⟨⟨_, HQ.out, rfl⟩, Below.refl _ _⟩
        · have h4 : 65536 < m := by omega
          go_wp2
          go_ret3
          exact ⟨⟨_, HQ.out, rfl⟩, Below.refl _ _⟩
  · obtain ⟨A, rfl⟩ : ∃ A : Nat, a = A := ⟨a.toNat, by omega⟩
    obtain ⟨M, rfl⟩ : ∃ M : Nat, m = M := ⟨m.toNat, by omega⟩
    have h1 : A ≤ s.size := by omega
    have h2 : M ≤ 65536 := by omega
    have g1 : ¬ (A : Int) < 0 := by omega
    have g2 : ¬ (s.size : Int) < (A : Int) := by omega
    have g3 : ¬ (M : Int) < 0 := by omega
    have g4 : ¬ (65536 : Int) < (M : Int) := by omega
    have g5 : (A : Int) ≤ (s.size : Int) := by omega
    clear hbad
    have hXs : (s.extract A s.size).size = s.size - A := by rw [ByteArray.size_extract]; omega
    have HXL := hidM (drop_extract s A)
    have HBIT := hidM (rbits_any (s.extract A s.size) w (by omega))
    go_enter Tryz.func57, Tryz.ntmps57
    go_wp2_with fail
    with_reducible refine HBIT.out.mono ?_
    rintro _ w1 ⟨⟨v, rfl, hO⟩, hB1⟩
    generalize s.extract A s.size = X at *
    have hX9 : X.size ≤ 100000 := by omega
    obtain ⟨g, c, rfl, hS0⟩ := stx_new (M := M) hO
    have HS0 := hidM hS0
    have HB1 := hidM hB1
    clear hO hS0 hB1 HBIT
    obtain ⟨T, hT⟩ : ∃ T, T = 8 * X.size := ⟨_, rfl⟩
    rw [← hT] at HS0
    rw [← hT]
    have hT9 : T ≤ 1000000 := by omega
    have HB2 : Hid (Below w.heap.size w (w1.alloc (.cells #[.slice (some ⟨g, 0, none⟩) T c, .int .i64 0, .slice none 0 0, .int .i64 (M : Int), .int .i64 0] 118))) := HB1.out.alloc HB1.out.size _
    have hRw := HB1.out.size
    have HTX := hidM hT
    clear hT
    go_wp2_with fail
    obtain ⟨R, hR⟩ : ∃ R, R = w1.heap.size := ⟨_, rfl⟩
    rw [← hR] at HS0 hRw
    rw [← hR]
    generalize w1.alloc (.cells #[.slice (some ⟨g, 0, none⟩) T c, .int .i64 0, .slice none 0 0, .int .i64 (M : Int), .int .i64 0] 118) = w2 at *
    clear hR HB1
    have HI0 : Hid (BlI R g c T X.data.toList M w2 w2) := .inl ⟨0, _, [], fun _ h => h, Nat.zero_le _, Nat.zero_le _, HS0.out, Below.refl _ _⟩
    clear HS0
    go_loopw [10, 11, 12, 13, 14, 15] (fun _ _ _ _ _ _ wr => BlI R g c T X.data.toList M w2 wr) (fun _ _ _ _ _ _ wr => leftX R T wr)
    case atStart => exact HI0.out
    case round =>
      clear HI0
      rcases hrel with ⟨t, v, o, hrun, htT, hol, hst, hb⟩ | ⟨e, t, v, o, he, hrun, hst, hb⟩
      · have HRUN := hidM hrun
        have HST := hidM hst
        have HBB := hidM hb
        have HLX : Hid (leftX R T wr = 1 + (T - t)) := by unfold Hid leftX; rw [hst.err, hst.bit, if_pos rfl]
        have HTT : Hid (T = total X.data.toList) := hst.tot
        have c0 := hst.box.c0
        have c1 := hst.box.c1
        have c4 := hst.box.c4
        clear hrun hst hb
        obtain ⟨dl, hdl⟩ : ∃ dl, dl = T - t := ⟨_, rfl⟩
        have e1 : (T : Int) - (t : Int) = (dl : Int) := by omega
        by_cases h3 : dl < 3
        · as_aux_lemma =>
          have k1 : (dl : Int) < 3 := by omega
          have HN3 : Hid (num X.data.toList t 3 = none) := by unfold Hid num; rw [← HTT.out, if_neg (by omega)]
          have HF := hidM (fun m => rfail_any R g c T t M 6 X.data.toList o v (wr.drewN m) (HST.out.drewN m))
          have HSE := hidM (fun m => (HST.out.drewN m).setE 6)
          clear hdl
          go_wp2
          go_quiet (fail)
          go_wp2_with fail
          refine (HF.out _).mono ?_
          rintro _ _ ⟨rfl, rfl⟩
          have HS3 := hidM (HSE.out nq).1
          have HO3 : Hid (Below R wr ((wr.drewN nq).setCell ⟨R, 4, none⟩ (.int .i64 ((6 : Nat) : Int)))) := (((Only.refl R wr).drewN nq).trans (HSE.out nq).2).stp (v := v) |>.below
          clear HF HSE c0 c1 c4
          generalize (wr.drewN nq).setCell ⟨R, 4, none⟩ (.int .i64 ((6 : Nat) : Int)) = w3 at *
          have c4 : w3.cell? ⟨R, 4, none⟩ = some (.int .i64 6) := HS3.out.box.c4
          have HE1 := hidM (fun n => rnum_err R g c T t M 6 n X.data.toList o v w3 HS3.out (by decide))
          have HI : Hid (BlI R g c T X.data.toList M w2 w3) := .inr ⟨6, t, v, o, by decide, HRUN.out _ (.head6 t o HN3.out), HS3.out, HBB.out.trans HO3.out⟩
          have HL3 : Hid (leftX R T w3 = 0) := by unfold Hid leftX; rw [HS3.out.err, if_neg (by decide)]
          clear HS3 HO3
          go_wp2_with fail
          refine (HE1.out 1).mono ?_
          rintro _ w0 ⟨rfl, h0⟩
          rw [h0]
          clear h0 w0
          go_wp2_with fail
          refine (HE1.out 2).mono ?_
          rintro _ w0 ⟨rfl, h0⟩
          rw [h0]
          clear h0 w0
          go_wp2
          go_roundw
          case rel => exact HI.out
          case measure => rw [HL3.out, HLX.out]; omega
        · have k1 : ¬ (dl : Int) < 3 := by omega
          have ht3 : t + 3 ≤ T := by omega
          have HN3 : Hid (num X.data.toList t 3 = some (bitsN X.data.toList t 3)) := by unfold Hid num; rw [← HTT.out, if_pos (by omega)]
          have hbo := bits_one X.data.toList t
          have hb3 := bitsN_lt X.data.toList t 3
          generalize bitsN X.data.toList t 3 = v3 at *
          clear hdl
          go_wp2
          go_quiet (fail)
          have HS1 := hidM (HST.out.drewN nq)
          have HB1 : Hid (Below R w2 (wr.drewN nq)) := HBB.out.trans (below_drewN (Below.refl _ _) _)
          clear HST HBB c0 c1 c4
          generalize wr.drewN nq = w3 at *
          go_wp2_with fail
          refine (rnum_any R g c T t M 1 X.data.toList o v w3 HS1.out hT9 htT (by decide)).mono ?_
          rintro _ w4 ⟨hp, ho⟩
          have HB4 := hidM (HB1.out.trans (ho.stp (v := v)).below)
          clear ho HS1 HB1
          rcases hp with ⟨x1, hn1, hl1, hq1, rfl, hst⟩ | ⟨hn1, _,_⟩
          rotate_left
          · exact absurd (num_nothing hn1) (by have := HTT.out; omega)
          have hx1v : x1 = v3 % 2 := by rw [(num_some hn1).1]; exact hbo.1
          have hx1 : x1 = 0 ∨ x1 = 1 := by omega
          have HX1 := hidM hx1v
          have HS4 := hidM hst
          clear hst hn1 hl1 hx1v
          go_wp2_with fail
          refine (rnum_any R g c T (t + 1) M 2 X.data.toList o v w4 HS4.out hT9 hq1 (by decide)).mono ?_
          rintro _ w5 ⟨hp, ho⟩
          have HB5 := hidM (HB4.out.trans (ho.stp (v := v)).below)
          clear ho HS4 HB4
          rcases hp with ⟨x2, hn2, hl2, hq2, rfl, hst⟩ | ⟨hn2, _,_⟩
          rotate_left
          · exact absurd (num_nothing hn2) (by have := HTT.out; omega)
          have hx2v : x2 = v3 / 2 := by rw [(num_some hn2).1]; exact hbo.2
          have HS5 : Hid (StX w5 R g c T X.data.toList (t + 3) M 0 v o) := hst
          have c4 := hst.box.c4
          have HX2 := hidM hx2v
          have hx24 : x2 = 0 ∨ x2 = 1 ∨ x2 = 2 ∨ x2 = 3 := by omega
          clear hst hn2 hl2 hx2v hbo hb3 hq1 hq2
          rcases hx24 with h | h | h | h
          · as_aux_lemma =>
            subst h
            have HLAST : Hid ((v3 % 2 == 1) = (x1 == 1)) := by unfold Hid; rw [HX1.out]
            go_wp2_with fail
            refine (rstor_any R g c T (t + 3) M X.data.toList o v w5 HS5.out hT9 ht3 h2 hol).mono ?_
            rintro _ w6 ⟨rfl, hp⟩
            unfold StoX at hp
            generalize hr : storedR X.data.toList M (t + 3) o = r at hp
            have HR := hidM hr
            clear hr HS5 c4
            cases r with
            | bad e5 =>
              obtain ⟨he5, v5, o5, t5, h3s, h4s⟩ := hp
              have HS5 := hidM h3s
              have HBAD : Hid (Run X.data.toList M (.blk false) 0 [] (.bad e5)) := HRUN.out _ (.stBad t o v3 e5 HN3.out (by rw [← HX2.out]) HR.out)
              have HB6 := hidM (HB5.out.trans h4s.below)
              clear h3s h4s HB5
              have HB5 := HB6
              have c4 := HS5.out.box.c4
              have e0 : ((e5 : Int) == 0) = false := by simp; omega
              have HI : Hid (BlI R g c T X.data.toList M w2 w6) := .inr ⟨e5, t5, v5, o5, he5, HBAD.out, HS5.out, HB5.out⟩
              have HL5 : Hid (leftX R T w6 = 0) := by unfold Hid leftX; rw [HS5.out.err, if_neg he5]
              clear HS5 HB5 HBAD
              go_wp2
              go_roundw
              case rel => exact HI.out
              case measure => rw [HL5.out, HLX.out]; omega
            | good t5 o5 =>
              obtain ⟨v5, h3s, h4s, ht5T, ho5⟩ := hp
              have HS5 := hidM h3s
              have HB6 := hidM (HB5.out.trans h4s.below)
              have HNX : Hid (∀ r, Run X.data.toList M (.blk (x1 == 1)) t5 o5 r → Run X.data.toList M (.blk false) 0 [] r) := fun r h => HRUN.out r (.st t o v3 t5 o5 r HN3.out (by rw [← HX2.out]) HR.out (by rw [HLAST.out]; exact h))
              have htt : t < t5 := by
                have h9 := HR.out
                unfold storedR at h9
                simp only at h9
                split at h9
                · cases h9
                · split at h9
                  · cases h9
                  · split at h9
                    · cases h9
                    · split at h9
                      · cases h9
                      · cases h9; omega
              clear h3s h4s HB5
              have HB5 := HB6
              have c4 := HS5.out.box.c4
              have c2 := HS5.out.box.c2
              have c1 := HS5.out.box.c1
              have HL5 : Hid (leftX R T w6 = 1 + (T - t5)) := by unfold Hid leftX; rw [HS5.out.err, HS5.out.bit, if_pos rfl]
              rcases hx1 with h01 | h01
              · subst h01
                have HI : Hid (BlI R g c T X.data.toList M w2 w6) := .inl ⟨t5, v5, o5, HNX.out, ht5T, ho5, HS5.out, HB5.out⟩
                go_wp2
                go_roundw
                case rel => exact HI.out
                case measure => rw [HL5.out, HLX.out]; omega
              · subst h01
                have HQ : Hid (InfQ s.data.toList (A : Int) (M : Int) (o5, (t5 + 7) / 8, 0)) := .inr ⟨A, M, rfl, rfl, by rw [HLEN.out]; exact h1, h2, .inr ⟨t5, o5, by rw [← HXL.out]; exact HNX.out _ (.fin t5 o5), by rw [HLEN.out, ← hXs]; have := HTX.out; omega, ho5, rfl⟩⟩
                have hcv : ∀ k, (convert 81 9 v5).run Tryz.prog (w6.drewN k) = .ok (.string ⟨o5.toArray⟩) (w6.drewN k) := fun k => conv_own (w := w6.drewN k) HS5.out.own
                have H39 := hidM (fun k => up_any t5 (w6.drewN k) (by omega))
                obtain ⟨U, hU⟩ : ∃ U, U = (t5 + 7) / 8 := ⟨_, rfl⟩
                rw [← hU] at HQ H39
                obtain ⟨U8, hU8⟩ : ∃ U8, U8 = 8 * U := ⟨_, rfl⟩
                rw [← hU8] at H39
                have eU : (U8 : Int) / 8 = (U : Int) := by omega
                have hU9 : U8 ≤ 2000000 := by omega
                obtain ⟨O, hO⟩ : ∃ O : ByteArray, O = ⟨o5.toArray⟩ := ⟨_, rfl⟩
                rw [← hO] at hcv
                have HO := hidM hO
                have HBF : Hid (Below w.heap.size w w6) := HB2.out.trans (HB5.out.mono hRw)
                clear hU hU8 hO HNX HS5 HB5
                go_wp2
                go_quiet ((go_at_call 108; with_reducible exact Calls.quiet_of_same (H39.out _)))
                go_wp2
                go_ret3
                exact ⟨⟨_, HQ.out, by rw [HO.out]; rfl⟩, HBF.out.trans (below_drewN (Below.refl _ _) _)⟩
          · as_aux_lemma =>
            subst h
            have HLAST : Hid ((v3 % 2 == 1) = (x1 == 1)) := by unfold Hid; rw [HX1.out]
            go_wp2_with fail
            refine (rfixed_any w5).mono ?_
            rintro _ w6 ⟨⟨u1, u2, rfl, hu1, hu2⟩, hb6⟩
            obtain ⟨a1, k1', rfl, hI1⟩ := hu1.ints (fun i => by have := fixLit_ok.short i; omega) (by decide)
            obtain ⟨a2, k2', rfl, hI2⟩ := hu2.ints (fun i => by have := fixDist_ok.short i; omega) (by decide)
            have HS6 := hidM (HS5.out.later hb6)
            have HB6 := hidM (HB5.out.trans (hb6.mono (Nat.le_of_lt HS5.out.box.lt)))
            have HI1 := hidM hI1
            have HI2 := hidM hI2
            clear hI1 hI2 hu1 hu2 hb6 HS5 HB5 c4
            go_wp2_with fail
            refine (rpack_any R g c T (t + 3) M X.data.toList o v w6 fixLit fixDist a1 a2 k1' k2' HS6.out Cd.good_fixL Cd.good_fixD HI1.out HI2.out hT9 ht3 h2 hol).mono ?_
            rintro _ w7 ⟨rfl, hp⟩
            have hq := hp.next (last := (x1 == 1)) (t0 := t) (o0 := o) (fun r h => .fx t o v3 r HN3.out (by rw [← HX2.out]) (by rw [HLAST.out]; exact h)) rfl (by omega)
            clear hp HS6 HI1 HI2
            rcases hq with ⟨e5, t5, v5, o5, he5, h3s, h4s, h5s⟩ | ⟨t5, v5, o5, h3s, htt, ht5T, ho5, h4s, h5s⟩
            · have HS5 := hidM h4s
              have HBAD : Hid (Run X.data.toList M (.blk false) 0 [] (.bad e5)) := HRUN.out _ h3s
              have HB5 := hidM (HB6.out.trans h5s)
              clear h3s h4s h5s HB6
              have c4 := HS5.out.box.c4
              have e0 : ((e5 : Int) == 0) = false := by simp; omega
              have HI : Hid (BlI R g c T X.data.toList M w2 w7) := .inr ⟨e5, t5, v5, o5, he5, HBAD.out, HS5.out, HB5.out⟩
              have HL5 : Hid (leftX R T w7 = 0) := by unfold Hid leftX; rw [HS5.out.err, if_neg he5]
              clear HS5 HB5 HBAD
              go_wp2
              go_roundw
              case rel => exact HI.out
              case measure => rw [HL5.out, HLX.out]; omega
            · have HS5 := hidM h4s
              have HNX : Hid (∀ r, Run X.data.toList M (.blk (x1 == 1)) t5 o5 r → Run X.data.toList M (.blk false) 0 [] r) := fun r h => HRUN.out r (h3s r h)
              have HB5 := hidM (HB6.out.trans h5s)
              clear h3s h4s h5s HB6
              have c4 := HS5.out.box.c4
              have c2 := HS5.out.box.c2
              have c1 := HS5.out.box.c1
              have HL5 : Hid (leftX R T w7 = 1 + (T - t5)) := by unfold Hid leftX; rw [HS5.out.err, HS5.out.bit, if_pos rfl]
              rcases hx1 with h01 | h01
              · subst h01
                have HI : Hid (BlI R g c T X.data.toList M w2 w7) := .inl ⟨t5, v5, o5, HNX.out, ht5T, ho5, HS5.out, HB5.out⟩
                go_wp2
                go_roundw
                case rel => exact HI.out
                case measure => rw [HL5.out, HLX.out]; omega
              · subst h01
                have HQ : Hid (InfQ s.data.toList (A : Int) (M : Int) (o5, (t5 + 7) / 8, 0)) := .inr ⟨A, M, rfl, rfl, by rw [HLEN.out]; exact h1, h2, .inr ⟨t5, o5, by rw [← HXL.out]; exact HNX.out _ (.fin t5 o5), by rw [HLEN.out, ← hXs]; have := HTX.out; omega, ho5, rfl⟩⟩
                have hcv : ∀ k, (convert 81 9 v5).run Tryz.prog (w7.drewN k) = .ok (.string ⟨o5.toArray⟩) (w7.drewN k) := fun k => conv_own (w := w7.drewN k) HS5.out.own
                have H39 := hidM (fun k => up_any t5 (w7.drewN k) (by omega))
                obtain ⟨U, hU⟩ : ∃ U, U = (t5 + 7) / 8 := ⟨_, rfl⟩
                rw [← hU] at HQ H39
                obtain ⟨U8, hU8⟩ : ∃ U8, U8 = 8 * U := ⟨_, rfl⟩
                rw [← hU8] at H39
                have eU : (U8 : Int) / 8 = (U : Int) := by omega
                have hU9 : U8 ≤ 2000000 := by omega
                obtain ⟨O, hO⟩ : ∃ O : ByteArray, O = ⟨o5.toArray⟩ := ⟨_, rfl⟩
                rw [← hO] at hcv
                have HO := hidM hO
                have HBF : Hid (Below w.heap.size w w7) := HB2.out.trans (HB5.out.mono hRw)
                clear hU hU8 hO HNX HS5 HB5
                go_wp2
                go_quiet ((go_at_call 108; with_reducible exact Calls.quiet_of_same (H39.out _)))
                go_wp2
                go_ret3
                exact ⟨⟨_, HQ.out, by rw [HO.out]; rfl⟩, HBF.out.trans (below_drewN (Below.refl _ _) _)⟩
          · as_aux_lemma =>
            subst h
            have HLAST : Hid ((v3 % 2 == 1) = (x1 == 1)) := by unfold Hid; rw [HX1.out]
            go_wp2_with fail
            refine (HDYN.out R g c T (t + 3) M X.data.toList o v w5 HS5.out hT9 ht3).mono ?_
            rintro _ w6 hp
            clear c4
            rcases hp with ⟨e5, t5, u1, u2, he5, hd, rfl, hst, hsp⟩ | ⟨cl, cd, t6, a1, a2, k1', k2', hd, hg1, hg2, rfl, hI1, hI2, hst, hsp, ht36, ht6T⟩
            · have HBAD : Hid (Run X.data.toList M (.blk false) 0 [] (.bad e5)) := HRUN.out _ (.dyBad t o v3 e5 HN3.out (by rw [← HX2.out]) hd)
              have HB6 := hidM (HB5.out.trans hsp.below)
              clear HS5 HB5
              have HS5 := hidM hst
              have HB5 := HB6
              obtain ⟨v5, hv5⟩ : ∃ v5, v5 = v := ⟨_, rfl⟩
              obtain ⟨o5, ho5⟩ : ∃ o5, o5 = o := ⟨_, rfl⟩
              rw [← hv5, ← ho5] at HS5
              clear hst hsp hd hv5 ho5
              have c4 := HS5.out.box.c4
              have e0 : ((e5 : Int) == 0) = false := by simp; omega
              have HI : Hid (BlI R g c T X.data.toList M w2 w6) := .inr ⟨e5, t5, v5, o5, he5, HBAD.out, HS5.out, HB5.out⟩
              have HL5 : Hid (leftX R T w6 = 0) := by unfold Hid leftX; rw [HS5.out.err, if_neg he5]
              clear HS5 HB5 HBAD
              go_wp2
              go_roundw
              case rel => exact HI.out
              case measure => rw [HL5.out, HLX.out]; omega
            · have HS6 := hidM hst
              have HB6 := hidM (HB5.out.trans hsp.below)
              have HI1 := hidM hI1
              have HI2 := hidM hI2
              have HDD := hidM hd
              clear hst hsp hI1 hI2 hd HS5 HB5
              have c4 := HS6.out.box.c4
              go_wp2_with fail
              refine (rpack_any R g c T t6 M X.data.toList o v w6 cl cd a1 a2 k1' k2' HS6.out hg1 hg2 HI1.out HI2.out hT9 ht6T h2 hol).mono ?_
              rintro _ w7 ⟨rfl, hp⟩
              have hq := hp.next (last := (x1 == 1)) (t0 := t) (o0 := o) (fun r h => .dy t o v3 cl cd t6 r HN3.out (by rw [← HX2.out]) HDD.out (by rw [HLAST.out]; exact h)) rfl (by omega)
              clear hp HS6 HI1 HI2 HDD c4
              rcases hq with ⟨e5, t5, v5, o5, he5, h3s, h4s, h5s⟩ | ⟨t5, v5, o5, h3s, htt, ht5T, ho5, h4s, h5s⟩
              · have HS5 := hidM h4s
                have HBAD : Hid (Run X.data.toList M (.blk false) 0 [] (.bad e5)) := HRUN.out _ h3s
                have HB5 := hidM (HB6.out.trans h5s)
                clear h3s h4s h5s HB6
                have c4 := HS5.out.box.c4
                have e0 : ((e5 : Int) == 0) = false := by simp; omega
                have HI : Hid (BlI R g c T X.data.toList M w2 w7) := .inr ⟨e5, t5, v5, o5, he5, HBAD.out, HS5.out, HB5.out⟩
                have HL5 : Hid (leftX R T w7 = 0) := by unfold Hid leftX; rw [HS5.out.err, if_neg he5]
                clear HS5 HB5 HBAD
                go_wp2
                go_roundw
                case rel => exact HI.out
                case measure => rw [HL5.out, HLX.out]; omega
              · have HS5 := hidM h4s
                have HNX : Hid (∀ r, Run X.data.toList M (.blk (x1 == 1)) t5 o5 r → Run X.data.toList M (.blk false) 0 [] r) := fun r h => HRUN.out r (h3s r h)
                have HB5 := hidM (HB6.out.trans h5s)
                clear h3s h4s h5s HB6
                have c4 := HS5.out.box.c4
                have c2 := HS5.out.box.c2
                have c1 := HS5.out.box.c1
                have HL5 : Hid (leftX R T w7 = 1 + (T - t5)) := by unfold Hid leftX; rw [HS5.out.err, HS5.out.bit, if_pos rfl]
                rcases hx1 with h01 | h01
                · subst h01
                  have HI : Hid (BlI R g c T X.data.toList M w2 w7) := .inl ⟨t5, v5, o5, HNX.out, ht5T, ho5, HS5.out, HB5.out⟩
                  go_wp2
                  go_roundw
                  case rel => exact HI.out
                  case measure => rw [HL5.out, HLX.out]; omega
                · subst h01
                  have HQ : Hid (InfQ s.data.toList (A : Int) (M : Int) (o5, (t5 + 7) / 8, 0)) := .inr ⟨A, M, rfl, rfl, by rw [HLEN.out]; exact h1, h2, .inr ⟨t5, o5, by rw [← HXL.out]; exact HNX.out _ (.fin t5 o5), by rw [HLEN.out, ← hXs]; have := HTX.out; omega, ho5, rfl⟩⟩
                  have hcv : ∀ k, (convert 81 9 v5).run Tryz.prog (w7.drewN k) = .ok (.string ⟨o5.toArray⟩) (w7.drewN k) := fun k => conv_own (w := w7.drewN k) HS5.out.own
                  have H39 := hidM (fun k => up_any t5 (w7.drewN k) (by omega))
                  obtain ⟨U, hU⟩ : ∃ U, U = (t5 + 7) / 8 := ⟨_, rfl⟩
                  rw [← hU] at HQ H39
                  obtain ⟨U8, hU8⟩ : ∃ U8, U8 = 8 * U := ⟨_, rfl⟩
                  rw [← hU8] at H39
                  have eU : (U8 : Int) / 8 = (U : Int) := by omega
                  have hU9 : U8 ≤ 2000000 := by omega
                  obtain ⟨O, hO⟩ : ∃ O : ByteArray, O = ⟨o5.toArray⟩ := ⟨_, rfl⟩
                  rw [← hO] at hcv
                  have HO := hidM hO
                  have HBF : Hid (Below w.heap.size w w7) := HB2.out.trans (HB5.out.mono hRw)
                  clear hU hU8 hO HNX HS5 HB5
                  go_wp2
                  go_quiet ((go_at_call 108; with_reducible exact Calls.quiet_of_same (H39.out _)))
                  go_wp2
                  go_ret3
                  exact ⟨⟨_, HQ.out, by rw [HO.out]; rfl⟩, HBF.out.trans (below_drewN (Below.refl _ _) _)⟩
          · as_aux_lemma =>
            subst h
            have HF := hidM (rfail_any R g c T (t + 3) M 3 X.data.toList o v w5 HS5.out)
            have h9 := HS5.out.setE 3
            have HS6 := hidM h9.1
            have HB6 := hidM (HB5.out.trans (h9.2.stp (v := v)).below)
            have HBAD : Hid (Run X.data.toList M (.blk false) 0 [] (.bad 3)) := HRUN.out _ (.kind3 t o v3 HN3.out (by rw [← HX2.out]))
            clear h9 HS5 HB5
            go_wp2_with fail
            refine HF.out.mono ?_
            rintro _ _ ⟨rfl, rfl⟩
            clear HF c4
            generalize w5.setCell ⟨R, 4, none⟩ (.int .i64 ((3 : Nat) : Int)) = w6 at *
            obtain ⟨e5, he5q⟩ : ∃ e5 : Nat, e5 = 3 := ⟨_, rfl⟩
            have c4 : w6.cell? ⟨R, 4, none⟩ = some (.int .i64 3) := HS6.out.box.c4
            have HI : Hid (BlI R g c T X.data.toList M w2 w6) := .inr ⟨3, t + 3, v, o, by decide, HBAD.out, HS6.out, HB6.out⟩
            have HL5 : Hid (leftX R T w6 = 0) := by unfold Hid leftX; rw [HS6.out.err, if_neg (by decide)]
            clear HS6 HB6 HBAD he5q e5
            go_wp2
            go_roundw
            case rel => exact HI.out
            case measure => rw [HL5.out, HLX.out]; omega
      · have HQ : Hid (InfQ s.data.toList (A : Int) (M : Int) ([], 0, e)) := .inr ⟨A, M, rfl, rfl, by rw [HLEN.out]; exact h1, h2, .inl ⟨e, he, by rw [← HXL.out]; exact hrun, rfl⟩⟩
        have HBB : Hid (Below w.heap.size w wr) := HB2.out.trans (hb.mono hRw)
        have c4 := hst.box.c4
        have e0 : ((e : Int) == 0) = false := by simp; omega
        clear hrun hst hb
        go_wp2
        go_quiet (fail)
        go_wp2
        go_ret3
        exact ⟨⟨_, HQ.out, rfl⟩, HBB.out.trans (below_drewN (Below.refl _ _) _)⟩
end Go.Proofs.YtddoemeellbhaaaGreatDoor
