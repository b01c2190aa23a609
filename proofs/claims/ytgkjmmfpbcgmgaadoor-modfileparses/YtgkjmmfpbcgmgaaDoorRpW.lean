/-
  The document's Parse of a module file.
-/
import Derived.Test.YtgkjmmfpbcgmgaaDoorRpA
namespace Go.Proofs.YtgkjmmfpbcgmgaaDoor
open Go.RowKit

theorem lin_none {l : List UInt8} {r : List (List UInt8)} {blk : List UInt8} {out : List Ln} {k : Nat} (h : toksL l = none) : linG (l :: r) blk out k = ([], k, 3) := by rw [linG, h]
theorem lin_bad {l : List UInt8} {r : List (List UInt8)} {blk : List UInt8} {out : List Ln} {k : Nat} {T : List To} (h : toksL l = some T) (hd : decT blk T k = none) : linG (l :: r) blk out k = ([], k, 3) := by rw [linG, h]; simp only [hd]
theorem lin_next {l : List UInt8} {r : List (List UInt8)} {blk blk' : List UInt8} {out x : List Ln} {k : Nat} {T : List To} (h : toksL l = some T) (hd : decT blk T k = some (blk', x)) : linG (l :: r) blk out k = linG r blk' (out ++ x) (k + 1) := by rw [linG, h]; simp only [hd]
theorem own_none38 (w : World) : RLines (w.alloc (.cells #[] 38)) w.heap.size (.slice (some ⟨w.heap.size, 0, none⟩) 0 0) [] :=
  ⟨[], ⟨by simp [flatL], .inr ⟨w.heap.size, 0, #[], rfl, Nat.le_refl _, heap_alloc_new w _, Nat.le_refl _, by simp [maxLen], rfl, rfl⟩⟩, rfl, fun i hi => by simp at hi⟩
theorem cellR_new (w : World) (a b c : Value) : ∀ j u, [a, b, c][j]? = some u → (w.alloc (.cells #[a, b, c] 38)).cell? ((⟨w.heap.size, 0, none⟩ : Addr).add j) = some u := by
  intro j u hu
  rw [Addr.add_lit, Nat.zero_add, World.cell?_alloc_mark w _ 38 (0, 0) j]
  match j, hu with
  | 0, hu => simpa using hu
  | 1, hu => simpa using hu
  | 2, hu => simpa using hu
  | n + 3, hu => simp at hu
def RParPost (s : ByteArray) (w : World) (e : Ending) (w' : World) : Prop :=
  ∃ lv, e = .returned (.tuple #[lv, .int .i64 ((parL s.data.toList).2.1 : Int), .int .i64 ((parL s.data.toList).2.2 : Int)]) ∧ RLines w' w.heap.size lv (parL s.data.toList).1 ∧ Below w.heap.size w w'
theorem rlines_nil (w : World) (base : Nat) : RLines w base (.slice none 0 0) [] := ⟨[], ⟨rfl, .inl ⟨rfl, rfl⟩⟩, rfl, fun i hi => by simp at hi⟩
theorem grow9 {w w5 : World} {B : Nat} {lv : Value} {n : Nat} {xs : List Value} (h1 : w.ownsRow B 38 3 lv n xs) (h4 : w.grownBy w5 lv.ownBlock) : ∀ (g : Nat) (cur : Array Value), w.heap[g]? = some (Obj.cells cur 9 (0, 0)) → w5.heap[g]? = w.heap[g]? := by
  intro g cur hg
  refine h4.block g (lt_of_some hg) ?_
  intro e
  rcases h1.2 with ⟨q1, _⟩ | ⟨g', cap, cur', q1, hB, hg', _⟩
  · rw [q1] at e; simp [Value.ownBlock] at e
  · rw [q1] at e
    simp [Value.ownBlock] at e
    subst e
    rw [hg'] at hg
    simp at hg
theorem WIn.at0 {w : World} {g n c : Nat} {l : List ByteArray} (h : WIn w (.slice (some ⟨g, 0, none⟩) n c) l) {k : Nat} (hk : k < l.length) : w.cell? ⟨g, k, none⟩ = some (.string l[k]) := by
  obtain ⟨g', off, c', h1, _, _, h4⟩ := h.cell (by intro e; rw [e] at hk; simp at hk)
  injection h1 with q1 _ _
  injection q1 with q1
  injection q1 with q1 q2
  subst q1 q2
  have := h4 k hk
  rw [Nat.zero_add] at this
  exact this
theorem WIn.fst {w : World} {g o n c : Nat} {x : ByteArray} {l : List ByteArray} (h : WIn w (.slice (some ⟨g, o, none⟩) n c) (x :: l)) : w.cell? ⟨g, o, none⟩ = some (.string x) := by
  obtain ⟨g', off, c', h1, _, _, h4⟩ := h.cell (by simp)
  injection h1 with q1 _ _
  injection q1 with q1
  injection q1 with q1 q2
  subst q1 q2
  exact h4 0 (by simp)
theorem decT_nil (blk : List UInt8) (k : Nat) : decT blk [] k = some (blk, []) := by simp [decT]
set_option maxHeartbeats 8000000 in
set_option maxRecDepth 100000 in
theorem rparse_any (s : ByteArray) (w : World) (hs : s.size ≤ 65536) :
    Calls Tryd.prog 10 #[.string s] w fun e w' => RParPost s w e w' := by
  obtain ⟨i0, hi, hz0, hz1, hz2⟩ := info_parts info38x
  have hsz0 : ¬ (65536 : Int) < (s.size : Int) := by omega
  obtain ⟨R, hR⟩ : ∃ R, R = parL s.data.toList := ⟨_, rfl⟩
  have HR1 := hidM hR
  have HR : Hid (linG (linesL s.data.toList) [] [] 1 = R) := by unfold Hid; rw [hR, parL_lines]
  clear hR
  have HFIN : Hid (∀ lv ls a er V, R = (ls, a, er) → RLines V w.heap.size lv ls → Below w.heap.size w V → ∀ e, e = .returned (.tuple #[lv, .int .i64 (a : Int), .int .i64 (er : Int)]) → RParPost s w e V) := by
    intro lv ls a er V h1 h2 h3 e he
    unfold RParPost
    rw [← HR1.out, h1]
    exact ⟨lv, he, h2, h3⟩
  have HCUT := hidM (fun V => rcut_any s 10 V (by omega))
  have HLS : Hid (∀ k (h : k < (cutB 10 s).length), toksL (cutB 10 s)[k].data.toList = toksL (linesL s.data.toList)[k]! ∧ 10 ∉ (cutB 10 s)[k].data.toList ∧ (cutB 10 s)[k].size ≤ 100000 ∧ (linesL s.data.toList).drop k = (cutB 10 s)[k].data.toList :: (linesL s.data.toList).drop (k + 1)) := by
    intro k h
    have hc : cutB 10 s = (linesL s.data.toList).map strOf := by unfold cutB; rw [cut_lines _ _ (Nat.le_refl _)]
    have hk : k < (linesL s.data.toList).length := by rw [hc] at h; simpa using h
    have e : (cutB 10 s)[k].data.toList = (linesL s.data.toList)[k] := by simp only [hc, List.getElem_map]; rfl
    have hn := lines_no _ s.data.toList (Nat.le_refl _) (linesL s.data.toList)[k] (List.getElem_mem _)
    rw [sl_len] at hn
    refine ⟨by rw [e]; simp [hk], by rw [e]; exact hn.1, by rw [← sl_len, e]; omega, by rw [e, List.drop_eq_getElem_cons hk]⟩
  have HLL : Hid ((cutB 10 s).length = (linesL s.data.toList).length) := by unfold Hid cutB; rw [cut_lines _ _ (Nat.le_refl _)]; simp
  have hcl : (cutB 10 s).length ≤ 65537 ∧ 0 < (cutB 10 s).length := by
    have := cuB_len 10 s s.size
    rw [cuB_all] at this
    omega
  generalize cutB 10 s = LS at *
  generalize linesL s.data.toList = LL at *
  go_enter Tryd.func10, Tryd.ntmps10
  go_upto_region 4 with fail
  have HO0 := hidM (own_none38 w)
  have HB0 : Hid (Below w.heap.size w (w.alloc (.cells #[] 38))) := (Below.refl _ _).alloc (Nat.le_refl _) _
  generalize w.alloc (.cells #[] 38) = W0 at *
  go_wp2_with fail
  refine (HCUT.out _).mono ?_
  rintro _ w1 ⟨⟨vL, hown, rfl⟩, hb1⟩
  have HL0 := hidM hown.win
  obtain ⟨aL, cL, rfl, hsh⟩ := hown.shape
  obtain ⟨g, rfl, hgb, hg, hat⟩ := hsh (by intro e; rw [e] at hcl; simp at hcl)
  have HAT := hidM hat
  have HO1 := hidM (HO0.out.keep hb1)
  have HB1 := hidM (HB0.out.trans (hb1.mono HB0.out.size))
  have HG := hidM hg
  clear hown hsh hat hb1 HCUT hgb hg
  obtain ⟨n, hn⟩ : ∃ n, n = LS.length := ⟨_, rfl⟩
  rw [← hn] at hcl ⊢
  have HN := hidM hn
  have HL1 : Hid (WIn w1 (.slice (some ⟨g, 0, none⟩) n cL) LS) := by rw [hn]; exact HL0.out
  clear hn HL0
  go_wp2_with fail
  go_loopw [5, 6, 7, 23] (fun v5 v6 v7 v23 wr => ∃ (k : Nat) (blk : List UInt8) (V : ByteArray) (I : Bool) (ls : List Ln), k ≤ n ∧ v23 = .int .i64 (k : Int) ∧ v6 = .string V ∧ v7 = .bool I ∧ (I = true ↔ blk ≠ []) ∧ (blk ≠ [] → V.data.toList = blk) ∧ ls.length ≤ k ∧ RLines wr w.heap.size v5 ls ∧ WIn wr (.slice (some ⟨g, 0, none⟩) n cL) LS ∧ Below w.heap.size w wr ∧ linG (LL.drop k) blk ls (k + 1) = R) (fun _ _ _ v23 _ => n - (intOf v23).toNat)
  case atStart => exact ⟨0, [], ⟨#[]⟩, false, [], Nat.zero_le _, rfl, rfl, rfl, by simp, fun h => absurd rfl h, Nat.le_refl _, HO1.out, HL1.out, HB1.out, HR.out⟩
  case round =>
    obtain ⟨k, blk, V, I, ls, hkn, rfl, rfl, rfl, hI, hV, hlk, hown, hlw, hbr, hlin⟩ := hrel
    have HI := hidM hI
    have HV := hidM hV
    have HO := hidM hown
    have HBW := hidM hbr
    have HLW := hidM hlw
    have HLIN := hidM hlin
    clear hI hV hown hbr hlin hlw HO0 HB0 HO1 HR HL1 HB1 HAT HG
    by_cases hlt : k < n
    · have kk : (k : Int) < (n : Int) := by omega
      have hkl : k < LS.length := by rw [← HN.out]; exact hlt
      have hcell := HLW.out.at0 hkl
      obtain ⟨_, x10, xs, xd⟩ := HLS.out k hkl
      rw [xd] at HLIN
      have HTK := hidM (fun V => tokens_any LS[k] V xs x10)
      have HXS := hidM xs
      generalize LS[k] = X at *
      clear HLS x10 xs xd
      unfold TokPost at HTK
      cases ht : toksL X.data.toList with
      | none =>
        as_aux_lemma =>
          rw [ht] at HTK
          have HRE : Hid (R = ([], k + 1, 3)) := by unfold Hid; rw [← HLIN.out]; exact lin_none ht
          clear ht HLIN
          go_wp2_with fail
          refine (HTK.out _).mono ?_
          rintro _ w2 ⟨hb2, rfl⟩
          go_wp2_with fail
          go_ret3
          exact HFIN.out _ _ _ _ _ HRE.out (rlines_nil _ _) (HBW.out.trans (hb2.mono HBW.out.size)) _ (by push_cast; rfl)
      | some T =>
        rw [ht] at HTK
        simp only at HTK
        have HT := hidM ht
        have hkd := toks_kind _ _ _ ht
        have hTl : T.length ≤ 100000 := by
          have := toks_len _ _ _ ht (Nat.lt_succ_self _)
          rw [sl_len] at this
          have := HXS.out
          omega
        have HKD := hidM hkd
        have HNXT : Hid (∀ blk' x, decT blk T (k + 1) = some (blk', x) → linG (LL.drop (k + 1)) blk' (ls ++ x) (k + 1 + 1) = R) := fun blk' x h => by rw [← HLIN.out]; exact (lin_next HT.out h).symm
        have HBAD : Hid (decT blk T (k + 1) = none → R = ([], k + 1, 3)) := fun h => by rw [← HLIN.out]; exact lin_bad HT.out h
        clear ht hkd HLIN HT
        go_wp2_with fail
        refine (HTK.out _).mono ?_
        rintro _ w2 ⟨hb2, v2, rfl, hown2⟩
        have HO2 := hidM (HO.out.keep hb2)
        have HBW2 := hidM (HBW.out.trans (hb2.mono HBW.out.size))
        have HL2 := hidM (HLW.out.below hb2)
        have HSH := hidM hown2.shape
        clear hb2 hown2 HTK HO HLW HBW
        obtain ⟨nT, hnT⟩ : ∃ n, n = T.length := ⟨_, rfl⟩
        have HNT := hidM hnT
        rw [← hnT] at hTl
        obtain ⟨a2, c2, rfl, hsh2⟩ := HSH.out
        have hml : (T.map txtT).length = nT := by rw [List.length_map, hnT]
        rw [hml]
        clear hml HSH
        by_cases hT0 : T = []
        · as_aux_lemma =>
            have z0 : nT = 0 := by rw [hnT, hT0]; rfl
            subst z0
            have HNX := hidM (HNXT.out blk [] (by rw [hT0]; exact decT_nil _ _))
            rw [List.append_nil] at HNX
            clear hT0 HNXT HBAD hsh2 hnT
            go_wp2_with fail
            go_roundw
            case rel => exact ⟨k + 1, blk, V, I, ls, by omega, by go_num, rfl, rfl, HI.out, HV.out, by omega, HO2.out, HL2.out, HBW2.out, HNX.out⟩
            case measure => (show n - ((k : Int) + 1).toNat < n - ((k : Int)).toNat); omega
        · have hTn : T ≠ [] := hT0
          obtain ⟨g2, rfl, _, hg2, hat2⟩ := hsh2 (by simpa using hT0)
          have HC2 : Hid (∀ j (h : j < T.length), w2.cell? ⟨g2, j, none⟩ = some (.string (txtT T[j]))) := fun j h => by
            have := hat2 j (by simpa using h)
            rw [this]; simp
          have hpos : 0 < nT := by rw [hnT]; exact List.length_pos_iff.2 hT0
          have p0 : ((nT : Int) == 0) = false := by simp; omega
          have hT0l : 0 < T.length := by rw [← hnT]; exact hpos
          have hc0 := HC2.out 0 hT0l
          have hk0 := HKD.out T[0] (List.getElem_mem _)
          have hx0l := txt_list T[0] hk0
          have hg0 : T.getD 0 (0, []) = T[0] := by simp [List.getD, hT0l]
          clear hsh2 hat2 hT0
          cases I with
          | true =>
            have hbk : blk ≠ [] := HI.out.1 rfl
            by_cases hn1 : nT = 1
            · have p1 : ((nT : Int) == 1) = true := by rw [hn1]; rfl
              by_cases h04 : T[0].1 = 4
              · as_aux_lemma =>
                  have b41 : ((txtT T[0]).toList == [41]) = true := by rw [hx0l, if_neg (by omega), if_neg (by omega)]; rfl
                  have hds : decT blk T (k + 1) = some ([], []) := by
                    unfold decT
                    rw [if_neg hTn, if_pos ⟨hbk, by rw [← hnT]; exact hn1, by rw [hg0]; exact h04⟩]
                  have HNX := hidM (HNXT.out _ _ hds)
                  rw [List.append_nil] at HNX
                  have q1 : (0 : Int) < (nT : Int) := by omega
                  clear hds hx0l h04 hk0 hg0 HNXT HBAD hn1 hnT
                  generalize txtT T[0] = X0 at *
                  go_wp2_with fail
                  go_roundw
                  case rel => exact ⟨k + 1, [], V, false, ls, by omega, by go_num, rfl, rfl, by simp, fun h => absurd rfl h, by omega, HO2.out, HL2.out, HBW2.out, HNX.out⟩
                  case measure => (show n - ((k : Int) + 1).toNat < n - ((k : Int)).toNat); omega
              · as_aux_lemma =>
                  have b41 : ((txtT T[0]).toList == [41]) = false := by
                    rw [hx0l]
                    rcases hk0 with h | h | h
                    · rw [if_neg (by omega), if_pos h]; rfl
                    · exact absurd h h04
                    · rw [if_pos h]; rfl
                  have q1 : (0 : Int) < (nT : Int) := by omega
                  clear hx0l hk0 hnT hn1
                  generalize txtT T[0] = X0 at *
                  have hg0' := hg0
                  have HWD := hidM (words_any g2 nT c2 T w2 HNT.out hTl HKD.out hg2 HC2.out)
                  unfold WordsPost at HWD
                  by_cases hany : T.any (fun t => t.1 != 5) = true
                  · simp only [hany, if_true] at HWD
                    have hdn : decT blk T (k + 1) = none := by
                      unfold decT
                      rw [if_neg hTn, if_neg (by rintro ⟨_, _, h1⟩; rw [hg0] at h1; exact h04 h1), if_neg (by rintro ⟨h1, _⟩; exact hbk h1), if_pos hany]
                    have HRE := hidM (HBAD.out hdn)
                    clear hdn HNXT HBAD
                    go_wp2_with fail
                    refine HWD.out.mono ?_
                    rintro _ w3 ⟨hb3, rfl⟩
                    have HBW3 := hidM (HBW2.out.trans (hb3.mono HBW2.out.size))
                    clear hb3
                    go_wp2_with fail
                    go_ret3
                    exact HFIN.out _ _ _ _ _ HRE.out (rlines_nil _ _) HBW3.out _ (by push_cast; rfl)
                  · simp only [hany] at HWD
                    have hds : decT blk T (k + 1) = some (blk, [(blk, T.map (·.2), k + 1)]) := by
                      unfold decT
                      rw [if_neg hTn, if_neg (by rintro ⟨_, _, h1⟩; rw [hg0] at h1; exact h04 h1), if_neg (by rintro ⟨h1, _⟩; exact hbk h1), if_neg hany, if_pos hbk]
                    have HNX := hidM (HNXT.out _ _ hds)
                    clear hds HNXT HBAD
                    go_wp2_with fail
                    refine HWD.out.mono ?_
                    rintro _ w3 ⟨hb3, v3, rfl, hown3⟩
                    have HWV := hidM hown3.win
                    obtain ⟨a3, c3, rfl⟩ := isS hown3
                    have hm3 : (T.map wordV).length = nT := by rw [List.length_map]; exact HNT.out.symm
                    rw [hm3]
                    rw [hm3] at HWV
                    have HO3 := hidM (HO2.out.keep hb3)
                    have HL3 := hidM (HL2.out.below hb3)
                    have HBW3 := hidM (HBW2.out.trans (hb3.mono HBW2.out.size))
                    have hsz3 := HBW3.out.size
                    clear hown3 hb3 HWD HO2 HL2
                    obtain ⟨wvs, o1, o2, o3⟩ := HO3.out
                    have HO1r := hidM o1
                    have HO2r := hidM o2
                    have HO3r := hidM o3
                    clear o1 o2 o3 HO3
                    obtain ⟨k1, hk1⟩ : ∃ k1, k1 = k + 1 := ⟨_, rfl⟩
                    have hk1i : (k : Int) + 1 = (k1 : Int) := by omega
                    rw [← hk1] at HNX
                    have HK1 := hidM hk1
                    have hk1b : k < k1 ∧ k1 ≤ n := by omega
                    clear hk1
                    have hVS : Hid ((.string V : Value) = strV blk) := by unfold Hid strV; congr 1; apply bytes_ext; rw [HV.out hbk]
                    obtain ⟨nl, hnl⟩ : ∃ n, n = ls.length := ⟨_, rfl⟩
                    have hnlb : nl ≤ k := by omega
                    rw [← hnl] at HO1r
                    have HNL := hidM hnl
                    clear hnl
                    go_wp2_with (at_builtin; refine wpList_append_own _ rfl _ _ 27 rfl w.heap.size 38 i0 (.agg #[.string .empty, .slice none 0 0, .int .i64 0]) 3 48 Tryd.underlying27 hi hz0 hz1 hz2 rfl (by decide) _ _ _ rfl (World.ownsRow.alloc HO1r.out _) ⟨w3.heap.size, 0, none⟩ 1 1 [.string V, .slice a3 nT c3, .int .i64 (k1 : Int)] ?da0 rfl ?da1 ?da2 ?da3 ?da4 ?da5 ?_)
                    try (case da0 => rfl)
                    try (case da1 => exact cellR_new _ _ _ _)
                    case da2 => first | exact oneL _ _ _ _ _ | simp [Value.oneCell']
                    case da3 => unfold maxLen; omega
                    case da4 => omega
                    case da5 => first | (simp; omega) | omega | trivial
                    intro v' w5 hown' hgrow _
                    have HBa : Hid (Below w3.heap.size w3 (w3.alloc (.cells #[.string V, .slice a3 nT c3, .int .i64 (k1 : Int)] 38))) := (Below.refl _ _).alloc (Nat.le_refl _) _
                    have HP5 : Hid (RLines w5 w.heap.size v' (ls ++ [(blk, T.map (·.2), k1)])) := by
                      refine RLines.push (w := w3.alloc (.cells #[.string V, .slice a3 nT c3, .int .i64 (k1 : Int)] 38)) (World.ownsRow.alloc (by rw [← HNL.out]; exact HO1r.out) _) HO2r.out (fun i hi => (HO3r.out i hi).below HBa.out) (l := (blk, T.map (·.2), k1)) (wv := .slice a3 nT c3) ?_ ?_ hgrow
                      · show WIn _ _ ((T.map (·.2)).map mkB)
                        rw [List.map_map]
                        exact HWV.out.below HBa.out
                      · rw [← HNL.out, ← hVS.out]; exact hown'
                    have HL5 : Hid (WIn w5 (.slice (some ⟨g, 0, none⟩) n cL) LS) := (HL3.out.below HBa.out).keep (grow9 (World.ownsRow.alloc HO1r.out _) hgrow)
                    have HB5 : Hid (Below w.heap.size w w5) := (HBW3.out.alloc hsz3 _).grown hgrow (by simp; omega) (fun k hk => (World.ownsRow.lt HO1r.out k hk).1)
                    clear hown' hgrow HBa
                    go_wp2_with fail
                    go_roundw
                    case rel => exact ⟨k1, blk, V, true, ls ++ [(blk, T.map (·.2), k1)], by omega, by go_num, rfl, rfl, ⟨fun _ => hbk, fun _ => rfl⟩, HV.out, by simp; rw [← HNL.out]; omega, HP5.out, HL5.out, HB5.out, HNX.out⟩
                    case measure => (show n - ((k1 : Int)).toNat < n - ((k : Int)).toNat); omega
            · as_aux_lemma =>
                have p1 : ((nT : Int) == 1) = false := by simp; omega
                clear hx0l hk0 hnT hc0
                have hg0' := hg0
                have HWD := hidM (words_any g2 nT c2 T w2 HNT.out hTl HKD.out hg2 HC2.out)
                unfold WordsPost at HWD
                by_cases hany : T.any (fun t => t.1 != 5) = true
                · simp only [hany, if_true] at HWD
                  have hdn : decT blk T (k + 1) = none := by
                    unfold decT
                    rw [if_neg hTn, if_neg (by rintro ⟨_, h1, _⟩; rw [← HNT.out] at h1; exact hn1 h1), if_neg (by rintro ⟨h1, _⟩; exact hbk h1), if_pos hany]
                  have HRE := hidM (HBAD.out hdn)
                  clear hdn HNXT HBAD
                  go_wp2_with fail
                  refine HWD.out.mono ?_
                  rintro _ w3 ⟨hb3, rfl⟩
                  have HBW3 := hidM (HBW2.out.trans (hb3.mono HBW2.out.size))
                  clear hb3
                  go_wp2_with fail
                  go_ret3
                  exact HFIN.out _ _ _ _ _ HRE.out (rlines_nil _ _) HBW3.out _ (by push_cast; rfl)
                · simp only [hany] at HWD
                  have hds : decT blk T (k + 1) = some (blk, [(blk, T.map (·.2), k + 1)]) := by
                    unfold decT
                    rw [if_neg hTn, if_neg (by rintro ⟨_, h1, _⟩; rw [← HNT.out] at h1; exact hn1 h1), if_neg (by rintro ⟨h1, _⟩; exact hbk h1), if_neg hany, if_pos hbk]
                  have HNX := hidM (HNXT.out _ _ hds)
                  clear hds HNXT HBAD
                  go_wp2_with fail
                  refine HWD.out.mono ?_
                  rintro _ w3 ⟨hb3, v3, rfl, hown3⟩
                  have HWV := hidM hown3.win
                  obtain ⟨a3, c3, rfl⟩ := isS hown3
                  have hm3 : (T.map wordV).length = nT := by rw [List.length_map]; exact HNT.out.symm
                  rw [hm3]
                  rw [hm3] at HWV
                  have HO3 := hidM (HO2.out.keep hb3)
                  have HL3 := hidM (HL2.out.below hb3)
                  have HBW3 := hidM (HBW2.out.trans (hb3.mono HBW2.out.size))
                  have hsz3 := HBW3.out.size
                  clear hown3 hb3 HWD HO2 HL2
                  obtain ⟨wvs, o1, o2, o3⟩ := HO3.out
                  have HO1r := hidM o1
                  have HO2r := hidM o2
                  have HO3r := hidM o3
                  clear o1 o2 o3 HO3
                  obtain ⟨k1, hk1⟩ : ∃ k1, k1 = k + 1 := ⟨_, rfl⟩
                  have hk1i : (k : Int) + 1 = (k1 : Int) := by omega
                  rw [← hk1] at HNX
                  have HK1 := hidM hk1
                  have hk1b : k < k1 ∧ k1 ≤ n := by omega
                  clear hk1
                  have hVS : Hid ((.string V : Value) = strV blk) := by unfold Hid strV; congr 1; apply bytes_ext; rw [HV.out hbk]
                  obtain ⟨nl, hnl⟩ : ∃ n, n = ls.length := ⟨_, rfl⟩
                  have hnlb : nl ≤ k := by omega
                  rw [← hnl] at HO1r
                  have HNL := hidM hnl
                  clear hnl
                  go_wp2_with (at_builtin; refine wpList_append_own _ rfl _ _ 27 rfl w.heap.size 38 i0 (.agg #[.string .empty, .slice none 0 0, .int .i64 0]) 3 48 Tryd.underlying27 hi hz0 hz1 hz2 rfl (by decide) _ _ _ rfl (World.ownsRow.alloc HO1r.out _) ⟨w3.heap.size, 0, none⟩ 1 1 [.string V, .slice a3 nT c3, .int .i64 (k1 : Int)] ?db0 rfl ?db1 ?db2 ?db3 ?db4 ?db5 ?_)
                  try (case db0 => rfl)
                  try (case db1 => exact cellR_new _ _ _ _)
                  case db2 => first | exact oneL _ _ _ _ _ | simp [Value.oneCell']
                  case db3 => unfold maxLen; omega
                  case db4 => omega
                  case db5 => first | (simp; omega) | omega | trivial
                  intro v' w5 hown' hgrow _
                  have HBa : Hid (Below w3.heap.size w3 (w3.alloc (.cells #[.string V, .slice a3 nT c3, .int .i64 (k1 : Int)] 38))) := (Below.refl _ _).alloc (Nat.le_refl _) _
                  have HP5 : Hid (RLines w5 w.heap.size v' (ls ++ [(blk, T.map (·.2), k1)])) := by
                    refine RLines.push (w := w3.alloc (.cells #[.string V, .slice a3 nT c3, .int .i64 (k1 : Int)] 38)) (World.ownsRow.alloc (by rw [← HNL.out]; exact HO1r.out) _) HO2r.out (fun i hi => (HO3r.out i hi).below HBa.out) (l := (blk, T.map (·.2), k1)) (wv := .slice a3 nT c3) ?_ ?_ hgrow
                    · show WIn _ _ ((T.map (·.2)).map mkB)
                      rw [List.map_map]
                      exact HWV.out.below HBa.out
                    · rw [← HNL.out, ← hVS.out]; exact hown'
                  have HL5 : Hid (WIn w5 (.slice (some ⟨g, 0, none⟩) n cL) LS) := (HL3.out.below HBa.out).keep (grow9 (World.ownsRow.alloc HO1r.out _) hgrow)
                  have HB5 : Hid (Below w.heap.size w w5) := (HBW3.out.alloc hsz3 _).grown hgrow (by simp; omega) (fun k hk => (World.ownsRow.lt HO1r.out k hk).1)
                  clear hown' hgrow HBa
                  go_wp2_with fail
                  go_roundw
                  case rel => exact ⟨k1, blk, V, true, ls ++ [(blk, T.map (·.2), k1)], by omega, by go_num, rfl, rfl, ⟨fun _ => hbk, fun _ => rfl⟩, HV.out, by simp; rw [← HNL.out]; omega, HP5.out, HL5.out, HB5.out, HNX.out⟩
                  case measure => (show n - ((k1 : Int)).toNat < n - ((k : Int)).toNat); omega
          | false =>
            have hbk : blk = [] := by
              by_cases h : blk = []
              · exact h
              · exact absurd (HI.out.2 h) (by simp)
            subst hbk
            clear HI
            have hNI : ¬ (([] : List UInt8) ≠ []) := fun h => h rfl
            by_cases hn2 : nT = 2
            · have p2 : ((nT : Int) == 2) = true := by rw [hn2]; rfl
              have q2 : (1 : Int) < (nT : Int) := by omega
              have q1 : (0 : Int) < (nT : Int) := by omega
              have hT1l : 1 < T.length := by rw [← hnT]; omega
              have hc1 := HC2.out 1 hT1l
              have hk1 := HKD.out T[1] (List.getElem_mem _)
              have hx1l := txt_list T[1] hk1
              have hg1 : T.getD 1 (0, []) = T[1] := by simp [List.getD, hT1l]
              by_cases h13 : T[1].1 = 3
              · have b40 : ((txtT T[1]).toList == [40]) = true := by rw [hx1l, if_neg (by omega), if_pos h13]; rfl
                by_cases h05 : T[0].1 = 5 ∧ T[0].2 ≠ []
                · as_aux_lemma =>
                    obtain ⟨y1, y2⟩ := txt_word T[0] h05.1
                    have y3 : (1 : Int) < ((txtT T[0]).size : Int) := by
                      have : (txtT T[0]).data.toList = (46 : UInt8) :: T[0].2 := by rw [← Lib.toList_data, hx0l, if_pos h05.1]
                      have h2 := congrArg List.length this
                      rw [sl_len] at h2
                      cases h3 : T[0].2 with
                      | nil => exact absurd h3 h05.2
                      | cons _ _ => rw [h3] at h2; simp at h2; omega
                    have y4 : (1 : Int) ≤ ((txtT T[0]).size : Int) := by omega
                    have hds : decT [] T (k + 1) = some (T[0].2, []) := by
                      unfold decT
                      rw [if_neg hTn, if_neg (by rintro ⟨h, _⟩; exact h rfl), if_pos ⟨rfl, by rw [← hnT]; exact hn2, by rw [hg1]; exact h13, by rw [hg0]; exact h05.1, by rw [hg0]; exact h05.2⟩, hg0]
                    have HNX := hidM (HNXT.out _ _ hds)
                    rw [List.append_nil] at HNX
                    have HW0 : Hid ((wordV T[0]).data.toList = T[0].2 ∧ T[0].2 ≠ []) := ⟨rfl, h05.2⟩
                    clear hds hx0l hx1l hk0 hk1 hg0 hg1 HNXT HBAD hn2 hnT h05 h13
                    generalize T[0].2 = nb at *
                    generalize wordV T[0] = WV at *
                    generalize txtT T[0] = X0 at *
                    generalize txtT T[1] = X1 at *
                    go_wp2_with fail
                    go_roundw
                    case rel => exact ⟨k + 1, nb, WV, true, ls, by omega, by go_num, rfl, rfl, ⟨fun _ => HW0.out.2, fun _ => rfl⟩, fun _ => HW0.out.1, by omega, HO2.out, HL2.out, HBW2.out, HNX.out⟩
                    case measure => (show n - ((k : Int) + 1).toNat < n - ((k : Int)).toNat); omega
                · as_aux_lemma =>
                    have y3 : ¬ (1 : Int) < ((txtT T[0]).size : Int) := by
                      have h1 : (txtT T[0]).data.toList.length ≤ 1 := by
                        rw [← Lib.toList_data, hx0l]
                        rcases hk0 with h | h | h
                        · rw [if_neg (by omega), if_pos h]; simp
                        · rw [if_neg (by omega), if_neg (by omega)]; simp
                        · rw [if_pos h]
                          cases h3 : T[0].2 with
                          | nil => simp
                          | cons _ _ => exact absurd ⟨h, by rw [h3]; simp⟩ h05
                      rw [sl_len] at h1
                      omega
                    have hbk : ([] : List UInt8) = [] := rfl
                    clear hx0l hx1l hk0 hk1 hnT hn2
                    generalize txtT T[0] = X0 at *
                    generalize txtT T[1] = X1 at *
                    have hg0' := hg0
                    have HWD := hidM (words_any g2 nT c2 T w2 HNT.out hTl HKD.out hg2 HC2.out)
                    unfold WordsPost at HWD
                    by_cases hany : T.any (fun t => t.1 != 5) = true
                    · simp only [hany, if_true] at HWD
                      have hdn : decT [] T (k + 1) = none := by
                        unfold decT
                        rw [if_neg hTn, if_neg (by rintro ⟨h1, _⟩; exact h1 rfl), if_neg (by rintro ⟨_, _, _, h1, h2⟩; rw [hg0'] at h1 h2; exact h05 ⟨h1, h2⟩), if_pos hany]
                      have HRE := hidM (HBAD.out hdn)
                      clear hdn HNXT HBAD
                      go_wp2_with fail
                      refine HWD.out.mono ?_
                      rintro _ w3 ⟨hb3, rfl⟩
                      have HBW3 := hidM (HBW2.out.trans (hb3.mono HBW2.out.size))
                      clear hb3
                      go_wp2_with fail
                      go_ret3
                      exact HFIN.out _ _ _ _ _ HRE.out (rlines_nil _ _) HBW3.out _ (by push_cast; rfl)
                    · simp only [hany] at HWD
                      obtain ⟨t0, TR, hTR⟩ : ∃ t0 TR, T = t0 :: TR := by
                        cases T with
                        | nil => exact absurd rfl hTn
                        | cons a b => exact ⟨a, b, rfl⟩
                      have hg0 : T.getD 0 (0, []) = t0 := by rw [hTR]; rfl
                      have HTR := hidM hTR
                      clear hTR
                      go_wp2_with fail
                      refine HWD.out.mono ?_
                      rintro _ w3 ⟨hb3, v3, rfl, hown3⟩
                      have HWV := hidM hown3.win
                      have hne3 : T.map wordV ≠ [] := by rw [HTR.out]; simp
                      obtain ⟨g3, o3, c3, rfl, hg3, hc3, hcl3⟩ := HWV.out.cell hne3
                      have hm3 : (T.map wordV).length = nT := by rw [List.length_map]; exact HNT.out.symm
                      have hx0 := hcl3 0 (by rw [hm3]; omega)
                      have hx0' : (T.map wordV)[0]'(by rw [hm3]; omega) = wordV t0 := by simp [HTR.out]
                      rw [hx0', Nat.add_zero] at hx0
                      have r0 : (0 : Int) < (nT : Int) := by omega
                      rw [hm3] at HWV hc3
                      rw [hm3]
                      have HO3 := hidM (HO2.out.keep hb3)
                      have HL3 := hidM (HL2.out.below hb3)
                      have HBW3 := hidM (HBW2.out.trans (hb3.mono HBW2.out.size))
                      have hsz3 := HBW3.out.size
                      clear hown3 hb3 HWD HO2 HL2 hcl3 hx0' hm3 hne3
                      have HW0 : Hid ((wordV t0).data.toList = t0.2) := rfl
                      by_cases he0 : t0.2 = []
                      · have hdn : decT [] T (k + 1) = none := by
                          unfold decT
                          rw [if_neg hTn, if_neg (by rintro ⟨h1, _⟩; exact h1 rfl), if_neg (by rintro ⟨_, _, _, h1, h2⟩; rw [hg0'] at h1 h2; exact h05 ⟨h1, h2⟩), if_neg hany, if_neg (by simp), if_pos (by rw [hg0]; exact he0)]
                        have b3 : (wordV t0).toList.isEmpty = true := by rw [Lib.toList_data, HW0.out, he0]; rfl
                        have HRE := hidM (HBAD.out hdn)
                        clear hdn he0 HNXT HBAD
                        generalize wordV t0 = W0 at *
                        go_wp2_with fail
                        go_ret3
                        exact HFIN.out _ _ _ _ _ HRE.out (rlines_nil _ _) HBW3.out _ (by push_cast; rfl)
                      · have hds : decT [] T (k + 1) = some ([], [(t0.2, (T.map (·.2)).drop 1, k + 1)]) := by
                          unfold decT
                          rw [if_neg hTn, if_neg (by rintro ⟨h1, _⟩; exact h1 rfl), if_neg (by rintro ⟨_, _, _, h1, h2⟩; rw [hg0'] at h1 h2; exact h05 ⟨h1, h2⟩), if_neg hany, if_neg (by simp), if_neg (by rw [hg0]; exact he0), hg0]
                        have b3 : (wordV t0).toList.isEmpty = false := by
                          rw [Lib.toList_data, HW0.out]
                          cases h : t0.2 with
                          | nil => exact absurd h he0
                          | cons _ _ => rfl
                        have HNX := hidM (HNXT.out _ _ hds)
                        clear hds he0 HNXT HBAD
                        obtain ⟨wvs, o1, o2, o3r⟩ := HO3.out
                        have HO1r := hidM o1
                        have HO2r := hidM o2
                        have HO3r := hidM o3r
                        clear o1 o2 o3r HO3
                        obtain ⟨k1, hk1⟩ : ∃ k1, k1 = k + 1 := ⟨_, rfl⟩
                        have hk1i : (k : Int) + 1 = (k1 : Int) := by omega
                        rw [← hk1] at HNX
                        have HK1 := hidM hk1
                        have hk1b : k < k1 ∧ k1 ≤ n := by omega
                        clear hk1
                        have hVS : Hid ((.string (wordV t0) : Value) = strV t0.2) := rfl
                        obtain ⟨nl, hnl⟩ : ∃ n, n = ls.length := ⟨_, rfl⟩
                        have hnlb : nl ≤ k := by omega
                        rw [← hnl] at HO1r
                        have HNL := hidM hnl
                        clear hnl
                        obtain ⟨m1, hm1⟩ : ∃ m1, nT = m1 + 1 := ⟨nT - 1, by omega⟩
                        have HDR : Hid (((T.map (·.2)).drop 1).map mkB = (T.map wordV).drop 1) := by
                          unfold Hid
                          rw [List.map_drop, List.map_map]
                          rfl
                        have HM1 : Hid ((T.map wordV).drop 1 = TR.map wordV ∧ TR.length = m1) := by
                          refine ⟨by rw [HTR.out]; simp, ?_⟩
                          have := HNT.out
                          rw [HTR.out] at this
                          simp at this
                          omega
                        have r1 : (nT : Int) - 1 = (m1 : Int) := by omega
                        have r2 : (1 : Int) ≤ (nT : Int) := by omega
                        have r3 : (nT : Int) ≤ (c3 : Int) := by omega
                        have hwin1 : WIn w3 (.slice (some ⟨g3, o3, none⟩) (TR.length + 1) c3) (wordV t0 :: TR.map wordV) := by
                          have := HWV.out
                          rw [HTR.out] at this
                          rw [HM1.out.2, ← hm1]
                          exact this
                        have HWT : Hid (∀ a, TR = [] → WIn w3 (.slice a 0 0) (TR.map wordV)) := fun a h => by rw [h]; exact ⟨a, 0, rfl, fun h => absurd rfl h⟩
                        have HWT2 : Hid (WIn w3 (.slice (some ⟨g3, o3 + 1, none⟩) m1 (c3 - 1)) (TR.map wordV)) := by
                          have h2 := hwin1
                          rw [show TR.length + 1 = (TR.map wordV).length + 1 by simp] at h2
                          have := h2.tail
                          rw [List.length_map, HM1.out.2] at this
                          exact this
                        have HMM := hidM hm1
                        clear hwin1 hm1
                        generalize hWO : wordV t0 = W0 at *
                        have HWO := hidM hWO
                        clear hWO
                        have wrk1 : IntKind.i64.wrap (k1 : Int) = (k1 : Int) := wrap_i (by omega)
                        go_upto_region 18 with fail
                        by_cases hc1 : c3 = 1
                        · have hm0 : m1 = 0 := by have := HMM.out; omega
                          subst hm0
                          have hn1 : nT = 1 := HMM.out
                          have hTR0 : TR = [] := List.length_eq_zero_iff.1 HM1.out.2
                          have HTL := hidM (HWT.out (some ⟨g3, o3, none⟩) hTR0)
                          subst hc1
                          subst hn1
                          clear hTR0 HWT2 r1 r2 r3
                          refine wp_region_held_drew (S := (fun w' => w'.cell? ⟨g3, o3, none⟩ = some (.string W0))) (by kernel_rfl) hx0 (fun hHeld => ?_)
                          refine wpAnyH_take (i := 0) (v := ?_) rfl (by kernel_rfl) (by kernel_rfl) (by kernel_rfl) (fun _ _ _ h => h) (Or.inl ⟨by kernel_rfl, ?_⟩) (by assumption) ?_
                          rotate_left
                          · intro w hSw
                            clear hSw
                            go_simp
                            try with_reducible rfl
                          change wpAnyH _ _ _ _ _ _ _ (⟨#[_, _, _, _, _, _, _, _, _, _, _, _, _, _, _, _, _, _, _, _, _, _, _, _, _, _, _, _, _, _, _, _, _, _, _, _, _, _, _, _, _, _, _, _, _, _, _, _, _, _, _, _, _, _, _, _, _, _, _, _, _, _, _, _, _, _, _, _, _, _, _, _, _, _, _, _, _, _, _, _, _, _, _, _, _, _, _, _, _, _, _, _, _, _, _, _, _, _, _, _, _, _, _, _, _, _, _, _, _, _, _, _, _, _, _, _, _, _, _, _, _, _, _], _⟩ : Act) _
                          refine wpAnyH_take (i := 1) (v := ?_) rfl (by kernel_rfl) (by kernel_rfl) (by kernel_rfl) (fun _ _ _ h => h) (Or.inl ⟨by kernel_rfl, ?_⟩) (by assumption) ?_
                          rotate_left
                          · intro w hSw
                            clear hSw
                            go_simp
                            try with_reducible rfl
                          change wpAnyH _ _ _ _ _ _ _ (⟨#[_, _, _, _, _, _, _, _, _, _, _, _, _, _, _, _, _, _, _, _, _, _, _, _, _, _, _, _, _, _, _, _, _, _, _, _, _, _, _, _, _, _, _, _, _, _, _, _, _, _, _, _, _, _, _, _, _, _, _, _, _, _, _, _, _, _, _, _, _, _, _, _, _, _, _, _, _, _, _, _, _, _, _, _, _, _, _, _, _, _, _, _, _, _, _, _, _, _, _, _, _, _, _, _, _, _, _, _, _, _, _, _, _, _, _, _, _, _, _, _, _, _, _], _⟩ : Act) _
                          refine wpAnyH_take (i := 2) (v := ?_) rfl (by kernel_rfl) (by kernel_rfl) (by kernel_rfl) (fun _ _ _ h => h) (Or.inl ⟨by kernel_rfl, ?_⟩) (by assumption) ?_
                          rotate_left
                          · intro w hSw
                            clear hSw
                            go_simp
                            try with_reducible rfl
                          change wpAnyH _ _ _ _ _ _ _ (⟨#[_, _, _, _, _, _, _, _, _, _, _, _, _, _, _, _, _, _, _, _, _, _, _, _, _, _, _, _, _, _, _, _, _, _, _, _, _, _, _, _, _, _, _, _, _, _, _, _, _, _, _, _, _, _, _, _, _, _, _, _, _, _, _, _, _, _, _, _, _, _, _, _, _, _, _, _, _, _, _, _, _, _, _, _, _, _, _, _, _, _, _, _, _, _, _, _, _, _, _, _, _, _, _, _, _, _, _, _, _, _, _, _, _, _, _, _, _, _, _, _, _, _, _], _⟩ : Act) _
                          refine wpAnyH_take (i := 3) (v := ?_) rfl (by kernel_rfl) (by kernel_rfl) (by kernel_rfl) (fun _ _ _ h => h) (Or.inl ⟨by kernel_rfl, ?_⟩) (by assumption) ?_
                          rotate_left
                          · intro w hSw
                            skip
                            go_simp
                            try with_reducible rfl
                          change wpAnyH _ _ _ _ _ _ _ (⟨#[_, _, _, _, _, _, _, _, _, _, _, _, _, _, _, _, _, _, _, _, _, _, _, _, _, _, _, _, _, _, _, _, _, _, _, _, _, _, _, _, _, _, _, _, _, _, _, _, _, _, _, _, _, _, _, _, _, _, _, _, _, _, _, _, _, _, _, _, _, _, _, _, _, _, _, _, _, _, _, _, _, _, _, _, _, _, _, _, _, _, _, _, _, _, _, _, _, _, _, _, _, _, _, _, _, _, _, _, _, _, _, _, _, _, _, _, _, _, _, _, _, _, _], _⟩ : Act) _
                          refine wpAnyH_take (i := 4) (v := ?_) rfl (by kernel_rfl) (by kernel_rfl) (by kernel_rfl) (fun _ _ _ h => h) (Or.inl ⟨by kernel_rfl, ?_⟩) (by assumption) ?_
                          rotate_left
                          · intro w hSw
                            clear hSw
                            go_simp
                            try with_reducible rfl
                          change wpAnyH _ _ _ _ _ _ _ (⟨#[_, _, _, _, _, _, _, _, _, _, _, _, _, _, _, _, _, _, _, _, _, _, _, _, _, _, _, _, _, _, _, _, _, _, _, _, _, _, _, _, _, _, _, _, _, _, _, _, _, _, _, _, _, _, _, _, _, _, _, _, _, _, _, _, _, _, _, _, _, _, _, _, _, _, _, _, _, _, _, _, _, _, _, _, _, _, _, _, _, _, _, _, _, _, _, _, _, _, _, _, _, _, _, _, _, _, _, _, _, _, _, _, _, _, _, _, _, _, _, _, _, _, _], _⟩ : Act) _
                          refine wpAnyH_take (i := 5) (v := ?_) rfl (by kernel_rfl) (by kernel_rfl) (by kernel_rfl) (fun _ _ _ h => h) (Or.inl ⟨by kernel_rfl, ?_⟩) (by assumption) ?_
                          rotate_left
                          · intro w hSw
                            clear hSw
                            go_simp
                            try with_reducible rfl
                          change wpAnyH _ _ _ _ _ _ _ (⟨#[_, _, _, _, _, _, _, _, _, _, _, _, _, _, _, _, _, _, _, _, _, _, _, _, _, _, _, _, _, _, _, _, _, _, _, _, _, _, _, _, _, _, _, _, _, _, _, _, _, _, _, _, _, _, _, _, _, _, _, _, _, _, _, _, _, _, _, _, _, _, _, _, _, _, _, _, _, _, _, _, _, _, _, _, _, _, _, _, _, _, _, _, _, _, _, _, _, _, _, _, _, _, _, _, _, _, _, _, _, _, _, _, _, _, _, _, _, _, _, _, _, _, _], _⟩ : Act) _
                          refine wpAnyH_take (i := 6) (v := ?_) rfl (by kernel_rfl) (by kernel_rfl) (by kernel_rfl) (fun _ _ _ h => h) (Or.inl ⟨by kernel_rfl, ?_⟩) (by assumption) ?_
                          rotate_left
                          · intro w hSw
                            clear hSw
                            go_simp
                            try with_reducible rfl
                          change wpAnyH _ _ _ _ _ _ _ (⟨#[_, _, _, _, _, _, _, _, _, _, _, _, _, _, _, _, _, _, _, _, _, _, _, _, _, _, _, _, _, _, _, _, _, _, _, _, _, _, _, _, _, _, _, _, _, _, _, _, _, _, _, _, _, _, _, _, _, _, _, _, _, _, _, _, _, _, _, _, _, _, _, _, _, _, _, _, _, _, _, _, _, _, _, _, _, _, _, _, _, _, _, _, _, _, _, _, _, _, _, _, _, _, _, _, _, _, _, _, _, _, _, _, _, _, _, _, _, _, _, _, _, _, _], _⟩ : Act) _
                          refine wpAnyH_take (i := 7) (v := ?_) rfl (by kernel_rfl) (by kernel_rfl) (by kernel_rfl) (fun _ _ _ h => h) (Or.inl ⟨by kernel_rfl, ?_⟩) (by assumption) ?_
                          rotate_left
                          · intro w hSw
                            clear hSw
                            go_simp
                            try with_reducible rfl
                          change wpAnyH _ _ _ _ _ _ _ (⟨#[_, _, _, _, _, _, _, _, _, _, _, _, _, _, _, _, _, _, _, _, _, _, _, _, _, _, _, _, _, _, _, _, _, _, _, _, _, _, _, _, _, _, _, _, _, _, _, _, _, _, _, _, _, _, _, _, _, _, _, _, _, _, _, _, _, _, _, _, _, _, _, _, _, _, _, _, _, _, _, _, _, _, _, _, _, _, _, _, _, _, _, _, _, _, _, _, _, _, _, _, _, _, _, _, _, _, _, _, _, _, _, _, _, _, _, _, _, _, _, _, _, _, _], _⟩ : Act) _
                          refine wpAnyH_take (i := 8) (v := ?_) rfl (by kernel_rfl) (by kernel_rfl) (by kernel_rfl) (fun _ _ _ h => h) (Or.inl ⟨by kernel_rfl, ?_⟩) (by assumption) ?_
                          rotate_left
                          · intro w hSw
                            clear hSw
                            go_simp
                            try with_reducible rfl
                          change wpAnyH _ _ _ _ _ _ _ (⟨#[_, _, _, _, _, _, _, _, _, _, _, _, _, _, _, _, _, _, _, _, _, _, _, _, _, _, _, _, _, _, _, _, _, _, _, _, _, _, _, _, _, _, _, _, _, _, _, _, _, _, _, _, _, _, _, _, _, _, _, _, _, _, _, _, _, _, _, _, _, _, _, _, _, _, _, _, _, _, _, _, _, _, _, _, _, _, _, _, _, _, _, _, _, _, _, _, _, _, _, _, _, _, _, _, _, _, _, _, _, _, _, _, _, _, _, _, _, _, _, _, _, _, _], _⟩ : Act) _
                          refine wpAnyH_ready (rs := [9]) (by kernel_rfl) (by simp) ?_
                          refine AllReadyH.cons rfl (fun K hK => ?_) AllReadyH.nil
                          go_simp
                          have HBa : Hid (Below w3.heap.size w3 (w3.alloc (.cells #[.string W0, .slice (some ⟨g3, o3, none⟩) 0 0, .int .i64 (k1 : Int)] 38)).drew) := below_dn ((Below.refl _ w3).alloc (Nat.le_refl _) _) 1
                          have HOa : Hid ((w3.alloc (.cells #[.string W0, .slice (some ⟨g3, o3, none⟩) 0 0, .int .i64 (k1 : Int)] 38)).drew.ownsRow w.heap.size 38 3 u5 nl (flatL ls wvs)) := (World.ownsRow.alloc HO1r.out _).drew
                          refine hK.out _ _ ((HBa.out.cell (p := ⟨g3, o3, none⟩) hg3).trans hx0) (fun hHeld => ?_)
                          clear hK K
                          change wpAnyH _ _ _ _ _ _ _ (⟨#[_, _, _, _, _, _, _, _, _, _, _, _, _, _, _, _, _, _, _, _, _, _, _, _, _, _, _, _, _, _, _, _, _, _, _, _, _, _, _, _, _, _, _, _, _, _, _, _, _, _, _, _, _, _, _, _, _, _, _, _, _, _, _, _, _, _, _, _, _, _, _, _, _, _, _, _, _, _, _, _, _, _, _, _, _, _, _, _, _, _, _, _, _, _, _, _, _, _, _, _, _, _, _, _, _, _, _, _, _, _, _, _, _, _, _, _, _, _, _, _, _, _, _], _⟩ : Act) _
                          refine wpAnyH_ready (rs := [10]) (by kernel_rfl) (by simp) ?_
                          refine AllReadyH.cons rfl (fun K hK => ?_) AllReadyH.nil
                          refine step_append_own rfl _ _ 27 rfl w.heap.size 38 i0 (.agg #[.string .empty, .slice none 0 0, .int .i64 0]) 3 48 Tryd.underlying27 hi hz0 hz1 hz2 rfl (by decide) u5 nl (flatL ls wvs) rfl HOa.out ⟨w3.heap.size, 0, none⟩ 1 1 [.string W0, .slice (some ⟨g3, o3, none⟩) 0 0, .int .i64 (k1 : Int)] (by rfl) rfl (cellR_new _ _ _ _) (oneL _ _ _ _ _) (by unfold maxLen; omega) (by omega) (by simp; omega) ?_
                          intro v' w5 hown' hgrow
                          have HW5 : Hid (WIn w5 (.slice (some ⟨g3, o3, none⟩) 1 1) (T.map wordV)) := (HWV.out.below HBa.out).keep (grow9 HOa.out hgrow)
                          have HL5 : Hid (WIn w5 (.slice (some ⟨g, 0, none⟩) n cL) LS) := (HL3.out.below HBa.out).keep (grow9 HOa.out hgrow)
                          have HB5 : Hid (Below w.heap.size w w5) := (HBW3.out.trans (HBa.out.mono hsz3)).grown hgrow (by simp; omega) (fun k hk => (World.ownsRow.lt HO1r.out k hk).1)
                          have HP5 : Hid (RLines w5 w.heap.size v' (ls ++ [(t0.2, (T.map (·.2)).drop 1, k1)])) := by
                            refine RLines.push (by rw [← HNL.out]; exact HOa.out) HO2r.out (fun i hi => (HO3r.out i hi).below HBa.out) (l := (t0.2, (T.map (·.2)).drop 1, k1)) (wv := .slice (some ⟨g3, o3, none⟩) 0 0) ?_ ?_ hgrow
                            · show WIn _ _ (((T.map (·.2)).drop 1).map mkB)
                              rw [HDR.out, HM1.out.1]
                              exact (HTL.out).below HBa.out
                            · rw [← HNL.out]
                              show w5.ownsRow w.heap.size 38 3 v' (nl + 1) (flatL ls wvs ++ [strV t0.2, _, _])
                              rw [← hVS.out]
                              exact hown'
                          have HC5 : Hid (w5.cell? ⟨g3, o3, none⟩ = some (.string W0)) := by
                            have h := HW5.out
                            rw [HTR.out] at h
                            have := h.fst
                            rw [HWO.out] at this
                            exact this
                          obtain ⟨na, nc, hv'⟩ := isSlice_of hown'
                          subst hv'
                          refine hK.out _ _ HC5.out (fun hHeld => ?_)
                          clear hK K hgrow hown' HW5
                          change wpAnyH _ _ _ _ _ _ _ (⟨#[_, _, _, _, _, _, _, _, _, _, _, _, _, _, _, _, _, _, _, _, _, _, _, _, _, _, _, _, _, _, _, _, _, _, _, _, _, _, _, _, _, _, _, _, _, _, _, _, _, _, _, _, _, _, _, _, _, _, _, _, _, _, _, _, _, _, _, _, _, _, _, _, _, _, _, _, _, _, _, _, _, _, _, _, _, _, _, _, _, _, _, _, _, _, _, _, _, _, _, _, _, _, _, _, _, _, _, _, _, _, _, _, _, _, _, _, _, _, _, _, _, _, _], _⟩ : Act) _
                          refine wpAnyH_take (i := 11) (v := ?_) rfl (by kernel_rfl) (by kernel_rfl) (by kernel_rfl) (fun _ _ _ h => h) (Or.inl ⟨by kernel_rfl, ?_⟩) (by assumption) ?_
                          rotate_left
                          · intro w hSw
                            clear hSw
                            go_simp
                            try with_reducible rfl
                          change wpAnyH _ _ _ _ _ _ _ (⟨#[_, _, _, _, _, _, _, _, _, _, _, _, _, _, _, _, _, _, _, _, _, _, _, _, _, _, _, _, _, _, _, _, _, _, _, _, _, _, _, _, _, _, _, _, _, _, _, _, _, _, _, _, _, _, _, _, _, _, _, _, _, _, _, _, _, _, _, _, _, _, _, _, _, _, _, _, _, _, _, _, _, _, _, _, _, _, _, _, _, _, _, _, _, _, _, _, _, _, _, _, _, _, _, _, _, _, _, _, _, _, _, _, _, _, _, _, _, _, _, _, _, _, _], _⟩ : Act) _
                          refine wpAnyH_done (by kernel_rfl) ?_ _
                          refine NoPanic.normal ?_
                          go_wp2_with fail
                          go_roundw
                          case rel => exact ⟨k1, [], V, false, ls ++ [(t0.2, (T.map (·.2)).drop 1, k1)], by omega, by go_num, rfl, rfl, by simp, fun h => absurd rfl h, by simp; rw [← HNL.out]; omega, HP5.out, HL5.out, HB5.out, HNX.out⟩
                          case measure => (show n - ((k1 : Int)).toNat < n - ((k : Int)).toNat); omega
                        · obtain ⟨c1, hc1e⟩ : ∃ c1, c3 = c1 + 1 := ⟨c3 - 1, by omega⟩
                          have r4 : (c3 : Int) - 1 = (c1 : Int) := by omega
                          have r5 : c3 - 1 = c1 := by omega
                          rw [r5] at HWT2
                          have hc1p : 0 < c1 := by omega
                          have HC1 := hidM hc1e
                          have r6 : nT - 1 = m1 := by have := HMM.out; omega
                          clear hc1e
                          refine wp_region_held_drew (S := (fun w' => w'.cell? ⟨g3, o3, none⟩ = some (.string W0))) (by kernel_rfl) hx0 (fun hHeld => ?_)
                          refine wpAnyH_take (i := 0) (v := ?_) rfl (by kernel_rfl) (by kernel_rfl) (by kernel_rfl) (fun _ _ _ h => h) (Or.inl ⟨by kernel_rfl, ?_⟩) (by assumption) ?_
                          rotate_left
                          · intro w hSw
                            clear hSw
                            go_simp
                            try with_reducible rfl
                          change wpAnyH _ _ _ _ _ _ _ (⟨#[_, _, _, _, _, _, _, _, _, _, _, _, _, _, _, _, _, _, _, _, _, _, _, _, _, _, _, _, _, _, _, _, _, _, _, _, _, _, _, _, _, _, _, _, _, _, _, _, _, _, _, _, _, _, _, _, _, _, _, _, _, _, _, _, _, _, _, _, _, _, _, _, _, _, _, _, _, _, _, _, _, _, _, _, _, _, _, _, _, _, _, _, _, _, _, _, _, _, _, _, _, _, _, _, _, _, _, _, _, _, _, _, _, _, _, _, _, _, _, _, _, _, _], _⟩ : Act) _
                          refine wpAnyH_take (i := 1) (v := ?_) rfl (by kernel_rfl) (by kernel_rfl) (by kernel_rfl) (fun _ _ _ h => h) (Or.inl ⟨by kernel_rfl, ?_⟩) (by assumption) ?_
                          rotate_left
                          · intro w hSw
                            clear hSw
                            go_simp
                            try with_reducible rfl
                          change wpAnyH _ _ _ _ _ _ _ (⟨#[_, _, _, _, _, _, _, _, _, _, _, _, _, _, _, _, _, _, _, _, _, _, _, _, _, _, _, _, _, _, _, _, _, _, _, _, _, _, _, _, _, _, _, _, _, _, _, _, _, _, _, _, _, _, _, _, _, _, _, _, _, _, _, _, _, _, _, _, _, _, _, _, _, _, _, _, _, _, _, _, _, _, _, _, _, _, _, _, _, _, _, _, _, _, _, _, _, _, _, _, _, _, _, _, _, _, _, _, _, _, _, _, _, _, _, _, _, _, _, _, _, _, _], _⟩ : Act) _
                          refine wpAnyH_take (i := 2) (v := ?_) rfl (by kernel_rfl) (by kernel_rfl) (by kernel_rfl) (fun _ _ _ h => h) (Or.inl ⟨by kernel_rfl, ?_⟩) (by assumption) ?_
                          rotate_left
                          · intro w hSw
                            clear hSw
                            go_simp
                            try with_reducible rfl
                          change wpAnyH _ _ _ _ _ _ _ (⟨#[_, _, _, _, _, _, _, _, _, _, _, _, _, _, _, _, _, _, _, _, _, _, _, _, _, _, _, _, _, _, _, _, _, _, _, _, _, _, _, _, _, _, _, _, _, _, _, _, _, _, _, _, _, _, _, _, _, _, _, _, _, _, _, _, _, _, _, _, _, _, _, _, _, _, _, _, _, _, _, _, _, _, _, _, _, _, _, _, _, _, _, _, _, _, _, _, _, _, _, _, _, _, _, _, _, _, _, _, _, _, _, _, _, _, _, _, _, _, _, _, _, _, _], _⟩ : Act) _
                          refine wpAnyH_take (i := 3) (v := ?_) rfl (by kernel_rfl) (by kernel_rfl) (by kernel_rfl) (fun _ _ _ h => h) (Or.inl ⟨by kernel_rfl, ?_⟩) (by assumption) ?_
                          rotate_left
                          · intro w hSw
                            skip
                            go_simp
                            try with_reducible rfl
                          change wpAnyH _ _ _ _ _ _ _ (⟨#[_, _, _, _, _, _, _, _, _, _, _, _, _, _, _, _, _, _, _, _, _, _, _, _, _, _, _, _, _, _, _, _, _, _, _, _, _, _, _, _, _, _, _, _, _, _, _, _, _, _, _, _, _, _, _, _, _, _, _, _, _, _, _, _, _, _, _, _, _, _, _, _, _, _, _, _, _, _, _, _, _, _, _, _, _, _, _, _, _, _, _, _, _, _, _, _, _, _, _, _, _, _, _, _, _, _, _, _, _, _, _, _, _, _, _, _, _, _, _, _, _, _, _], _⟩ : Act) _
                          refine wpAnyH_take (i := 4) (v := ?_) rfl (by kernel_rfl) (by kernel_rfl) (by kernel_rfl) (fun _ _ _ h => h) (Or.inl ⟨by kernel_rfl, ?_⟩) (by assumption) ?_
                          rotate_left
                          · intro w hSw
                            clear hSw
                            go_simp
                            try with_reducible rfl
                          change wpAnyH _ _ _ _ _ _ _ (⟨#[_, _, _, _, _, _, _, _, _, _, _, _, _, _, _, _, _, _, _, _, _, _, _, _, _, _, _, _, _, _, _, _, _, _, _, _, _, _, _, _, _, _, _, _, _, _, _, _, _, _, _, _, _, _, _, _, _, _, _, _, _, _, _, _, _, _, _, _, _, _, _, _, _, _, _, _, _, _, _, _, _, _, _, _, _, _, _, _, _, _, _, _, _, _, _, _, _, _, _, _, _, _, _, _, _, _, _, _, _, _, _, _, _, _, _, _, _, _, _, _, _, _, _], _⟩ : Act) _
                          refine wpAnyH_take (i := 5) (v := ?_) rfl (by kernel_rfl) (by kernel_rfl) (by kernel_rfl) (fun _ _ _ h => h) (Or.inl ⟨by kernel_rfl, ?_⟩) (by assumption) ?_
                          rotate_left
                          · intro w hSw
                            clear hSw
                            go_simp
                            try with_reducible rfl
                          change wpAnyH _ _ _ _ _ _ _ (⟨#[_, _, _, _, _, _, _, _, _, _, _, _, _, _, _, _, _, _, _, _, _, _, _, _, _, _, _, _, _, _, _, _, _, _, _, _, _, _, _, _, _, _, _, _, _, _, _, _, _, _, _, _, _, _, _, _, _, _, _, _, _, _, _, _, _, _, _, _, _, _, _, _, _, _, _, _, _, _, _, _, _, _, _, _, _, _, _, _, _, _, _, _, _, _, _, _, _, _, _, _, _, _, _, _, _, _, _, _, _, _, _, _, _, _, _, _, _, _, _, _, _, _, _], _⟩ : Act) _
                          refine wpAnyH_take (i := 6) (v := ?_) rfl (by kernel_rfl) (by kernel_rfl) (by kernel_rfl) (fun _ _ _ h => h) (Or.inl ⟨by kernel_rfl, ?_⟩) (by assumption) ?_
                          rotate_left
                          · intro w hSw
                            clear hSw
                            go_simp
                            try with_reducible rfl
                          change wpAnyH _ _ _ _ _ _ _ (⟨#[_, _, _, _, _, _, _, _, _, _, _, _, _, _, _, _, _, _, _, _, _, _, _, _, _, _, _, _, _, _, _, _, _, _, _, _, _, _, _, _, _, _, _, _, _, _, _, _, _, _, _, _, _, _, _, _, _, _, _, _, _, _, _, _, _, _, _, _, _, _, _, _, _, _, _, _, _, _, _, _, _, _, _, _, _, _, _, _, _, _, _, _, _, _, _, _, _, _, _, _, _, _, _, _, _, _, _, _, _, _, _, _, _, _, _, _, _, _, _, _, _, _, _], _⟩ : Act) _
                          refine wpAnyH_take (i := 7) (v := ?_) rfl (by kernel_rfl) (by kernel_rfl) (by kernel_rfl) (fun _ _ _ h => h) (Or.inl ⟨by kernel_rfl, ?_⟩) (by assumption) ?_
                          rotate_left
                          · intro w hSw
                            clear hSw
                            go_simp
                            try with_reducible rfl
                          change wpAnyH _ _ _ _ _ _ _ (⟨#[_, _, _, _, _, _, _, _, _, _, _, _, _, _, _, _, _, _, _, _, _, _, _, _, _, _, _, _, _, _, _, _, _, _, _, _, _, _, _, _, _, _, _, _, _, _, _, _, _, _, _, _, _, _, _, _, _, _, _, _, _, _, _, _, _, _, _, _, _, _, _, _, _, _, _, _, _, _, _, _, _, _, _, _, _, _, _, _, _, _, _, _, _, _, _, _, _, _, _, _, _, _, _, _, _, _, _, _, _, _, _, _, _, _, _, _, _, _, _, _, _, _, _], _⟩ : Act) _
                          refine wpAnyH_take (i := 8) (v := ?_) rfl (by kernel_rfl) (by kernel_rfl) (by kernel_rfl) (fun _ _ _ h => h) (Or.inl ⟨by kernel_rfl, ?_⟩) (by assumption) ?_
                          rotate_left
                          · intro w hSw
                            clear hSw
                            go_simp
                            try with_reducible rfl
                          change wpAnyH _ _ _ _ _ _ _ (⟨#[_, _, _, _, _, _, _, _, _, _, _, _, _, _, _, _, _, _, _, _, _, _, _, _, _, _, _, _, _, _, _, _, _, _, _, _, _, _, _, _, _, _, _, _, _, _, _, _, _, _, _, _, _, _, _, _, _, _, _, _, _, _, _, _, _, _, _, _, _, _, _, _, _, _, _, _, _, _, _, _, _, _, _, _, _, _, _, _, _, _, _, _, _, _, _, _, _, _, _, _, _, _, _, _, _, _, _, _, _, _, _, _, _, _, _, _, _, _, _, _, _, _, _], _⟩ : Act) _
                          refine wpAnyH_ready (rs := [9]) (by kernel_rfl) (by simp) ?_
                          refine AllReadyH.cons rfl (fun K hK => ?_) AllReadyH.nil
                          go_simp
                          have HBa : Hid (Below w3.heap.size w3 (w3.alloc (.cells #[.string W0, .slice (some ⟨g3, o3 + 1, none⟩) m1 c1, .int .i64 (k1 : Int)] 38)).drew) := below_dn ((Below.refl _ w3).alloc (Nat.le_refl _) _) 1
                          have HOa : Hid ((w3.alloc (.cells #[.string W0, .slice (some ⟨g3, o3 + 1, none⟩) m1 c1, .int .i64 (k1 : Int)] 38)).drew.ownsRow w.heap.size 38 3 u5 nl (flatL ls wvs)) := (World.ownsRow.alloc HO1r.out _).drew
                          refine hK.out _ _ ((HBa.out.cell (p := ⟨g3, o3, none⟩) hg3).trans hx0) (fun hHeld => ?_)
                          clear hK K
                          change wpAnyH _ _ _ _ _ _ _ (⟨#[_, _, _, _, _, _, _, _, _, _, _, _, _, _, _, _, _, _, _, _, _, _, _, _, _, _, _, _, _, _, _, _, _, _, _, _, _, _, _, _, _, _, _, _, _, _, _, _, _, _, _, _, _, _, _, _, _, _, _, _, _, _, _, _, _, _, _, _, _, _, _, _, _, _, _, _, _, _, _, _, _, _, _, _, _, _, _, _, _, _, _, _, _, _, _, _, _, _, _, _, _, _, _, _, _, _, _, _, _, _, _, _, _, _, _, _, _, _, _, _, _, _, _], _⟩ : Act) _
                          refine wpAnyH_ready (rs := [10]) (by kernel_rfl) (by simp) ?_
                          refine AllReadyH.cons rfl (fun K hK => ?_) AllReadyH.nil
                          refine step_append_own rfl _ _ 27 rfl w.heap.size 38 i0 (.agg #[.string .empty, .slice none 0 0, .int .i64 0]) 3 48 Tryd.underlying27 hi hz0 hz1 hz2 rfl (by decide) u5 nl (flatL ls wvs) rfl HOa.out ⟨w3.heap.size, 0, none⟩ 1 1 [.string W0, .slice (some ⟨g3, o3 + 1, none⟩) m1 c1, .int .i64 (k1 : Int)] (by rfl) rfl (cellR_new _ _ _ _) (oneL _ _ _ _ _) (by unfold maxLen; omega) (by omega) (by simp; omega) ?_
                          intro v' w5 hown' hgrow
                          have HW5 : Hid (WIn w5 (.slice (some ⟨g3, o3, none⟩) nT c3) (T.map wordV)) := (HWV.out.below HBa.out).keep (grow9 HOa.out hgrow)
                          have HL5 : Hid (WIn w5 (.slice (some ⟨g, 0, none⟩) n cL) LS) := (HL3.out.below HBa.out).keep (grow9 HOa.out hgrow)
                          have HB5 : Hid (Below w.heap.size w w5) := (HBW3.out.trans (HBa.out.mono hsz3)).grown hgrow (by simp; omega) (fun k hk => (World.ownsRow.lt HO1r.out k hk).1)
                          have HP5 : Hid (RLines w5 w.heap.size v' (ls ++ [(t0.2, (T.map (·.2)).drop 1, k1)])) := by
                            refine RLines.push (by rw [← HNL.out]; exact HOa.out) HO2r.out (fun i hi => (HO3r.out i hi).below HBa.out) (l := (t0.2, (T.map (·.2)).drop 1, k1)) (wv := .slice (some ⟨g3, o3 + 1, none⟩) m1 c1) ?_ ?_ hgrow
                            · show WIn _ _ (((T.map (·.2)).drop 1).map mkB)
                              rw [HDR.out, HM1.out.1]
                              exact (HWT2.out).below HBa.out
                            · rw [← HNL.out]
                              show w5.ownsRow w.heap.size 38 3 v' (nl + 1) (flatL ls wvs ++ [strV t0.2, _, _])
                              rw [← hVS.out]
                              exact hown'
                          have HC5 : Hid (w5.cell? ⟨g3, o3, none⟩ = some (.string W0)) := by
                            have h := HW5.out
                            rw [HTR.out] at h
                            have := h.fst
                            rw [HWO.out] at this
                            exact this
                          obtain ⟨na, nc, hv'⟩ := isSlice_of hown'
                          subst hv'
                          refine hK.out _ _ HC5.out (fun hHeld => ?_)
                          clear hK K hgrow hown' HW5
                          change wpAnyH _ _ _ _ _ _ _ (⟨#[_, _, _, _, _, _, _, _, _, _, _, _, _, _, _, _, _, _, _, _, _, _, _, _, _, _, _, _, _, _, _, _, _, _, _, _, _, _, _, _, _, _, _, _, _, _, _, _, _, _, _, _, _, _, _, _, _, _, _, _, _, _, _, _, _, _, _, _, _, _, _, _, _, _, _, _, _, _, _, _, _, _, _, _, _, _, _, _, _, _, _, _, _, _, _, _, _, _, _, _, _, _, _, _, _, _, _, _, _, _, _, _, _, _, _, _, _, _, _, _, _, _, _], _⟩ : Act) _
                          refine wpAnyH_take (i := 11) (v := ?_) rfl (by kernel_rfl) (by kernel_rfl) (by kernel_rfl) (fun _ _ _ h => h) (Or.inl ⟨by kernel_rfl, ?_⟩) (by assumption) ?_
                          rotate_left
                          · intro w hSw
                            clear hSw
                            go_simp
                            try with_reducible rfl
                          change wpAnyH _ _ _ _ _ _ _ (⟨#[_, _, _, _, _, _, _, _, _, _, _, _, _, _, _, _, _, _, _, _, _, _, _, _, _, _, _, _, _, _, _, _, _, _, _, _, _, _, _, _, _, _, _, _, _, _, _, _, _, _, _, _, _, _, _, _, _, _, _, _, _, _, _, _, _, _, _, _, _, _, _, _, _, _, _, _, _, _, _, _, _, _, _, _, _, _, _, _, _, _, _, _, _, _, _, _, _, _, _, _, _, _, _, _, _, _, _, _, _, _, _, _, _, _, _, _, _, _, _, _, _, _, _], _⟩ : Act) _
                          refine wpAnyH_done (by kernel_rfl) ?_ _
                          refine NoPanic.normal ?_
                          go_wp2_with fail
                          go_roundw
                          case rel => exact ⟨k1, [], V, false, ls ++ [(t0.2, (T.map (·.2)).drop 1, k1)], by omega, by go_num, rfl, rfl, by simp, fun h => absurd rfl h, by simp; rw [← HNL.out]; omega, HP5.out, HL5.out, HB5.out, HNX.out⟩
                          case measure => (show n - ((k1 : Int)).toNat < n - ((k : Int)).toNat); omega
              · as_aux_lemma =>
                  have b40 : ((txtT T[1]).toList == [40]) = false := by
                    rw [hx1l]
                    rcases hk1 with h | h | h
                    · exact absurd h h13
                    · rw [if_neg (by omega), if_neg (by omega)]; rfl
                    · rw [if_pos h]; rfl
                  have hbk : ([] : List UInt8) = [] := rfl
                  clear hx0l hx1l hk0 hk1 hnT hn2 hc0
                  generalize txtT T[1] = X1 at *
                  have hg0' := hg0
                  have HWD := hidM (words_any g2 nT c2 T w2 HNT.out hTl HKD.out hg2 HC2.out)
                  unfold WordsPost at HWD
                  by_cases hany : T.any (fun t => t.1 != 5) = true
                  · simp only [hany, if_true] at HWD
                    have hdn : decT [] T (k + 1) = none := by
                      unfold decT
                      rw [if_neg hTn, if_neg (by rintro ⟨h1, _⟩; exact h1 rfl), if_neg (by rintro ⟨_, _, h1, _⟩; rw [hg1] at h1; exact h13 h1), if_pos hany]
                    have HRE := hidM (HBAD.out hdn)
                    clear hdn HNXT HBAD
                    go_wp2_with fail
                    refine HWD.out.mono ?_
                    rintro _ w3 ⟨hb3, rfl⟩
                    have HBW3 := hidM (HBW2.out.trans (hb3.mono HBW2.out.size))
                    clear hb3
                    go_wp2_with fail
                    go_ret3
                    exact HFIN.out _ _ _ _ _ HRE.out (rlines_nil _ _) HBW3.out _ (by push_cast; rfl)
                  · simp only [hany] at HWD
                    obtain ⟨t0, TR, hTR⟩ : ∃ t0 TR, T = t0 :: TR := by
                      cases T with
                      | nil => exact absurd rfl hTn
                      | cons a b => exact ⟨a, b, rfl⟩
                    have hg0 : T.getD 0 (0, []) = t0 := by rw [hTR]; rfl
                    have HTR := hidM hTR
                    clear hTR
                    go_wp2_with fail
                    refine HWD.out.mono ?_
                    rintro _ w3 ⟨hb3, v3, rfl, hown3⟩
                    have HWV := hidM hown3.win
                    have hne3 : T.map wordV ≠ [] := by rw [HTR.out]; simp
                    obtain ⟨g3, o3, c3, rfl, hg3, hc3, hcl3⟩ := HWV.out.cell hne3
                    have hm3 : (T.map wordV).length = nT := by rw [List.length_map]; exact HNT.out.symm
                    have hx0 := hcl3 0 (by rw [hm3]; omega)
                    have hx0' : (T.map wordV)[0]'(by rw [hm3]; omega) = wordV t0 := by simp [HTR.out]
                    rw [hx0', Nat.add_zero] at hx0
                    have r0 : (0 : Int) < (nT : Int) := by omega
                    rw [hm3] at HWV hc3
                    rw [hm3]
                    have HO3 := hidM (HO2.out.keep hb3)
                    have HL3 := hidM (HL2.out.below hb3)
                    have HBW3 := hidM (HBW2.out.trans (hb3.mono HBW2.out.size))
                    have hsz3 := HBW3.out.size
                    clear hown3 hb3 HWD HO2 HL2 hcl3 hx0' hm3 hne3
                    have HW0 : Hid ((wordV t0).data.toList = t0.2) := rfl
                    by_cases he0 : t0.2 = []
                    · have hdn : decT [] T (k + 1) = none := by
                        unfold decT
                        rw [if_neg hTn, if_neg (by rintro ⟨h1, _⟩; exact h1 rfl), if_neg (by rintro ⟨_, _, h1, _⟩; rw [hg1] at h1; exact h13 h1), if_neg hany, if_neg (by simp), if_pos (by rw [hg0]; exact he0)]
                      have b3 : (wordV t0).toList.isEmpty = true := by rw [Lib.toList_data, HW0.out, he0]; rfl
                      have HRE := hidM (HBAD.out hdn)
                      clear hdn he0 HNXT HBAD
                      generalize wordV t0 = W0 at *
                      go_wp2_with fail
                      go_ret3
                      exact HFIN.out _ _ _ _ _ HRE.out (rlines_nil _ _) HBW3.out _ (by push_cast; rfl)
                    · have hds : decT [] T (k + 1) = some ([], [(t0.2, (T.map (·.2)).drop 1, k + 1)]) := by
                        unfold decT
                        rw [if_neg hTn, if_neg (by rintro ⟨h1, _⟩; exact h1 rfl), if_neg (by rintro ⟨_, _, h1, _⟩; rw [hg1] at h1; exact h13 h1), if_neg hany, if_neg (by simp), if_neg (by rw [hg0]; exact he0), hg0]
                      have b3 : (wordV t0).toList.isEmpty = false := by
                        rw [Lib.toList_data, HW0.out]
                        cases h : t0.2 with
                        | nil => exact absurd h he0
                        | cons _ _ => rfl
                      have HNX := hidM (HNXT.out _ _ hds)
                      clear hds he0 HNXT HBAD
                      obtain ⟨wvs, o1, o2, o3r⟩ := HO3.out
                      have HO1r := hidM o1
                      have HO2r := hidM o2
                      have HO3r := hidM o3r
                      clear o1 o2 o3r HO3
                      obtain ⟨k1, hk1⟩ : ∃ k1, k1 = k + 1 := ⟨_, rfl⟩
                      have hk1i : (k : Int) + 1 = (k1 : Int) := by omega
                      rw [← hk1] at HNX
                      have HK1 := hidM hk1
                      have hk1b : k < k1 ∧ k1 ≤ n := by omega
                      clear hk1
                      have hVS : Hid ((.string (wordV t0) : Value) = strV t0.2) := rfl
                      obtain ⟨nl, hnl⟩ : ∃ n, n = ls.length := ⟨_, rfl⟩
                      have hnlb : nl ≤ k := by omega
                      rw [← hnl] at HO1r
                      have HNL := hidM hnl
                      clear hnl
                      obtain ⟨m1, hm1⟩ : ∃ m1, nT = m1 + 1 := ⟨nT - 1, by omega⟩
                      have HDR : Hid (((T.map (·.2)).drop 1).map mkB = (T.map wordV).drop 1) := by
                        unfold Hid
                        rw [List.map_drop, List.map_map]
                        rfl
                      have HM1 : Hid ((T.map wordV).drop 1 = TR.map wordV ∧ TR.length = m1) := by
                        refine ⟨by rw [HTR.out]; simp, ?_⟩
                        have := HNT.out
                        rw [HTR.out] at this
                        simp at this
                        omega
                      have r1 : (nT : Int) - 1 = (m1 : Int) := by omega
                      have r2 : (1 : Int) ≤ (nT : Int) := by omega
                      have r3 : (nT : Int) ≤ (c3 : Int) := by omega
                      have hwin1 : WIn w3 (.slice (some ⟨g3, o3, none⟩) (TR.length + 1) c3) (wordV t0 :: TR.map wordV) := by
                        have := HWV.out
                        rw [HTR.out] at this
                        rw [HM1.out.2, ← hm1]
                        exact this
                      have HWT : Hid (∀ a, TR = [] → WIn w3 (.slice a 0 0) (TR.map wordV)) := fun a h => by rw [h]; exact ⟨a, 0, rfl, fun h => absurd rfl h⟩
                      have HWT2 : Hid (WIn w3 (.slice (some ⟨g3, o3 + 1, none⟩) m1 (c3 - 1)) (TR.map wordV)) := by
                        have h2 := hwin1
                        rw [show TR.length + 1 = (TR.map wordV).length + 1 by simp] at h2
                        have := h2.tail
                        rw [List.length_map, HM1.out.2] at this
                        exact this
                      have HMM := hidM hm1
                      clear hwin1 hm1
                      generalize hWO : wordV t0 = W0 at *
                      have HWO := hidM hWO
                      clear hWO
                      have wrk1 : IntKind.i64.wrap (k1 : Int) = (k1 : Int) := wrap_i (by omega)
                      go_upto_region 18 with fail
                      by_cases hc1 : c3 = 1
                      · have hm0 : m1 = 0 := by have := HMM.out; omega
                        subst hm0
                        have hn1 : nT = 1 := HMM.out
                        have hTR0 : TR = [] := List.length_eq_zero_iff.1 HM1.out.2
                        have HTL := hidM (HWT.out (some ⟨g3, o3, none⟩) hTR0)
                        subst hc1
                        subst hn1
                        clear hTR0 HWT2 r1 r2 r3
                        refine wp_region_held_drew (S := (fun w' => w'.cell? ⟨g3, o3, none⟩ = some (.string W0))) (by kernel_rfl) hx0 (fun hHeld => ?_)
                        refine wpAnyH_take (i := 0) (v := ?_) rfl (by kernel_rfl) (by kernel_rfl) (by kernel_rfl) (fun _ _ _ h => h) (Or.inl ⟨by kernel_rfl, ?_⟩) (by assumption) ?_
                        rotate_left
                        · intro w hSw
                          clear hSw
                          go_simp
                          try with_reducible rfl
                        change wpAnyH _ _ _ _ _ _ _ (⟨#[_, _, _, _, _, _, _, _, _, _, _, _, _, _, _, _, _, _, _, _, _, _, _, _, _, _, _, _, _, _, _, _, _, _, _, _, _, _, _, _, _, _, _, _, _, _, _, _, _, _, _, _, _, _, _, _, _, _, _, _, _, _, _, _, _, _, _, _, _, _, _, _, _, _, _, _, _, _, _, _, _, _, _, _, _, _, _, _, _, _, _, _, _, _, _, _, _, _, _, _, _, _, _, _, _, _, _, _, _, _, _, _, _, _, _, _, _, _, _, _, _, _, _], _⟩ : Act) _
                        refine wpAnyH_take (i := 1) (v := ?_) rfl (by kernel_rfl) (by kernel_rfl) (by kernel_rfl) (fun _ _ _ h => h) (Or.inl ⟨by kernel_rfl, ?_⟩) (by assumption) ?_
                        rotate_left
                        · intro w hSw
                          clear hSw
                          go_simp
                          try with_reducible rfl
                        change wpAnyH _ _ _ _ _ _ _ (⟨#[_, _, _, _, _, _, _, _, _, _, _, _, _, _, _, _, _, _, _, _, _, _, _, _, _, _, _, _, _, _, _, _, _, _, _, _, _, _, _, _, _, _, _, _, _, _, _, _, _, _, _, _, _, _, _, _, _, _, _, _, _, _, _, _, _, _, _, _, _, _, _, _, _, _, _, _, _, _, _, _, _, _, _, _, _, _, _, _, _, _, _, _, _, _, _, _, _, _, _, _, _, _, _, _, _, _, _, _, _, _, _, _, _, _, _, _, _, _, _, _, _, _, _], _⟩ : Act) _
                        refine wpAnyH_take (i := 2) (v := ?_) rfl (by kernel_rfl) (by kernel_rfl) (by kernel_rfl) (fun _ _ _ h => h) (Or.inl ⟨by kernel_rfl, ?_⟩) (by assumption) ?_
                        rotate_left
                        · intro w hSw
                          clear hSw
                          go_simp
                          try with_reducible rfl
                        change wpAnyH _ _ _ _ _ _ _ (⟨#[_, _, _, _, _, _, _, _, _, _, _, _, _, _, _, _, _, _, _, _, _, _, _, _, _, _, _, _, _, _, _, _, _, _, _, _, _, _, _, _, _, _, _, _, _, _, _, _, _, _, _, _, _, _, _, _, _, _, _, _, _, _, _, _, _, _, _, _, _, _, _, _, _, _, _, _, _, _, _, _, _, _, _, _, _, _, _, _, _, _, _, _, _, _, _, _, _, _, _, _, _, _, _, _, _, _, _, _, _, _, _, _, _, _, _, _, _, _, _, _, _, _, _], _⟩ : Act) _
                        refine wpAnyH_take (i := 3) (v := ?_) rfl (by kernel_rfl) (by kernel_rfl) (by kernel_rfl) (fun _ _ _ h => h) (Or.inl ⟨by kernel_rfl, ?_⟩) (by assumption) ?_
                        rotate_left
                        · intro w hSw
                          skip
                          go_simp
                          try with_reducible rfl
                        change wpAnyH _ _ _ _ _ _ _ (⟨#[_, _, _, _, _, _, _, _, _, _, _, _, _, _, _, _, _, _, _, _, _, _, _, _, _, _, _, _, _, _, _, _, _, _, _, _, _, _, _, _, _, _, _, _, _, _, _, _, _, _, _, _, _, _, _, _, _, _, _, _, _, _, _, _, _, _, _, _, _, _, _, _, _, _, _, _, _, _, _, _, _, _, _, _, _, _, _, _, _, _, _, _, _, _, _, _, _, _, _, _, _, _, _, _, _, _, _, _, _, _, _, _, _, _, _, _, _, _, _, _, _, _, _], _⟩ : Act) _
                        refine wpAnyH_take (i := 4) (v := ?_) rfl (by kernel_rfl) (by kernel_rfl) (by kernel_rfl) (fun _ _ _ h => h) (Or.inl ⟨by kernel_rfl, ?_⟩) (by assumption) ?_
                        rotate_left
                        · intro w hSw
                          clear hSw
                          go_simp
                          try with_reducible rfl
                        change wpAnyH _ _ _ _ _ _ _ (⟨#[_, _, _, _, _, _, _, _, _, _, _, _, _, _, _, _, _, _, _, _, _, _, _, _, _, _, _, _, _, _, _, _, _, _, _, _, _, _, _, _, _, _, _, _, _, _, _, _, _, _, _, _, _, _, _, _, _, _, _, _, _, _, _, _, _, _, _, _, _, _, _, _, _, _, _, _, _, _, _, _, _, _, _, _, _, _, _, _, _, _, _, _, _, _, _, _, _, _, _, _, _, _, _, _, _, _, _, _, _, _, _, _, _, _, _, _, _, _, _, _, _, _, _], _⟩ : Act) _
                        refine wpAnyH_take (i := 5) (v := ?_) rfl (by kernel_rfl) (by kernel_rfl) (by kernel_rfl) (fun _ _ _ h => h) (Or.inl ⟨by kernel_rfl, ?_⟩) (by assumption) ?_
                        rotate_left
                        · intro w hSw
                          clear hSw
                          go_simp
                          try with_reducible rfl
                        change wpAnyH _ _ _ _ _ _ _ (⟨#[_, _, _, _, _, _, _, _, _, _, _, _, _, _, _, _, _, _, _, _, _, _, _, _, _, _, _, _, _, _, _, _, _, _, _, _, _, _, _, _, _, _, _, _, _, _, _, _, _, _, _, _, _, _, _, _, _, _, _, _, _, _, _, _, _, _, _, _, _, _, _, _, _, _, _, _, _, _, _, _, _, _, _, _, _, _, _, _, _, _, _, _, _, _, _, _, _, _, _, _, _, _, _, _, _, _, _, _, _, _, _, _, _, _, _, _, _, _, _, _, _, _, _], _⟩ : Act) _
                        refine wpAnyH_take (i := 6) (v := ?_) rfl (by kernel_rfl) (by kernel_rfl) (by kernel_rfl) (fun _ _ _ h => h) (Or.inl ⟨by kernel_rfl, ?_⟩) (by assumption) ?_
                        rotate_left
                        · intro w hSw
                          clear hSw
                          go_simp
                          try with_reducible rfl
                        change wpAnyH _ _ _ _ _ _ _ (⟨#[_, _, _, _, _, _, _, _, _, _, _, _, _, _, _, _, _, _, _, _, _, _, _, _, _, _, _, _, _, _, _, _, _, _, _, _, _, _, _, _, _, _, _, _, _, _, _, _, _, _, _, _, _, _, _, _, _, _, _, _, _, _, _, _, _, _, _, _, _, _, _, _, _, _, _, _, _, _, _, _, _, _, _, _, _, _, _, _, _, _, _, _, _, _, _, _, _, _, _, _, _, _, _, _, _, _, _, _, _, _, _, _, _, _, _, _, _, _, _, _, _, _, _], _⟩ : Act) _
                        refine wpAnyH_take (i := 7) (v := ?_) rfl (by kernel_rfl) (by kernel_rfl) (by kernel_rfl) (fun _ _ _ h => h) (Or.inl ⟨by kernel_rfl, ?_⟩) (by assumption) ?_
                        rotate_left
                        · intro w hSw
                          clear hSw
                          go_simp
                          try with_reducible rfl
                        change wpAnyH _ _ _ _ _ _ _ (⟨#[_, _, _, _, _, _, _, _, _, _, _, _, _, _, _, _, _, _, _, _, _, _, _, _, _, _, _, _, _, _, _, _, _, _, _, _, _, _, _, _, _, _, _, _, _, _, _, _, _, _, _, _, _, _, _, _, _, _, _, _, _, _, _, _, _, _, _, _, _, _, _, _, _, _, _, _, _, _, _, _, _, _, _, _, _, _, _, _, _, _, _, _, _, _, _, _, _, _, _, _, _, _, _, _, _, _, _, _, _, _, _, _, _, _, _, _, _, _, _, _, _, _, _], _⟩ : Act) _
                        refine wpAnyH_take (i := 8) (v := ?_) rfl (by kernel_rfl) (by kernel_rfl) (by kernel_rfl) (fun _ _ _ h => h) (Or.inl ⟨by kernel_rfl, ?_⟩) (by assumption) ?_
                        rotate_left
                        · intro w hSw
                          clear hSw
                          go_simp
                          try with_reducible rfl
                        change wpAnyH _ _ _ _ _ _ _ (⟨#[_, _, _, _, _, _, _, _, _, _, _, _, _, _, _, _, _, _, _, _, _, _, _, _, _, _, _, _, _, _, _, _, _, _, _, _, _, _, _, _, _, _, _, _, _, _, _, _, _, _, _, _, _, _, _, _, _, _, _, _, _, _, _, _, _, _, _, _, _, _, _, _, _, _, _, _, _, _, _, _, _, _, _, _, _, _, _, _, _, _, _, _, _, _, _, _, _, _, _, _, _, _, _, _, _, _, _, _, _, _, _, _, _, _, _, _, _, _, _, _, _, _, _], _⟩ : Act) _
                        refine wpAnyH_ready (rs := [9]) (by kernel_rfl) (by simp) ?_
                        refine AllReadyH.cons rfl (fun K hK => ?_) AllReadyH.nil
                        go_simp
                        have HBa : Hid (Below w3.heap.size w3 (w3.alloc (.cells #[.string W0, .slice (some ⟨g3, o3, none⟩) 0 0, .int .i64 (k1 : Int)] 38)).drew) := below_dn ((Below.refl _ w3).alloc (Nat.le_refl _) _) 1
                        have HOa : Hid ((w3.alloc (.cells #[.string W0, .slice (some ⟨g3, o3, none⟩) 0 0, .int .i64 (k1 : Int)] 38)).drew.ownsRow w.heap.size 38 3 u5 nl (flatL ls wvs)) := (World.ownsRow.alloc HO1r.out _).drew
                        refine hK.out _ _ ((HBa.out.cell (p := ⟨g3, o3, none⟩) hg3).trans hx0) (fun hHeld => ?_)
                        clear hK K
                        change wpAnyH _ _ _ _ _ _ _ (⟨#[_, _, _, _, _, _, _, _, _, _, _, _, _, _, _, _, _, _, _, _, _, _, _, _, _, _, _, _, _, _, _, _, _, _, _, _, _, _, _, _, _, _, _, _, _, _, _, _, _, _, _, _, _, _, _, _, _, _, _, _, _, _, _, _, _, _, _, _, _, _, _, _, _, _, _, _, _, _, _, _, _, _, _, _, _, _, _, _, _, _, _, _, _, _, _, _, _, _, _, _, _, _, _, _, _, _, _, _, _, _, _, _, _, _, _, _, _, _, _, _, _, _, _], _⟩ : Act) _
                        refine wpAnyH_ready (rs := [10]) (by kernel_rfl) (by simp) ?_
                        refine AllReadyH.cons rfl (fun K hK => ?_) AllReadyH.nil
                        refine step_append_own rfl _ _ 27 rfl w.heap.size 38 i0 (.agg #[.string .empty, .slice none 0 0, .int .i64 0]) 3 48 Tryd.underlying27 hi hz0 hz1 hz2 rfl (by decide) u5 nl (flatL ls wvs) rfl HOa.out ⟨w3.heap.size, 0, none⟩ 1 1 [.string W0, .slice (some ⟨g3, o3, none⟩) 0 0, .int .i64 (k1 : Int)] (by rfl) rfl (cellR_new _ _ _ _) (oneL _ _ _ _ _) (by unfold maxLen; omega) (by omega) (by simp; omega) ?_
                        intro v' w5 hown' hgrow
                        have HW5 : Hid (WIn w5 (.slice (some ⟨g3, o3, none⟩) 1 1) (T.map wordV)) := (HWV.out.below HBa.out).keep (grow9 HOa.out hgrow)
                        have HL5 : Hid (WIn w5 (.slice (some ⟨g, 0, none⟩) n cL) LS) := (HL3.out.below HBa.out).keep (grow9 HOa.out hgrow)
                        have HB5 : Hid (Below w.heap.size w w5) := (HBW3.out.trans (HBa.out.mono hsz3)).grown hgrow (by simp; omega) (fun k hk => (World.ownsRow.lt HO1r.out k hk).1)
                        have HP5 : Hid (RLines w5 w.heap.size v' (ls ++ [(t0.2, (T.map (·.2)).drop 1, k1)])) := by
                          refine RLines.push (by rw [← HNL.out]; exact HOa.out) HO2r.out (fun i hi => (HO3r.out i hi).below HBa.out) (l := (t0.2, (T.map (·.2)).drop 1, k1)) (wv := .slice (some ⟨g3, o3, none⟩) 0 0) ?_ ?_ hgrow
                          · show WIn _ _ (((T.map (·.2)).drop 1).map mkB)
                            rw [HDR.out, HM1.out.1]
                            exact (HTL.out).below HBa.out
                          · rw [← HNL.out]
                            show w5.ownsRow w.heap.size 38 3 v' (nl + 1) (flatL ls wvs ++ [strV t0.2, _, _])
                            rw [← hVS.out]
                            exact hown'
                        have HC5 : Hid (w5.cell? ⟨g3, o3, none⟩ = some (.string W0)) := by
                          have h := HW5.out
                          rw [HTR.out] at h
                          have := h.fst
                          rw [HWO.out] at this
                          exact this
                        obtain ⟨na, nc, hv'⟩ := isSlice_of hown'
                        subst hv'
                        refine hK.out _ _ HC5.out (fun hHeld => ?_)
                        clear hK K hgrow hown' HW5
                        change wpAnyH _ _ _ _ _ _ _ (⟨#[_, _, _, _, _, _, _, _, _, _, _, _, _, _, _, _, _, _, _, _, _, _, _, _, _, _, _, _, _, _, _, _, _, _, _, _, _, _, _, _, _, _, _, _, _, _, _, _, _, _, _, _, _, _, _, _, _, _, _, _, _, _, _, _, _, _, _, _, _, _, _, _, _, _, _, _, _, _, _, _, _, _, _, _, _, _, _, _, _, _, _, _, _, _, _, _, _, _, _, _, _, _, _, _, _, _, _, _, _, _, _, _, _, _, _, _, _, _, _, _, _, _, _], _⟩ : Act) _
                        refine wpAnyH_take (i := 11) (v := ?_) rfl (by kernel_rfl) (by kernel_rfl) (by kernel_rfl) (fun _ _ _ h => h) (Or.inl ⟨by kernel_rfl, ?_⟩) (by assumption) ?_
                        rotate_left
                        · intro w hSw
                          clear hSw
                          go_simp
                          try with_reducible rfl
                        change wpAnyH _ _ _ _ _ _ _ (⟨#[_, _, _, _, _, _, _, _, _, _, _, _, _, _, _, _, _, _, _, _, _, _, _, _, _, _, _, _, _, _, _, _, _, _, _, _, _, _, _, _, _, _, _, _, _, _, _, _, _, _, _, _, _, _, _, _, _, _, _, _, _, _, _, _, _, _, _, _, _, _, _, _, _, _, _, _, _, _, _, _, _, _, _, _, _, _, _, _, _, _, _, _, _, _, _, _, _, _, _, _, _, _, _, _, _, _, _, _, _, _, _, _, _, _, _, _, _, _, _, _, _, _, _], _⟩ : Act) _
                        refine wpAnyH_done (by kernel_rfl) ?_ _
                        refine NoPanic.normal ?_
                        go_wp2_with fail
                        go_roundw
                        case rel => exact ⟨k1, [], V, false, ls ++ [(t0.2, (T.map (·.2)).drop 1, k1)], by omega, by go_num, rfl, rfl, by simp, fun h => absurd rfl h, by simp; rw [← HNL.out]; omega, HP5.out, HL5.out, HB5.out, HNX.out⟩
                        case measure => (show n - ((k1 : Int)).toNat < n - ((k : Int)).toNat); omega
                      · obtain ⟨c1, hc1e⟩ : ∃ c1, c3 = c1 + 1 := ⟨c3 - 1, by omega⟩
                        have r4 : (c3 : Int) - 1 = (c1 : Int) := by omega
                        have r5 : c3 - 1 = c1 := by omega
                        rw [r5] at HWT2
                        have hc1p : 0 < c1 := by omega
                        have HC1 := hidM hc1e
                        have r6 : nT - 1 = m1 := by have := HMM.out; omega
                        clear hc1e
                        refine wp_region_held_drew (S := (fun w' => w'.cell? ⟨g3, o3, none⟩ = some (.string W0))) (by kernel_rfl) hx0 (fun hHeld => ?_)
                        refine wpAnyH_take (i := 0) (v := ?_) rfl (by kernel_rfl) (by kernel_rfl) (by kernel_rfl) (fun _ _ _ h => h) (Or.inl ⟨by kernel_rfl, ?_⟩) (by assumption) ?_
                        rotate_left
                        · intro w hSw
                          clear hSw
                          go_simp
                          try with_reducible rfl
                        change wpAnyH _ _ _ _ _ _ _ (⟨#[_, _, _, _, _, _, _, _, _, _, _, _, _, _, _, _, _, _, _, _, _, _, _, _, _, _, _, _, _, _, _, _, _, _, _, _, _, _, _, _, _, _, _, _, _, _, _, _, _, _, _, _, _, _, _, _, _, _, _, _, _, _, _, _, _, _, _, _, _, _, _, _, _, _, _, _, _, _, _, _, _, _, _, _, _, _, _, _, _, _, _, _, _, _, _, _, _, _, _, _, _, _, _, _, _, _, _, _, _, _, _, _, _, _, _, _, _, _, _, _, _, _, _], _⟩ : Act) _
                        refine wpAnyH_take (i := 1) (v := ?_) rfl (by kernel_rfl) (by kernel_rfl) (by kernel_rfl) (fun _ _ _ h => h) (Or.inl ⟨by kernel_rfl, ?_⟩) (by assumption) ?_
                        rotate_left
                        · intro w hSw
                          clear hSw
                          go_simp
                          try with_reducible rfl
                        change wpAnyH _ _ _ _ _ _ _ (⟨#[_, _, _, _, _, _, _, _, _, _, _, _, _, _, _, _, _, _, _, _, _, _, _, _, _, _, _, _, _, _, _, _, _, _, _, _, _, _, _, _, _, _, _, _, _, _, _, _, _, _, _, _, _, _, _, _, _, _, _, _, _, _, _, _, _, _, _, _, _, _, _, _, _, _, _, _, _, _, _, _, _, _, _, _, _, _, _, _, _, _, _, _, _, _, _, _, _, _, _, _, _, _, _, _, _, _, _, _, _, _, _, _, _, _, _, _, _, _, _, _, _, _, _], _⟩ : Act) _
                        refine wpAnyH_take (i := 2) (v := ?_) rfl (by kernel_rfl) (by kernel_rfl) (by kernel_rfl) (fun _ _ _ h => h) (Or.inl ⟨by kernel_rfl, ?_⟩) (by assumption) ?_
                        rotate_left
                        · intro w hSw
                          clear hSw
                          go_simp
                          try with_reducible rfl
                        change wpAnyH _ _ _ _ _ _ _ (⟨#[_, _, _, _, _, _, _, _, _, _, _, _, _, _, _, _, _, _, _, _, _, _, _, _, _, _, _, _, _, _, _, _, _, _, _, _, _, _, _, _, _, _, _, _, _, _, _, _, _, _, _, _, _, _, _, _, _, _, _, _, _, _, _, _, _, _, _, _, _, _, _, _, _, _, _, _, _, _, _, _, _, _, _, _, _, _, _, _, _, _, _, _, _, _, _, _, _, _, _, _, _, _, _, _, _, _, _, _, _, _, _, _, _, _, _, _, _, _, _, _, _, _, _], _⟩ : Act) _
                        refine wpAnyH_take (i := 3) (v := ?_) rfl (by kernel_rfl) (by kernel_rfl) (by kernel_rfl) (fun _ _ _ h => h) (Or.inl ⟨by kernel_rfl, ?_⟩) (by assumption) ?_
                        rotate_left
                        · intro w hSw
                          skip
                          go_simp
                          try with_reducible rfl
                        change wpAnyH _ _ _ _ _ _ _ (⟨#[_, _, _, _, _, _, _, _, _, _, _, _, _, _, _, _, _, _, _, _, _, _, _, _, _, _, _, _, _, _, _, _, _, _, _, _, _, _, _, _, _, _, _, _, _, _, _, _, _, _, _, _, _, _, _, _, _, _, _, _, _, _, _, _, _, _, _, _, _, _, _, _, _, _, _, _, _, _, _, _, _, _, _, _, _, _, _, _, _, _, _, _, _, _, _, _, _, _, _, _, _, _, _, _, _, _, _, _, _, _, _, _, _, _, _, _, _, _, _, _, _, _, _], _⟩ : Act) _
                        refine wpAnyH_take (i := 4) (v := ?_) rfl (by kernel_rfl) (by kernel_rfl) (by kernel_rfl) (fun _ _ _ h => h) (Or.inl ⟨by kernel_rfl, ?_⟩) (by assumption) ?_
                        rotate_left
                        · intro w hSw
                          clear hSw
                          go_simp
                          try with_reducible rfl
                        change wpAnyH _ _ _ _ _ _ _ (⟨#[_, _, _, _, _, _, _, _, _, _, _, _, _, _, _, _, _, _, _, _, _, _, _, _, _, _, _, _, _, _, _, _, _, _, _, _, _, _, _, _, _, _, _, _, _, _, _, _, _, _, _, _, _, _, _, _, _, _, _, _, _, _, _, _, _, _, _, _, _, _, _, _, _, _, _, _, _, _, _, _, _, _, _, _, _, _, _, _, _, _, _, _, _, _, _, _, _, _, _, _, _, _, _, _, _, _, _, _, _, _, _, _, _, _, _, _, _, _, _, _, _, _, _], _⟩ : Act) _
                        refine wpAnyH_take (i := 5) (v := ?_) rfl (by kernel_rfl) (by kernel_rfl) (by kernel_rfl) (fun _ _ _ h => h) (Or.inl ⟨by kernel_rfl, ?_⟩) (by assumption) ?_
                        rotate_left
                        · intro w hSw
                          clear hSw
                          go_simp
                          try with_reducible rfl
                        change wpAnyH _ _ _ _ _ _ _ (⟨#[_, _, _, _, _, _, _, _, _, _, _, _, _, _, _, _, _, _, _, _, _, _, _, _, _, _, _, _, _, _, _, _, _, _, _, _, _, _, _, _, _, _, _, _, _, _, _, _, _, _, _, _, _, _, _, _, _, _, _, _, _, _, _, _, _, _, _, _, _, _, _, _, _, _, _, _, _, _, _, _, _, _, _, _, _, _, _, _, _, _, _, _, _, _, _, _, _, _, _, _, _, _, _, _, _, _, _, _, _, _, _, _, _, _, _, _, _, _, _, _, _, _, _], _⟩ : Act) _
                        refine wpAnyH_take (i := 6) (v := ?_) rfl (by kernel_rfl) (by kernel_rfl) (by kernel_rfl) (fun _ _ _ h => h) (Or.inl ⟨by kernel_rfl, ?_⟩) (by assumption) ?_
                        rotate_left
                        · intro w hSw
                          clear hSw
                          go_simp
                          try with_reducible rfl
                        change wpAnyH _ _ _ _ _ _ _ (⟨#[_, _, _, _, _, _, _, _, _, _, _, _, _, _, _, _, _, _, _, _, _, _, _, _, _, _, _, _, _, _, _, _, _, _, _, _, _, _, _, _, _, _, _, _, _, _, _, _, _, _, _, _, _, _, _, _, _, _, _, _, _, _, _, _, _, _, _, _, _, _, _, _, _, _, _, _, _, _, _, _, _, _, _, _, _, _, _, _, _, _, _, _, _, _, _, _, _, _, _, _, _, _, _, _, _, _, _, _, _, _, _, _, _, _, _, _, _, _, _, _, _, _, _], _⟩ : Act) _
                        refine wpAnyH_take (i := 7) (v := ?_) rfl (by kernel_rfl) (by kernel_rfl) (by kernel_rfl) (fun _ _ _ h => h) (Or.inl ⟨by kernel_rfl, ?_⟩) (by assumption) ?_
                        rotate_left
                        · intro w hSw
                          clear hSw
                          go_simp
                          try with_reducible rfl
                        change wpAnyH _ _ _ _ _ _ _ (⟨#[_, _, _, _, _, _, _, _, _, _, _, _, _, _, _, _, _, _, _, _, _, _, _, _, _, _, _, _, _, _, _, _, _, _, _, _, _, _, _, _, _, _, _, _, _, _, _, _, _, _, _, _, _, _, _, _, _, _, _, _, _, _, _, _, _, _, _, _, _, _, _, _, _, _, _, _, _, _, _, _, _, _, _, _, _, _, _, _, _, _, _, _, _, _, _, _, _, _, _, _, _, _, _, _, _, _, _, _, _, _, _, _, _, _, _, _, _, _, _, _, _, _, _], _⟩ : Act) _
                        refine wpAnyH_take (i := 8) (v := ?_) rfl (by kernel_rfl) (by kernel_rfl) (by kernel_rfl) (fun _ _ _ h => h) (Or.inl ⟨by kernel_rfl, ?_⟩) (by assumption) ?_
                        rotate_left
                        · intro w hSw
                          clear hSw
                          go_simp
                          try with_reducible rfl
                        change wpAnyH _ _ _ _ _ _ _ (⟨#[_, _, _, _, _, _, _, _, _, _, _, _, _, _, _, _, _, _, _, _, _, _, _, _, _, _, _, _, _, _, _, _, _, _, _, _, _, _, _, _, _, _, _, _, _, _, _, _, _, _, _, _, _, _, _, _, _, _, _, _, _, _, _, _, _, _, _, _, _, _, _, _, _, _, _, _, _, _, _, _, _, _, _, _, _, _, _, _, _, _, _, _, _, _, _, _, _, _, _, _, _, _, _, _, _, _, _, _, _, _, _, _, _, _, _, _, _, _, _, _, _, _, _], _⟩ : Act) _
                        refine wpAnyH_ready (rs := [9]) (by kernel_rfl) (by simp) ?_
                        refine AllReadyH.cons rfl (fun K hK => ?_) AllReadyH.nil
                        go_simp
                        have HBa : Hid (Below w3.heap.size w3 (w3.alloc (.cells #[.string W0, .slice (some ⟨g3, o3 + 1, none⟩) m1 c1, .int .i64 (k1 : Int)] 38)).drew) := below_dn ((Below.refl _ w3).alloc (Nat.le_refl _) _) 1
                        have HOa : Hid ((w3.alloc (.cells #[.string W0, .slice (some ⟨g3, o3 + 1, none⟩) m1 c1, .int .i64 (k1 : Int)] 38)).drew.ownsRow w.heap.size 38 3 u5 nl (flatL ls wvs)) := (World.ownsRow.alloc HO1r.out _).drew
                        refine hK.out _ _ ((HBa.out.cell (p := ⟨g3, o3, none⟩) hg3).trans hx0) (fun hHeld => ?_)
                        clear hK K
                        change wpAnyH _ _ _ _ _ _ _ (⟨#[_, _, _, _, _, _, _, _, _, _, _, _, _, _, _, _, _, _, _, _, _, _, _, _, _, _, _, _, _, _, _, _, _, _, _, _, _, _, _, _, _, _, _, _, _, _, _, _, _, _, _, _, _, _, _, _, _, _, _, _, _, _, _, _, _, _, _, _, _, _, _, _, _, _, _, _, _, _, _, _, _, _, _, _, _, _, _, _, _, _, _, _, _, _, _, _, _, _, _, _, _, _, _, _, _, _, _, _, _, _, _, _, _, _, _, _, _, _, _, _, _, _, _], _⟩ : Act) _
                        refine wpAnyH_ready (rs := [10]) (by kernel_rfl) (by simp) ?_
                        refine AllReadyH.cons rfl (fun K hK => ?_) AllReadyH.nil
                        refine step_append_own rfl _ _ 27 rfl w.heap.size 38 i0 (.agg #[.string .empty, .slice none 0 0, .int .i64 0]) 3 48 Tryd.underlying27 hi hz0 hz1 hz2 rfl (by decide) u5 nl (flatL ls wvs) rfl HOa.out ⟨w3.heap.size, 0, none⟩ 1 1 [.string W0, .slice (some ⟨g3, o3 + 1, none⟩) m1 c1, .int .i64 (k1 : Int)] (by rfl) rfl (cellR_new _ _ _ _) (oneL _ _ _ _ _) (by unfold maxLen; omega) (by omega) (by simp; omega) ?_
                        intro v' w5 hown' hgrow
                        have HW5 : Hid (WIn w5 (.slice (some ⟨g3, o3, none⟩) nT c3) (T.map wordV)) := (HWV.out.below HBa.out).keep (grow9 HOa.out hgrow)
                        have HL5 : Hid (WIn w5 (.slice (some ⟨g, 0, none⟩) n cL) LS) := (HL3.out.below HBa.out).keep (grow9 HOa.out hgrow)
                        have HB5 : Hid (Below w.heap.size w w5) := (HBW3.out.trans (HBa.out.mono hsz3)).grown hgrow (by simp; omega) (fun k hk => (World.ownsRow.lt HO1r.out k hk).1)
                        have HP5 : Hid (RLines w5 w.heap.size v' (ls ++ [(t0.2, (T.map (·.2)).drop 1, k1)])) := by
                          refine RLines.push (by rw [← HNL.out]; exact HOa.out) HO2r.out (fun i hi => (HO3r.out i hi).below HBa.out) (l := (t0.2, (T.map (·.2)).drop 1, k1)) (wv := .slice (some ⟨g3, o3 + 1, none⟩) m1 c1) ?_ ?_ hgrow
                          · show WIn _ _ (((T.map (·.2)).drop 1).map mkB)
                            rw [HDR.out, HM1.out.1]
                            exact (HWT2.out).below HBa.out
                          · rw [← HNL.out]
                            show w5.ownsRow w.heap.size 38 3 v' (nl + 1) (flatL ls wvs ++ [strV t0.2, _, _])
                            rw [← hVS.out]
                            exact hown'
                        have HC5 : Hid (w5.cell? ⟨g3, o3, none⟩ = some (.string W0)) := by
                          have h := HW5.out
                          rw [HTR.out] at h
                          have := h.fst
                          rw [HWO.out] at this
                          exact this
                        obtain ⟨na, nc, hv'⟩ := isSlice_of hown'
                        subst hv'
                        refine hK.out _ _ HC5.out (fun hHeld => ?_)
                        clear hK K hgrow hown' HW5
                        change wpAnyH _ _ _ _ _ _ _ (⟨#[_, _, _, _, _, _, _, _, _, _, _, _, _, _, _, _, _, _, _, _, _, _, _, _, _, _, _, _, _, _, _, _, _, _, _, _, _, _, _, _, _, _, _, _, _, _, _, _, _, _, _, _, _, _, _, _, _, _, _, _, _, _, _, _, _, _, _, _, _, _, _, _, _, _, _, _, _, _, _, _, _, _, _, _, _, _, _, _, _, _, _, _, _, _, _, _, _, _, _, _, _, _, _, _, _, _, _, _, _, _, _, _, _, _, _, _, _, _, _, _, _, _, _], _⟩ : Act) _
                        refine wpAnyH_take (i := 11) (v := ?_) rfl (by kernel_rfl) (by kernel_rfl) (by kernel_rfl) (fun _ _ _ h => h) (Or.inl ⟨by kernel_rfl, ?_⟩) (by assumption) ?_
                        rotate_left
                        · intro w hSw
                          clear hSw
                          go_simp
                          try with_reducible rfl
                        change wpAnyH _ _ _ _ _ _ _ (⟨#[_, _, _, _, _, _, _, _, _, _, _, _, _, _, _, _, _, _, _, _, _, _, _, _, _, _, _, _, _, _, _, _, _, _, _, _, _, _, _, _, _, _, _, _, _, _, _, _, _, _, _, _, _, _, _, _, _, _, _, _, _, _, _, _, _, _, _, _, _, _, _, _, _, _, _, _, _, _, _, _, _, _, _, _, _, _, _, _, _, _, _, _, _, _, _, _, _, _, _, _, _, _, _, _, _, _, _, _, _, _, _, _, _, _, _, _, _, _, _, _, _, _, _], _⟩ : Act) _
                        refine wpAnyH_done (by kernel_rfl) ?_ _
                        refine NoPanic.normal ?_
                        go_wp2_with fail
                        go_roundw
                        case rel => exact ⟨k1, [], V, false, ls ++ [(t0.2, (T.map (·.2)).drop 1, k1)], by omega, by go_num, rfl, rfl, by simp, fun h => absurd rfl h, by simp; rw [← HNL.out]; omega, HP5.out, HL5.out, HB5.out, HNX.out⟩
                        case measure => (show n - ((k1 : Int)).toNat < n - ((k : Int)).toNat); omega
            · as_aux_lemma =>
                have p2 : ((nT : Int) == 2) = false := by simp; omega
                have hbk : ([] : List UInt8) = [] := rfl
                clear hx0l hk0 hnT hc0
                have hg0' := hg0
                have HWD := hidM (words_any g2 nT c2 T w2 HNT.out hTl HKD.out hg2 HC2.out)
                unfold WordsPost at HWD
                by_cases hany : T.any (fun t => t.1 != 5) = true
                · simp only [hany, if_true] at HWD
                  have hdn : decT [] T (k + 1) = none := by
                    unfold decT
                    rw [if_neg hTn, if_neg (by rintro ⟨h1, _⟩; exact h1 rfl), if_neg (by rintro ⟨_, h1, _⟩; rw [← HNT.out] at h1; exact hn2 h1), if_pos hany]
                  have HRE := hidM (HBAD.out hdn)
                  clear hdn HNXT HBAD
                  go_wp2_with fail
                  refine HWD.out.mono ?_
                  rintro _ w3 ⟨hb3, rfl⟩
                  have HBW3 := hidM (HBW2.out.trans (hb3.mono HBW2.out.size))
                  clear hb3
                  go_wp2_with fail
                  go_ret3
                  exact HFIN.out _ _ _ _ _ HRE.out (rlines_nil _ _) HBW3.out _ (by push_cast; rfl)
                · simp only [hany] at HWD
                  obtain ⟨t0, TR, hTR⟩ : ∃ t0 TR, T = t0 :: TR := by
                    cases T with
                    | nil => exact absurd rfl hTn
                    | cons a b => exact ⟨a, b, rfl⟩
                  have hg0 : T.getD 0 (0, []) = t0 := by rw [hTR]; rfl
                  have HTR := hidM hTR
                  clear hTR
                  go_wp2_with fail
                  refine HWD.out.mono ?_
                  rintro _ w3 ⟨hb3, v3, rfl, hown3⟩
                  have HWV := hidM hown3.win
                  have hne3 : T.map wordV ≠ [] := by rw [HTR.out]; simp
                  obtain ⟨g3, o3, c3, rfl, hg3, hc3, hcl3⟩ := HWV.out.cell hne3
                  have hm3 : (T.map wordV).length = nT := by rw [List.length_map]; exact HNT.out.symm
                  have hx0 := hcl3 0 (by rw [hm3]; omega)
                  have hx0' : (T.map wordV)[0]'(by rw [hm3]; omega) = wordV t0 := by simp [HTR.out]
                  rw [hx0', Nat.add_zero] at hx0
                  have r0 : (0 : Int) < (nT : Int) := by omega
                  rw [hm3] at HWV hc3
                  rw [hm3]
                  have HO3 := hidM (HO2.out.keep hb3)
                  have HL3 := hidM (HL2.out.below hb3)
                  have HBW3 := hidM (HBW2.out.trans (hb3.mono HBW2.out.size))
                  have hsz3 := HBW3.out.size
                  clear hown3 hb3 HWD HO2 HL2 hcl3 hx0' hm3 hne3
                  have HW0 : Hid ((wordV t0).data.toList = t0.2) := rfl
                  by_cases he0 : t0.2 = []
                  · have hdn : decT [] T (k + 1) = none := by
                      unfold decT
                      rw [if_neg hTn, if_neg (by rintro ⟨h1, _⟩; exact h1 rfl), if_neg (by rintro ⟨_, h1, _⟩; rw [← HNT.out] at h1; exact hn2 h1), if_neg hany, if_neg (by simp), if_pos (by rw [hg0]; exact he0)]
                    have b3 : (wordV t0).toList.isEmpty = true := by rw [Lib.toList_data, HW0.out, he0]; rfl
                    have HRE := hidM (HBAD.out hdn)
                    clear hdn he0 HNXT HBAD
                    generalize wordV t0 = W0 at *
                    go_wp2_with fail
                    go_ret3
                    exact HFIN.out _ _ _ _ _ HRE.out (rlines_nil _ _) HBW3.out _ (by push_cast; rfl)
                  · have hds : decT [] T (k + 1) = some ([], [(t0.2, (T.map (·.2)).drop 1, k + 1)]) := by
                      unfold decT
                      rw [if_neg hTn, if_neg (by rintro ⟨h1, _⟩; exact h1 rfl), if_neg (by rintro ⟨_, h1, _⟩; rw [← HNT.out] at h1; exact hn2 h1), if_neg hany, if_neg (by simp), if_neg (by rw [hg0]; exact he0), hg0]
                    have b3 : (wordV t0).toList.isEmpty = false := by
                      rw [Lib.toList_data, HW0.out]
                      cases h : t0.2 with
                      | nil => exact absurd h he0
                      | cons _ _ => rfl
                    have HNX := hidM (HNXT.out _ _ hds)
                    clear hds he0 HNXT HBAD
                    obtain ⟨wvs, o1, o2, o3r⟩ := HO3.out
                    have HO1r := hidM o1
                    have HO2r := hidM o2
                    have HO3r := hidM o3r
                    clear o1 o2 o3r HO3
                    obtain ⟨k1, hk1⟩ : ∃ k1, k1 = k + 1 := ⟨_, rfl⟩
                    have hk1i : (k : Int) + 1 = (k1 : Int) := by omega
                    rw [← hk1] at HNX
                    have HK1 := hidM hk1
                    have hk1b : k < k1 ∧ k1 ≤ n := by omega
                    clear hk1
                    have hVS : Hid ((.string (wordV t0) : Value) = strV t0.2) := rfl
                    obtain ⟨nl, hnl⟩ : ∃ n, n = ls.length := ⟨_, rfl⟩
                    have hnlb : nl ≤ k := by omega
                    rw [← hnl] at HO1r
                    have HNL := hidM hnl
                    clear hnl
                    obtain ⟨m1, hm1⟩ : ∃ m1, nT = m1 + 1 := ⟨nT - 1, by omega⟩
                    have HDR : Hid (((T.map (·.2)).drop 1).map mkB = (T.map wordV).drop 1) := by
                      unfold Hid
                      rw [List.map_drop, List.map_map]
                      rfl
                    have HM1 : Hid ((T.map wordV).drop 1 = TR.map wordV ∧ TR.length = m1) := by
                      refine ⟨by rw [HTR.out]; simp, ?_⟩
                      have := HNT.out
                      rw [HTR.out] at this
                      simp at this
                      omega
                    have r1 : (nT : Int) - 1 = (m1 : Int) := by omega
                    have r2 : (1 : Int) ≤ (nT : Int) := by omega
                    have r3 : (nT : Int) ≤ (c3 : Int) := by omega
                    have hwin1 : WIn w3 (.slice (some ⟨g3, o3, none⟩) (TR.length + 1) c3) (wordV t0 :: TR.map wordV) := by
                      have := HWV.out
                      rw [HTR.out] at this
                      rw [HM1.out.2, ← hm1]
                      exact this
                    have HWT : Hid (∀ a, TR = [] → WIn w3 (.slice a 0 0) (TR.map wordV)) := fun a h => by rw [h]; exact ⟨a, 0, rfl, fun h => absurd rfl h⟩
                    have HWT2 : Hid (WIn w3 (.slice (some ⟨g3, o3 + 1, none⟩) m1 (c3 - 1)) (TR.map wordV)) := by
                      have h2 := hwin1
                      rw [show TR.length + 1 = (TR.map wordV).length + 1 by simp] at h2
                      have := h2.tail
                      rw [List.length_map, HM1.out.2] at this
                      exact this
                    have HMM := hidM hm1
                    clear hwin1 hm1
                    generalize hWO : wordV t0 = W0 at *
                    have HWO := hidM hWO
                    clear hWO
                    have wrk1 : IntKind.i64.wrap (k1 : Int) = (k1 : Int) := wrap_i (by omega)
                    go_upto_region 18 with fail
                    by_cases hc1 : c3 = 1
                    · have hm0 : m1 = 0 := by have := HMM.out; omega
                      subst hm0
                      have hn1 : nT = 1 := HMM.out
                      have hTR0 : TR = [] := List.length_eq_zero_iff.1 HM1.out.2
                      have HTL := hidM (HWT.out (some ⟨g3, o3, none⟩) hTR0)
                      subst hc1
                      subst hn1
                      clear hTR0 HWT2 r1 r2 r3
                      refine wp_region_held_drew (S := (fun w' => w'.cell? ⟨g3, o3, none⟩ = some (.string W0))) (by kernel_rfl) hx0 (fun hHeld => ?_)
                      refine wpAnyH_take (i := 0) (v := ?_) rfl (by kernel_rfl) (by kernel_rfl) (by kernel_rfl) (fun _ _ _ h => h) (Or.inl ⟨by kernel_rfl, ?_⟩) (by assumption) ?_
                      rotate_left
                      · intro w hSw
                        clear hSw
                        go_simp
                        try with_reducible rfl
                      change wpAnyH _ _ _ _ _ _ _ (⟨#[_, _, _, _, _, _, _, _, _, _, _, _, _, _, _, _, _, _, _, _, _, _, _, _, _, _, _, _, _, _, _, _, _, _, _, _, _, _, _, _, _, _, _, _, _, _, _, _, _, _, _, _, _, _, _, _, _, _, _, _, _, _, _, _, _, _, _, _, _, _, _, _, _, _, _, _, _, _, _, _, _, _, _, _, _, _, _, _, _, _, _, _, _, _, _, _, _, _, _, _, _, _, _, _, _, _, _, _, _, _, _, _, _, _, _, _, _, _, _, _, _, _, _], _⟩ : Act) _
                      refine wpAnyH_take (i := 1) (v := ?_) rfl (by kernel_rfl) (by kernel_rfl) (by kernel_rfl) (fun _ _ _ h => h) (Or.inl ⟨by kernel_rfl, ?_⟩) (by assumption) ?_
                      rotate_left
                      · intro w hSw
                        clear hSw
                        go_simp
                        try with_reducible rfl
                      change wpAnyH _ _ _ _ _ _ _ (⟨#[_, _, _, _, _, _, _, _, _, _, _, _, _, _, _, _, _, _, _, _, _, _, _, _, _, _, _, _, _, _, _, _, _, _, _, _, _, _, _, _, _, _, _, _, _, _, _, _, _, _, _, _, _, _, _, _, _, _, _, _, _, _, _, _, _, _, _, _, _, _, _, _, _, _, _, _, _, _, _, _, _, _, _, _, _, _, _, _, _, _, _, _, _, _, _, _, _, _, _, _, _, _, _, _, _, _, _, _, _, _, _, _, _, _, _, _, _, _, _, _, _, _, _], _⟩ : Act) _
                      refine wpAnyH_take (i := 2) (v := ?_) rfl (by kernel_rfl) (by kernel_rfl) (by kernel_rfl) (fun _ _ _ h => h) (Or.inl ⟨by kernel_rfl, ?_⟩) (by assumption) ?_
                      rotate_left
                      · intro w hSw
                        clear hSw
                        go_simp
                        try with_reducible rfl
                      change wpAnyH _ _ _ _ _ _ _ (⟨#[_, _, _, _, _, _, _, _, _, _, _, _, _, _, _, _, _, _, _, _, _, _, _, _, _, _, _, _, _, _, _, _, _, _, _, _, _, _, _, _, _, _, _, _, _, _, _, _, _, _, _, _, _, _, _, _, _, _, _, _, _, _, _, _, _, _, _, _, _, _, _, _, _, _, _, _, _, _, _, _, _, _, _, _, _, _, _, _, _, _, _, _, _, _, _, _, _, _, _, _, _, _, _, _, _, _, _, _, _, _, _, _, _, _, _, _, _, _, _, _, _, _, _], _⟩ : Act) _
                      refine wpAnyH_take (i := 3) (v := ?_) rfl (by kernel_rfl) (by kernel_rfl) (by kernel_rfl) (fun _ _ _ h => h) (Or.inl ⟨by kernel_rfl, ?_⟩) (by assumption) ?_
                      rotate_left
                      · intro w hSw
                        skip
                        go_simp
                        try with_reducible rfl
                      change wpAnyH _ _ _ _ _ _ _ (⟨#[_, _, _, _, _, _, _, _, _, _, _, _, _, _, _, _, _, _, _, _, _, _, _, _, _, _, _, _, _, _, _, _, _, _, _, _, _, _, _, _, _, _, _, _, _, _, _, _, _, _, _, _, _, _, _, _, _, _, _, _, _, _, _, _, _, _, _, _, _, _, _, _, _, _, _, _, _, _, _, _, _, _, _, _, _, _, _, _, _, _, _, _, _, _, _, _, _, _, _, _, _, _, _, _, _, _, _, _, _, _, _, _, _, _, _, _, _, _, _, _, _, _, _], _⟩ : Act) _
                      refine wpAnyH_take (i := 4) (v := ?_) rfl (by kernel_rfl) (by kernel_rfl) (by kernel_rfl) (fun _ _ _ h => h) (Or.inl ⟨by kernel_rfl, ?_⟩) (by assumption) ?_
                      rotate_left
                      · intro w hSw
                        clear hSw
                        go_simp
                        try with_reducible rfl
                      change wpAnyH _ _ _ _ _ _ _ (⟨#[_, _, _, _, _, _, _, _, _, _, _, _, _, _, _, _, _, _, _, _, _, _, _, _, _, _, _, _, _, _, _, _, _, _, _, _, _, _, _, _, _, _, _, _, _, _, _, _, _, _, _, _, _, _, _, _, _, _, _, _, _, _, _, _, _, _, _, _, _, _, _, _, _, _, _, _, _, _, _, _, _, _, _, _, _, _, _, _, _, _, _, _, _, _, _, _, _, _, _, _, _, _, _, _, _, _, _, _, _, _, _, _, _, _, _, _, _, _, _, _, _, _, _], _⟩ : Act) _
                      refine wpAnyH_take (i := 5) (v := ?_) rfl (by kernel_rfl) (by kernel_rfl) (by kernel_rfl) (fun _ _ _ h => h) (Or.inl ⟨by kernel_rfl, ?_⟩) (by assumption) ?_
                      rotate_left
                      · intro w hSw
                        clear hSw
                        go_simp
                        try with_reducible rfl
                      change wpAnyH _ _ _ _ _ _ _ (⟨#[_, _, _, _, _, _, _, _, _, _, _, _, _, _, _, _, _, _, _, _, _, _, _, _, _, _, _, _, _, _, _, _, _, _, _, _, _, _, _, _, _, _, _, _, _, _, _, _, _, _, _, _, _, _, _, _, _, _, _, _, _, _, _, _, _, _, _, _, _, _, _, _, _, _, _, _, _, _, _, _, _, _, _, _, _, _, _, _, _, _, _, _, _, _, _, _, _, _, _, _, _, _, _, _, _, _, _, _, _, _, _, _, _, _, _, _, _, _, _, _, _, _, _], _⟩ : Act) _
                      refine wpAnyH_take (i := 6) (v := ?_) rfl (by kernel_rfl) (by kernel_rfl) (by kernel_rfl) (fun _ _ _ h => h) (Or.inl ⟨by kernel_rfl, ?_⟩) (by assumption) ?_
                      rotate_left
                      · intro w hSw
                        clear hSw
                        go_simp
                        try with_reducible rfl
                      change wpAnyH _ _ _ _ _ _ _ (⟨#[_, _, _, _, _, _, _, _, _, _, _, _, _, _, _, _, _, _, _, _, _, _, _, _, _, _, _, _, _, _, _, _, _, _, _, _, _, _, _, _, _, _, _, _, _, _, _, _, _, _, _, _, _, _, _, _, _, _, _, _, _, _, _, _, _, _, _, _, _, _, _, _, _, _, _, _, _, _, _, _, _, _, _, _, _, _, _, _, _, _, _, _, _, _, _, _, _, _, _, _, _, _, _, _, _, _, _, _, _, _, _, _, _, _, _, _, _, _, _, _, _, _, _], _⟩ : Act) _
                      refine wpAnyH_take (i := 7) (v := ?_) rfl (by kernel_rfl) (by kernel_rfl) (by kernel_rfl) (fun _ _ _ h => h) (Or.inl ⟨by kernel_rfl, ?_⟩) (by assumption) ?_
                      rotate_left
                      · intro w hSw
                        clear hSw
                        go_simp
                        try with_reducible rfl
                      change wpAnyH _ _ _ _ _ _ _ (⟨#[_, _, _, _, _, _, _, _, _, _, _, _, _, _, _, _, _, _, _, _, _, _, _, _, _, _, _, _, _, _, _, _, _, _, _, _, _, _, _, _, _, _, _, _, _, _, _, _, _, _, _, _, _, _, _, _, _, _, _, _, _, _, _, _, _, _, _, _, _, _, _, _, _, _, _, _, _, _, _, _, _, _, _, _, _, _, _, _, _, _, _, _, _, _, _, _, _, _, _, _, _, _, _, _, _, _, _, _, _, _, _, _, _, _, _, _, _, _, _, _, _, _, _], _⟩ : Act) _
                      refine wpAnyH_take (i := 8) (v := ?_) rfl (by kernel_rfl) (by kernel_rfl) (by kernel_rfl) (fun _ _ _ h => h) (Or.inl ⟨by kernel_rfl, ?_⟩) (by assumption) ?_
                      rotate_left
                      · intro w hSw
                        clear hSw
                        go_simp
                        try with_reducible rfl
                      change wpAnyH _ _ _ _ _ _ _ (⟨#[_, _, _, _, _, _, _, _, _, _, _, _, _, _, _, _, _, _, _, _, _, _, _, _, _, _, _, _, _, _, _, _, _, _, _, _, _, _, _, _, _, _, _, _, _, _, _, _, _, _, _, _, _, _, _, _, _, _, _, _, _, _, _, _, _, _, _, _, _, _, _, _, _, _, _, _, _, _, _, _, _, _, _, _, _, _, _, _, _, _, _, _, _, _, _, _, _, _, _, _, _, _, _, _, _, _, _, _, _, _, _, _, _, _, _, _, _, _, _, _, _, _, _], _⟩ : Act) _
                      refine wpAnyH_ready (rs := [9]) (by kernel_rfl) (by simp) ?_
                      refine AllReadyH.cons rfl (fun K hK => ?_) AllReadyH.nil
                      go_simp
                      have HBa : Hid (Below w3.heap.size w3 (w3.alloc (.cells #[.string W0, .slice (some ⟨g3, o3, none⟩) 0 0, .int .i64 (k1 : Int)] 38)).drew) := below_dn ((Below.refl _ w3).alloc (Nat.le_refl _) _) 1
                      have HOa : Hid ((w3.alloc (.cells #[.string W0, .slice (some ⟨g3, o3, none⟩) 0 0, .int .i64 (k1 : Int)] 38)).drew.ownsRow w.heap.size 38 3 u5 nl (flatL ls wvs)) := (World.ownsRow.alloc HO1r.out _).drew
                      refine hK.out _ _ ((HBa.out.cell (p := ⟨g3, o3, none⟩) hg3).trans hx0) (fun hHeld => ?_)
                      clear hK K
                      change wpAnyH _ _ _ _ _ _ _ (⟨#[_, _, _, _, _, _, _, _, _, _, _, _, _, _, _, _, _, _, _, _, _, _, _, _, _, _, _, _, _, _, _, _, _, _, _, _, _, _, _, _, _, _, _, _, _, _, _, _, _, _, _, _, _, _, _, _, _, _, _, _, _, _, _, _, _, _, _, _, _, _, _, _, _, _, _, _, _, _, _, _, _, _, _, _, _, _, _, _, _, _, _, _, _, _, _, _, _, _, _, _, _, _, _, _, _, _, _, _, _, _, _, _, _, _, _, _, _, _, _, _, _, _, _], _⟩ : Act) _
                      refine wpAnyH_ready (rs := [10]) (by kernel_rfl) (by simp) ?_
                      refine AllReadyH.cons rfl (fun K hK => ?_) AllReadyH.nil
                      refine step_append_own rfl _ _ 27 rfl w.heap.size 38 i0 (.agg #[.string .empty, .slice none 0 0, .int .i64 0]) 3 48 Tryd.underlying27 hi hz0 hz1 hz2 rfl (by decide) u5 nl (flatL ls wvs) rfl HOa.out ⟨w3.heap.size, 0, none⟩ 1 1 [.string W0, .slice (some ⟨g3, o3, none⟩) 0 0, .int .i64 (k1 : Int)] (by rfl) rfl (cellR_new _ _ _ _) (oneL _ _ _ _ _) (by unfold maxLen; omega) (by omega) (by simp; omega) ?_
                      intro v' w5 hown' hgrow
                      have HW5 : Hid (WIn w5 (.slice (some ⟨g3, o3, none⟩) 1 1) (T.map wordV)) := (HWV.out.below HBa.out).keep (grow9 HOa.out hgrow)
                      have HL5 : Hid (WIn w5 (.slice (some ⟨g, 0, none⟩) n cL) LS) := (HL3.out.below HBa.out).keep (grow9 HOa.out hgrow)
                      have HB5 : Hid (Below w.heap.size w w5) := (HBW3.out.trans (HBa.out.mono hsz3)).grown hgrow (by simp; omega) (fun k hk => (World.ownsRow.lt HO1r.out k hk).1)
                      have HP5 : Hid (RLines w5 w.heap.size v' (ls ++ [(t0.2, (T.map (·.2)).drop 1, k1)])) := by
                        refine RLines.push (by rw [← HNL.out]; exact HOa.out) HO2r.out (fun i hi => (HO3r.out i hi).below HBa.out) (l := (t0.2, (T.map (·.2)).drop 1, k1)) (wv := .slice (some ⟨g3, o3, none⟩) 0 0) ?_ ?_ hgrow
                        · show WIn _ _ (((T.map (·.2)).drop 1).map mkB)
                          rw [HDR.out, HM1.out.1]
                          exact (HTL.out).below HBa.out
                        · rw [← HNL.out]
                          show w5.ownsRow w.heap.size 38 3 v' (nl + 1) (flatL ls wvs ++ [strV t0.2, _, _])
                          rw [← hVS.out]
                          exact hown'
                      have HC5 : Hid (w5.cell? ⟨g3, o3, none⟩ = some (.string W0)) := by
                        have h := HW5.out
                        rw [HTR.out] at h
                        have := h.fst
                        rw [HWO.out] at this
                        exact this
                      obtain ⟨na, nc, hv'⟩ := isSlice_of hown'
                      subst hv'
                      refine hK.out _ _ HC5.out (fun hHeld => ?_)
                      clear hK K hgrow hown' HW5
                      change wpAnyH _ _ _ _ _ _ _ (⟨#[_, _, _, _, _, _, _, _, _, _, _, _, _, _, _, _, _, _, _, _, _, _, _, _, _, _, _, _, _, _, _, _, _, _, _, _, _, _, _, _, _, _, _, _, _, _, _, _, _, _, _, _, _, _, _, _, _, _, _, _, _, _, _, _, _, _, _, _, _, _, _, _, _, _, _, _, _, _, _, _, _, _, _, _, _, _, _, _, _, _, _, _, _, _, _, _, _, _, _, _, _, _, _, _, _, _, _, _, _, _, _, _, _, _, _, _, _, _, _, _, _, _, _], _⟩ : Act) _
                      refine wpAnyH_take (i := 11) (v := ?_) rfl (by kernel_rfl) (by kernel_rfl) (by kernel_rfl) (fun _ _ _ h => h) (Or.inl ⟨by kernel_rfl, ?_⟩) (by assumption) ?_
                      rotate_left
                      · intro w hSw
                        clear hSw
                        go_simp
                        try with_reducible rfl
                      change wpAnyH _ _ _ _ _ _ _ (⟨#[_, _, _, _, _, _, _, _, _, _, _, _, _, _, _, _, _, _, _, _, _, _, _, _, _, _, _, _, _, _, _, _, _, _, _, _, _, _, _, _, _, _, _, _, _, _, _, _, _, _, _, _, _, _, _, _, _, _, _, _, _, _, _, _, _, _, _, _, _, _, _, _, _, _, _, _, _, _, _, _, _, _, _, _, _, _, _, _, _, _, _, _, _, _, _, _, _, _, _, _, _, _, _, _, _, _, _, _, _, _, _, _, _, _, _, _, _, _, _, _, _, _, _], _⟩ : Act) _
                      refine wpAnyH_done (by kernel_rfl) ?_ _
                      refine NoPanic.normal ?_
                      go_wp2_with fail
                      go_roundw
                      case rel => exact ⟨k1, [], V, false, ls ++ [(t0.2, (T.map (·.2)).drop 1, k1)], by omega, by go_num, rfl, rfl, by simp, fun h => absurd rfl h, by simp; rw [← HNL.out]; omega, HP5.out, HL5.out, HB5.out, HNX.out⟩
                      case measure => (show n - ((k1 : Int)).toNat < n - ((k : Int)).toNat); omega
                    · obtain ⟨c1, hc1e⟩ : ∃ c1, c3 = c1 + 1 := ⟨c3 - 1, by omega⟩
                      have r4 : (c3 : Int) - 1 = (c1 : Int) := by omega
                      have r5 : c3 - 1 = c1 := by omega
                      rw [r5] at HWT2
                      have hc1p : 0 < c1 := by omega
                      have HC1 := hidM hc1e
                      have r6 : nT - 1 = m1 := by have := HMM.out; omega
                      clear hc1e
                      refine wp_region_held_drew (S := (fun w' => w'.cell? ⟨g3, o3, none⟩ = some (.string W0))) (by kernel_rfl) hx0 (fun hHeld => ?_)
                      refine wpAnyH_take (i := 0) (v := ?_) rfl (by kernel_rfl) (by kernel_rfl) (by kernel_rfl) (fun _ _ _ h => h) (Or.inl ⟨by kernel_rfl, ?_⟩) (by assumption) ?_
                      rotate_left
                      · intro w hSw
                        clear hSw
                        go_simp
                        try with_reducible rfl
                      change wpAnyH _ _ _ _ _ _ _ (⟨#[_, _, _, _, _, _, _, _, _, _, _, _, _, _, _, _, _, _, _, _, _, _, _, _, _, _, _, _, _, _, _, _, _, _, _, _, _, _, _, _, _, _, _, _, _, _, _, _, _, _, _, _, _, _, _, _, _, _, _, _, _, _, _, _, _, _, _, _, _, _, _, _, _, _, _, _, _, _, _, _, _, _, _, _, _, _, _, _, _, _, _, _, _, _, _, _, _, _, _, _, _, _, _, _, _, _, _, _, _, _, _, _, _, _, _, _, _, _, _, _, _, _, _], _⟩ : Act) _
                      refine wpAnyH_take (i := 1) (v := ?_) rfl (by kernel_rfl) (by kernel_rfl) (by kernel_rfl) (fun _ _ _ h => h) (Or.inl ⟨by kernel_rfl, ?_⟩) (by assumption) ?_
                      rotate_left
                      · intro w hSw
                        clear hSw
                        go_simp
                        try with_reducible rfl
                      change wpAnyH _ _ _ _ _ _ _ (⟨#[_, _, _, _, _, _, _, _, _, _, _, _, _, _, _, _, _, _, _, _, _, _, _, _, _, _, _, _, _, _, _, _, _, _, _, _, _, _, _, _, _, _, _, _, _, _, _, _, _, _, _, _, _, _, _, _, _, _, _, _, _, _, _, _, _, _, _, _, _, _, _, _, _, _, _, _, _, _, _, _, _, _, _, _, _, _, _, _, _, _, _, _, _, _, _, _, _, _, _, _, _, _, _, _, _, _, _, _, _, _, _, _, _, _, _, _, _, _, _, _, _, _, _], _⟩ : Act) _
                      refine wpAnyH_take (i := 2) (v := ?_) rfl (by kernel_rfl) (by kernel_rfl) (by kernel_rfl) (fun _ _ _ h => h) (Or.inl ⟨by kernel_rfl, ?_⟩) (by assumption) ?_
                      rotate_left
                      · intro w hSw
                        clear hSw
                        go_simp
                        try with_reducible rfl
                      change wpAnyH _ _ _ _ _ _ _ (⟨#[_, _, _, _, _, _, _, _, _, _, _, _, _, _, _, _, _, _, _, _, _, _, _, _, _, _, _, _, _, _, _, _, _, _, _, _, _, _, _, _, _, _, _, _, _, _, _, _, _, _, _, _, _, _, _, _, _, _, _, _, _, _, _, _, _, _, _, _, _, _, _, _, _, _, _, _, _, _, _, _, _, _, _, _, _, _, _, _, _, _, _, _, _, _, _, _, _, _, _, _, _, _, _, _, _, _, _, _, _, _, _, _, _, _, _, _, _, _, _, _, _, _, _], _⟩ : Act) _
                      refine wpAnyH_take (i := 3) (v := ?_) rfl (by kernel_rfl) (by kernel_rfl) (by kernel_rfl) (fun _ _ _ h => h) (Or.inl ⟨by kernel_rfl, ?_⟩) (by assumption) ?_
                      rotate_left
                      · intro w hSw
                        skip
                        go_simp
                        try with_reducible rfl
                      change wpAnyH _ _ _ _ _ _ _ (⟨#[_, _, _, _, _, _, _, _, _, _, _, _, _, _, _, _, _, _, _, _, _, _, _, _, _, _, _, _, _, _, _, _, _, _, _, _, _, _, _, _, _, _, _, _, _, _, _, _, _, _, _, _, _, _, _, _, _, _, _, _, _, _, _, _, _, _, _, _, _, _, _, _, _, _, _, _, _, _, _, _, _, _, _, _, _, _, _, _, _, _, _, _, _, _, _, _, _, _, _, _, _, _, _, _, _, _, _, _, _, _, _, _, _, _, _, _, _, _, _, _, _, _, _], _⟩ : Act) _
                      refine wpAnyH_take (i := 4) (v := ?_) rfl (by kernel_rfl) (by kernel_rfl) (by kernel_rfl) (fun _ _ _ h => h) (Or.inl ⟨by kernel_rfl, ?_⟩) (by assumption) ?_
                      rotate_left
                      · intro w hSw
                        clear hSw
                        go_simp
                        try with_reducible rfl
                      change wpAnyH _ _ _ _ _ _ _ (⟨#[_, _, _, _, _, _, _, _, _, _, _, _, _, _, _, _, _, _, _, _, _, _, _, _, _, _, _, _, _, _, _, _, _, _, _, _, _, _, _, _, _, _, _, _, _, _, _, _, _, _, _, _, _, _, _, _, _, _, _, _, _, _, _, _, _, _, _, _, _, _, _, _, _, _, _, _, _, _, _, _, _, _, _, _, _, _, _, _, _, _, _, _, _, _, _, _, _, _, _, _, _, _, _, _, _, _, _, _, _, _, _, _, _, _, _, _, _, _, _, _, _, _, _], _⟩ : Act) _
                      refine wpAnyH_take (i := 5) (v := ?_) rfl (by kernel_rfl) (by kernel_rfl) (by kernel_rfl) (fun _ _ _ h => h) (Or.inl ⟨by kernel_rfl, ?_⟩) (by assumption) ?_
                      rotate_left
                      · intro w hSw
                        clear hSw
                        go_simp
                        try with_reducible rfl
                      change wpAnyH _ _ _ _ _ _ _ (⟨#[_, _, _, _, _, _, _, _, _, _, _, _, _, _, _, _, _, _, _, _, _, _, _, _, _, _, _, _, _, _, _, _, _, _, _, _, _, _, _, _, _, _, _, _, _, _, _, _, _, _, _, _, _, _, _, _, _, _, _, _, _, _, _, _, _, _, _, _, _, _, _, _, _, _, _, _, _, _, _, _, _, _, _, _, _, _, _, _, _, _, _, _, _, _, _, _, _, _, _, _, _, _, _, _, _, _, _, _, _, _, _, _, _, _, _, _, _, _, _, _, _, _, _], _⟩ : Act) _
                      refine wpAnyH_take (i := 6) (v := ?_) rfl (by kernel_rfl) (by kernel_rfl) (by kernel_rfl) (fun _ _ _ h => h) (Or.inl ⟨by kernel_rfl, ?_⟩) (by assumption) ?_
                      rotate_left
                      · intro w hSw
                        clear hSw
                        go_simp
                        try with_reducible rfl
                      change wpAnyH _ _ _ _ _ _ _ (⟨#[_, _, _, _, _, _, _, _, _, _, _, _, _, _, _, _, _, _, _, _, _, _, _, _, _, _, _, _, _, _, _, _, _, _, _, _, _, _, _, _, _, _, _, _, _, _, _, _, _, _, _, _, _, _, _, _, _, _, _, _, _, _, _, _, _, _, _, _, _, _, _, _, _, _, _, _, _, _, _, _, _, _, _, _, _, _, _, _, _, _, _, _, _, _, _, _, _, _, _, _, _, _, _, _, _, _, _, _, _, _, _, _, _, _, _, _, _, _, _, _, _, _, _], _⟩ : Act) _
                      refine wpAnyH_take (i := 7) (v := ?_) rfl (by kernel_rfl) (by kernel_rfl) (by kernel_rfl) (fun _ _ _ h => h) (Or.inl ⟨by kernel_rfl, ?_⟩) (by assumption) ?_
                      rotate_left
                      · intro w hSw
                        clear hSw
                        go_simp
                        try with_reducible rfl
                      change wpAnyH _ _ _ _ _ _ _ (⟨#[_, _, _, _, _, _, _, _, _, _, _, _, _, _, _, _, _, _, _, _, _, _, _, _, _, _, _, _, _, _, _, _, _, _, _, _, _, _, _, _, _, _, _, _, _, _, _, _, _, _, _, _, _, _, _, _, _, _, _, _, _, _, _, _, _, _, _, _, _, _, _, _, _, _, _, _, _, _, _, _, _, _, _, _, _, _, _, _, _, _, _, _, _, _, _, _, _, _, _, _, _, _, _, _, _, _, _, _, _, _, _, _, _, _, _, _, _, _, _, _, _, _, _], _⟩ : Act) _
                      refine wpAnyH_take (i := 8) (v := ?_) rfl (by kernel_rfl) (by kernel_rfl) (by kernel_rfl) (fun _ _ _ h => h) (Or.inl ⟨by kernel_rfl, ?_⟩) (by assumption) ?_
                      rotate_left
                      · intro w hSw
                        clear hSw
                        go_simp
                        try with_reducible rfl
                      change wpAnyH _ _ _ _ _ _ _ (⟨#[_, _, _, _, _, _, _, _, _, _, _, _, _, _, _, _, _, _, _, _, _, _, _, _, _, _, _, _, _, _, _, _, _, _, _, _, _, _, _, _, _, _, _, _, _, _, _, _, _, _, _, _, _, _, _, _, _, _, _, _, _, _, _, _, _, _, _, _, _, _, _, _, _, _, _, _, _, _, _, _, _, _, _, _, _, _, _, _, _, _, _, _, _, _, _, _, _, _, _, _, _, _, _, _, _, _, _, _, _, _, _, _, _, _, _, _, _, _, _, _, _, _, _], _⟩ : Act) _
                      refine wpAnyH_ready (rs := [9]) (by kernel_rfl) (by simp) ?_
                      refine AllReadyH.cons rfl (fun K hK => ?_) AllReadyH.nil
                      go_simp
                      have HBa : Hid (Below w3.heap.size w3 (w3.alloc (.cells #[.string W0, .slice (some ⟨g3, o3 + 1, none⟩) m1 c1, .int .i64 (k1 : Int)] 38)).drew) := below_dn ((Below.refl _ w3).alloc (Nat.le_refl _) _) 1
                      have HOa : Hid ((w3.alloc (.cells #[.string W0, .slice (some ⟨g3, o3 + 1, none⟩) m1 c1, .int .i64 (k1 : Int)] 38)).drew.ownsRow w.heap.size 38 3 u5 nl (flatL ls wvs)) := (World.ownsRow.alloc HO1r.out _).drew
                      refine hK.out _ _ ((HBa.out.cell (p := ⟨g3, o3, none⟩) hg3).trans hx0) (fun hHeld => ?_)
                      clear hK K
                      change wpAnyH _ _ _ _ _ _ _ (⟨#[_, _, _, _, _, _, _, _, _, _, _, _, _, _, _, _, _, _, _, _, _, _, _, _, _, _, _, _, _, _, _, _, _, _, _, _, _, _, _, _, _, _, _, _, _, _, _, _, _, _, _, _, _, _, _, _, _, _, _, _, _, _, _, _, _, _, _, _, _, _, _, _, _, _, _, _, _, _, _, _, _, _, _, _, _, _, _, _, _, _, _, _, _, _, _, _, _, _, _, _, _, _, _, _, _, _, _, _, _, _, _, _, _, _, _, _, _, _, _, _, _, _, _], _⟩ : Act) _
                      refine wpAnyH_ready (rs := [10]) (by kernel_rfl) (by simp) ?_
                      refine AllReadyH.cons rfl (fun K hK => ?_) AllReadyH.nil
                      refine step_append_own rfl _ _ 27 rfl w.heap.size 38 i0 (.agg #[.string .empty, .slice none 0 0, .int .i64 0]) 3 48 Tryd.underlying27 hi hz0 hz1 hz2 rfl (by decide) u5 nl (flatL ls wvs) rfl HOa.out ⟨w3.heap.size, 0, none⟩ 1 1 [.string W0, .slice (some ⟨g3, o3 + 1, none⟩) m1 c1, .int .i64 (k1 : Int)] (by rfl) rfl (cellR_new _ _ _ _) (oneL _ _ _ _ _) (by unfold maxLen; omega) (by omega) (by simp; omega) ?_
                      intro v' w5 hown' hgrow
                      have HW5 : Hid (WIn w5 (.slice (some ⟨g3, o3, none⟩) nT c3) (T.map wordV)) := (HWV.out.below HBa.out).keep (grow9 HOa.out hgrow)
                      have HL5 : Hid (WIn w5 (.slice (some ⟨g, 0, none⟩) n cL) LS) := (HL3.out.below HBa.out).keep (grow9 HOa.out hgrow)
                      have HB5 : Hid (Below w.heap.size w w5) := (HBW3.out.trans (HBa.out.mono hsz3)).grown hgrow (by simp; omega) (fun k hk => (World.ownsRow.lt HO1r.out k hk).1)
                      have HP5 : Hid (RLines w5 w.heap.size v' (ls ++ [(t0.2, (T.map (·.2)).drop 1, k1)])) := by
                        refine RLines.push (by rw [← HNL.out]; exact HOa.out) HO2r.out (fun i hi => (HO3r.out i hi).below HBa.out) (l := (t0.2, (T.map (·.2)).drop 1, k1)) (wv := .slice (some ⟨g3, o3 + 1, none⟩) m1 c1) ?_ ?_ hgrow
                        · show WIn _ _ (((T.map (·.2)).drop 1).map mkB)
                          rw [HDR.out, HM1.out.1]
                          exact (HWT2.out).below HBa.out
                        · rw [← HNL.out]
                          show w5.ownsRow w.heap.size 38 3 v' (nl + 1) (flatL ls wvs ++ [strV t0.2, _, _])
                          rw [← hVS.out]
                          exact hown'
                      have HC5 : Hid (w5.cell? ⟨g3, o3, none⟩ = some (.string W0)) := by
                        have h := HW5.out
                        rw [HTR.out] at h
                        have := h.fst
                        rw [HWO.out] at this
                        exact this
                      obtain ⟨na, nc, hv'⟩ := isSlice_of hown'
                      subst hv'
                      refine hK.out _ _ HC5.out (fun hHeld => ?_)
                      clear hK K hgrow hown' HW5
                      change wpAnyH _ _ _ _ _ _ _ (⟨#[_, _, _, _, _, _, _, _, _, _, _, _, _, _, _, _, _, _, _, _, _, _, _, _, _, _, _, _, _, _, _, _, _, _, _, _, _, _, _, _, _, _, _, _, _, _, _, _, _, _, _, _, _, _, _, _, _, _, _, _, _, _, _, _, _, _, _, _, _, _, _, _, _, _, _, _, _, _, _, _, _, _, _, _, _, _, _, _, _, _, _, _, _, _, _, _, _, _, _, _, _, _, _, _, _, _, _, _, _, _, _, _, _, _, _, _, _, _, _, _, _, _, _], _⟩ : Act) _
                      refine wpAnyH_take (i := 11) (v := ?_) rfl (by kernel_rfl) (by kernel_rfl) (by kernel_rfl) (fun _ _ _ h => h) (Or.inl ⟨by kernel_rfl, ?_⟩) (by assumption) ?_
                      rotate_left
                      · intro w hSw
                        clear hSw
                        go_simp
                        try with_reducible rfl
                      change wpAnyH _ _ _ _ _ _ _ (⟨#[_, _, _, _, _, _, _, _, _, _, _, _, _, _, _, _, _, _, _, _, _, _, _, _, _, _, _, _, _, _, _, _, _, _, _, _, _, _, _, _, _, _, _, _, _, _, _, _, _, _, _, _, _, _, _, _, _, _, _, _, _, _, _, _, _, _, _, _, _, _, _, _, _, _, _, _, _, _, _, _, _, _, _, _, _, _, _, _, _, _, _, _, _, _, _, _, _, _, _, _, _, _, _, _, _, _, _, _, _, _, _, _, _, _, _, _, _, _, _, _, _, _, _], _⟩ : Act) _
                      refine wpAnyH_done (by kernel_rfl) ?_ _
                      refine NoPanic.normal ?_
                      go_wp2_with fail
                      go_roundw
                      case rel => exact ⟨k1, [], V, false, ls ++ [(t0.2, (T.map (·.2)).drop 1, k1)], by omega, by go_num, rfl, rfl, by simp, fun h => absurd rfl h, by simp; rw [← HNL.out]; omega, HP5.out, HL5.out, HB5.out, HNX.out⟩
                      case measure => (show n - ((k1 : Int)).toNat < n - ((k : Int)).toNat); omega
    · as_aux_lemma =>
          have kk : ¬ (k : Int) < (n : Int) := by omega
          have hke : k = n := by omega
          have HE : Hid ((if blk = [] then (ls, 0, 0) else ([], k + 1 - 1, 3)) = R) := by
            unfold Hid
            rw [← HLIN.out, List.drop_of_length_le (by rw [← HLL.out, ← HN.out]; omega), linG]
          cases I with
          | true =>
            have hbk : blk ≠ [] := HI.out.1 rfl
            rw [if_neg hbk] at HE
            rw [hke] at HE
            clear hke HLIN
            go_wp2_with fail
            go_ret3
            exact HFIN.out _ _ _ _ _ HE.out.symm (rlines_nil _ _) HBW.out _ rfl
          | false =>
            have hbk : blk = [] := by
              by_cases h : blk = []
              · exact h
              · exact absurd (HI.out.2 h) (by simp)
            rw [if_pos hbk] at HE
            clear hke HLIN
            go_wp2_with fail
            go_ret3
            exact HFIN.out _ _ _ _ _ HE.out.symm HO.out HBW.out _ rfl
end Go.Proofs.YtgkjmmfpbcgmgaaDoor
