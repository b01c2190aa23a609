/-
  The document's answer of snap: what stands in a folder.
-/
import Derived.Test.YtolohndbbnbfbaaDoorRSnF
import Derived.Test.YtolohndbbnbfbaaDoorSnapP
import Derived.Test.YtolohndbbnbfbaaDoorSnapS
import Derived.Maps.AppendAt
import Derived.Deep.DeepCutAuto
namespace Go.Proofs.YtolohndbbnbfbaaDoor
open Go.RowKit

theorem mk_size (l : List UInt8) : (mkB l).size = l.length := by simp [mkB, ByteArray.size]
/-- the first part of a text, and what List says of it -/
theorem part_first (r : ByteArray) : ∃ N tl, rpB r r.size = N :: tl ∧ ((N = r ∧ firstB r = r) ∨ (N.size < r.size ∧ firstB r = N ++ ⟨#[47]⟩)) := by
  have htk : r.data.toList.take r.size = r.data.toList := List.take_of_length_le (by rw [← Lib.size_eq]; exact Nat.le_refl _)
  unfold rpB
  rw [htk]
  rcases first_shape r.data.toList with ⟨h1, h2⟩ | ⟨a, b, h1, h2, h3⟩
  · refine ⟨mkB r.data.toList, [], by rw [partsL_none _ h2]; rfl, .inl ⟨ba_eq (by simp [mkB]), ba_eq ?_⟩⟩
    unfold firstB
    rw [h1]
  · refine ⟨mkB a, (partsL b).map mkB, ?_, .inr ⟨?_, ba_eq ?_⟩⟩
    · rw [h2, partsL_app, partsL_none a h1]; rfl
    · rw [mk_size, Lib.size_eq, h2]; simp
    · unfold firstB
      rw [h3]; simp [mkB]
theorem part_size (r N : ByteArray) (h : (N = r ∧ firstB r = r) ∨ (N.size < r.size ∧ firstB r = N ++ ⟨#[47]⟩)) : N.size ≤ r.size := by
  rcases h with ⟨h, _⟩ | ⟨h, _⟩
  · rw [h]; exact Nat.le_refl _
  · omega
theorem own_kept {w w' : World} {B : Nat} {v : Value} {l : List ByteArray} (h : OwnS w B v l) (hb : Below w.heap.size w w') : OwnS w' B v l := by
  refine ⟨h.1, ?_⟩
  rcases h.2 with h0 | ⟨g, cap, cur, hv, hg, hc, hr⟩
  · exact .inl h0
  · exact .inr ⟨g, cap, cur, hv, hg, by rw [hb.block g ((Array.getElem?_eq_some_iff.1 hc).1)]; exact hc, hr⟩
theorem own_far {w w1 : World} {o : Obj} {v : Value} {g : Nat} (h : (w.alloc o).grownBy w1 v.ownBlock) (hg : g < w.heap.size) (hne : v.ownBlock ≠ some g) : w1.heap[g]? = w.heap[g]? :=
  (h.block g (by simp; omega) (fun e => hne e.symm)).trans (Below.heap_alloc w o g hg)
theorem strs_same {w w' : World} {g : Nat} {l : List ByteArray} (h : StrsAt w g l) (hh : w'.heap[g]? = w.heap[g]?) : StrsAt w' g l := fun j hj =>
  (World.cell?_of_block (w := w) (a := ⟨g, j, none⟩) hh).trans (h j hj)

set_option maxHeartbeats 6000000 in
set_option maxRecDepth 50000 in
theorem rlist_any (b off c : Nat) (fs gs : List FileB) (p : ByteArray) (w : World) (hb : b < w.heap.size) (hf : FilesAt w b off fs) (hl : fs.length ≤ 1000000) (hp : gs.Perm fs) (hr : RiseS gs) (hps : ∀ f ∈ gs, f.1.size ≤ 200) :
    Calls Tryd.prog 21 #[.slice (some ⟨b, off, none⟩) fs.length c, .string p] w fun e w' => ListRet w' w.heap.size gs p e ∧ Below w.heap.size w w' := by
  obtain ⟨i0, hi, hz0, hz1, hz2⟩ := info_parts info9
  have HF := hidM hf
  have HRU := hidM (fun (Q : ByteArray) (W : World) (hW : FilesAt W b off fs) (hbW : b < W.heap.size) => runder_any b off c fs Q W hbW hW hl)
  have HRE := hidM (fun Q => rund_eq Q hp hr)
  have hgl : gs.length ≤ 1000000 := by rw [hp.length_eq]; exact hl
  have HUS : Hid (∀ Q : ByteArray, ∀ f ∈ undF gs Q, Q.size ≤ f.1.size ∧ f.1.size ≤ 200) := fun Q f hf => by
    have h1 := List.mem_filter.1 hf
    exact ⟨begins_size h1.2, hps f h1.1⟩
  have HUL : Hid (∀ Q : ByteArray, (undF gs Q).length ≤ 1000000) := fun Q => Nat.le_trans (List.length_filter_le _ _) hgl
  clear hf hp hr hps
  by_cases h0 : p.size = 0
  · have hpe : p = ByteArray.empty := by
      refine ba_eq ?_
      have := Lib.size_eq p
      rw [h0] at this
      rw [List.eq_nil_of_length_eq_zero this.symm]; rfl
    have e1 : (p.toList == []) = true := by rw [ByteArray.toList_eq, hpe]; rfl
    obtain ⟨Q, hQ⟩ : ∃ Q, Q = (⟨#[]⟩ : ByteArray) := ⟨_, rfl⟩
    obtain ⟨n, hnQ⟩ : ∃ n, n = Q.size := ⟨_, rfl⟩
    have hn0 : n = 0 := by rw [hnQ, hQ]; rfl
    have HLL : Hid (listL gs p = itemsF n (undF gs Q) ∧ (undF gs Q = [] → listE gs p = 0)) := ⟨by unfold listL; rw [if_pos h0, hn0, hQ, und_all], fun _ => by unfold listE; rw [if_pos h0]⟩
    have HLL3 : Hid (undF gs Q ≠ [] → listE gs p = 0) := fun _ => by unfold listE; rw [if_pos h0]
    obtain ⟨W0, hW0⟩ : ∃ W0, W0 = w := ⟨_, rfl⟩
    have HB0 : Hid (Below w.heap.size w W0) := by unfold Hid; rw [hW0]; exact Below.refl _ _
    have hsz0 : w.heap.size ≤ W0.heap.size := HB0.out.size
    go_enter Tryd.func21, Tryd.ntmps21
    go_upto_region 6 with fail
    rw [← hQ]
    have goalW := hW0
    clear h0 hpe hQ hn0
    rw [← hW0]
    clear hW0 goalW
    have HNQ := hidM hnQ
    clear hnQ
    have HRW := hidM (HRE.out Q)
    have hus := HUS.out Q
    have hul := HUL.out Q
    have HRN : Hid (∀ (W : World) (hW : FilesAt W b off fs) (hbW : b < W.heap.size), Calls Tryd.prog 26 #[.slice (some ⟨b, off, none⟩) fs.length c, .string Q] W fun e w' => SlRet w' W.heap.size (pathsL (undF gs Q)) e ∧ Below W.heap.size W w') := fun W hW hbW => by
      have h := HRU.out Q W hW hbW
      rw [HRW.out] at h
      exact h
    generalize undF gs Q = us at *
    have HUS2 := hidM hus
    have hpl : (pathsL us).length = us.length := by unfold pathsL; rw [List.length_map]
    have HPL := hidM hpl
    clear hus HRW HRU HRE hpl
    go_upto_region 7 with fail
    obtain ⟨W1, hW1⟩ : ∃ W1, W1 = W0.alloc (.cells #[] 9) := ⟨_, rfl⟩
    have hs1 : W1.heap.size = W0.heap.size + 1 := by rw [hW1]; simp
    have HO1 : Hid (OwnS W1 w.heap.size (.slice (some ⟨W0.heap.size, 0, none⟩) 0 0) []) := by unfold Hid; rw [hW1]; exact World.ownsRow_made W0 #[] 0 hsz0 (Nat.zero_le _) (by simp)
    have HB1 : Hid (Below w.heap.size w W1) := by unfold Hid; rw [hW1]; exact HB0.out.alloc hsz0 _
    rw [← hW1]
    clear hW1
    have HS1 := hidM hs1
    clear hs1
    go_wp2_with fail
    refine (HRN.out W1 (HF.out.below HB1.out hb) (by have := HB1.out.size; omega)).mono ?_
    rintro _ W2 ⟨⟨v2, hv2, rfl⟩, hb2⟩
    obtain ⟨a2, c2, rfl, hsh⟩ := hv2.shape
    have HSH : Hid (us ≠ [] → ∃ g, a2 = some ⟨g, 0, none⟩ ∧ W1.heap.size ≤ g ∧ g < W2.heap.size ∧ StrsAt W2 g (pathsL us)) := fun h => hsh (fun e => h (by unfold pathsL at e; simpa using e))
    have HO2 : Hid (OwnS W2 w.heap.size (.slice (some ⟨W0.heap.size, 0, none⟩) 0 0) []) := own_kept HO1.out hb2
    have HB2 : Hid (Below w.heap.size w W2) := HB1.out.trans (hb2.mono HB1.out.size)
    rw [HPL.out]
    clear hv2 hsh hb2 HO1 HB1
    obtain ⟨g, hgW, hg⟩ : ∃ g, W1.heap.size ≤ g ∧ (us ≠ [] → a2 = some ⟨g, 0, none⟩ ∧ g < W2.heap.size ∧ StrsAt W2 g (pathsL us)) := by
      by_cases h : us = []
      · exact ⟨W1.heap.size, Nat.le_refl _, fun hn => absurd h hn⟩
      · obtain ⟨g, h1, h2, h3, h4⟩ := HSH.out h
        exact ⟨g, h2, fun _ => ⟨h1, h3, h4⟩⟩
    have HG := hidM hg
    have hg0 : g ≠ W0.heap.size := by have := HS1.out; omega
    clear HSH hg hgW
    go_wp2
    go_loopw [7, 24] (fun v i wr => ∃ (k : Nat), k ≤ us.length ∧ i = .int .i64 k ∧ OwnS wr w.heap.size v (itemsF n (us.take k)) ∧ Below w.heap.size w wr ∧ (k < us.length ∨ us ≠ [] → StrsAt wr g (pathsL us) ∧ g < wr.heap.size) ∧ v.ownBlock ≠ some g) (fun _ i _ => us.length - (intOf i).toNat)
    case atStart => exact ⟨0, Nat.zero_le _, rfl, HO2.out, HB2.out, fun h => (fun hn => ⟨(HG.out hn).2.2, (HG.out hn).2.1⟩) (h.elim (fun h e => by rw [e] at h; simp at h) id), by simp [Value.ownBlock]; exact fun e => hg0 e.symm⟩
    case round =>
      obtain ⟨k, hk, rfl, hown, hbr, hst, hvg⟩ := hrel
      have HO := hidM hown
      have HB := hidM hbr
      have HVG := hidM hvg
      have hsz := hbr.size
      clear hown hbr hvg HO2 HB2
      by_cases hlt : k < us.length
      · have kk : (k : Int) < (us.length : Int) := by omega
        have hne : us ≠ [] := fun e => by rw [e] at hlt; simp at hlt
        obtain ⟨h1, h2⟩ := hst (.inl hlt)
        have HST := hidM h1
        have ha2 := (HG.out hne).1
        subst ha2
        have c1 := h1 k (by rw [HPL.out]; exact hlt)
        have hpk : (pathsL us)[k]'(by rw [HPL.out]; exact hlt) = us[k].1 := by unfold pathsL; simp
        rw [hpk] at c1
        have hbd := HUS2.out us[k] (List.getElem_mem hlt)
        have HT := hidM (itemsF_take n us k hlt)
        have hil := itemsF_len n us k hk
        unfold itemOf at HT
        generalize us[k].1 = X at *
        generalize itemsF n (us.take k) = L at *
        have p1 : (Q.size : Int) ≤ (X.size : Int) := by omega
        have hXe : X.extract n X.size = X.extract Q.size X.size := by rw [HNQ.out]
        rw [hXe] at HT
        clear hXe
        have hrs : (X.extract Q.size X.size).size ≤ 200 := by rw [ByteArray.size_extract]; omega
        obtain ⟨N, tl, hN, hcase⟩ := part_first (X.extract Q.size X.size)
        have hRP := rparts_any (X.extract Q.size X.size) wr (by omega)
        rw [hN] at hRP
        have hNs := part_size _ _ hcase
        have HRP := hidM hRP
        clear hst h1 hpk hN hRP
        go_upto_region 11 with fail
        generalize X.extract Q.size X.size = R at *
        go_wp2_with fail
        refine HRP.out.mono ?_
        rintro _ w5 ⟨⟨v5, hv5, rfl⟩, hb5⟩
        obtain ⟨a5, c5, rfl, hsh5⟩ := hv5.shape
        obtain ⟨g5, rfl, _, _, hst5⟩ := hsh5 (by simp)
        have cN := hst5 0 (by simp)
        simp only [List.getElem_cons_zero] at cN
        have hl5 : 0 < (N :: tl).length := by simp
        obtain ⟨m5, hm5⟩ : ∃ m5, m5 = (N :: tl).length := ⟨_, rfl⟩
        rw [← hm5] at hl5
        rw [← hm5]
        have HO1 : Hid (OwnS w5 w.heap.size u7 L) := own_kept HO.out hb5
        have HB5 : Hid (Below w.heap.size w w5) := HB.out.trans (hb5.mono hsz)
        have HST5 : Hid (StrsAt w5 g (pathsL us)) := HST.out.below hb5 h2
        have hsz5 : w.heap.size ≤ w5.heap.size := HB5.out.size
        have hg5 : g < w5.heap.size := Nat.lt_of_lt_of_le h2 hb5.size
        have l5 : (0 : Int) < (m5 : Int) := by omega
        clear hv5 hsh5 hst5 hb5 HO HB HST HRP hm5
        obtain ⟨I, hI⟩ : ∃ I, I = firstB R := ⟨_, rfl⟩
        rw [← hI] at HT hcase
        have key : (N.size < R.size ∧ N ++ ⟨#[47]⟩ = I) ∨ (¬ N.size < R.size ∧ N = I) := by
          rcases hcase with ⟨h1, h2⟩ | ⟨h1, h2⟩
          · exact .inr ⟨by rw [h1]; omega, by rw [h1, h2]⟩
          · exact .inl ⟨h1, h2.symm⟩
        have hIs : I.size ≤ 300 := by
          rcases key with ⟨_, h⟩ | ⟨_, h⟩
          · rw [← h, ByteArray.size_append]; show N.size + 1 ≤ 300; omega
          · rw [← h]; omega
        clear hI hcase
        rcases key with ⟨hlt2, hI⟩ | ⟨hlt2, hI⟩
        · have d1 : (N.size : Int) < (R.size : Int) := by omega
          go_upto_region 14 with fail
          try rw [hI]
          clear hI hlt2 d1 cN
          obtain ⟨a, cp, rfl, hsh⟩ := HO1.out.shape
          have HSH := hidM hsh
          clear hsh
          by_cases hLn : L = []
          · subst hLn
            have HS : Hid (stepI [] I = [] ++ [I]) := by unfold Hid stepI; rfl
            go_wp2_with (first
              | (at_builtin; go_loud (refine wpList_append_own_at _ rfl _ _ 37 rfl w.heap.size 9 i0 (.string .empty) 1 16 Tryd.underlying37 hi hz0 hz1 hz2 rfl (by decide) _ _ _ rfl (World.ownsRow.alloc HO1.out _) ⟨w5.heap.size, 0, none⟩ 1 1 [.string I] ?f0 rfl ?f1 ?f2 ?f3 ?f4 ?f5 ?_)))
            try (case f0 => rfl)
            try (case f1 => exact cell_new_at _ _ _ _ rfl)
            case f2 => first | rfl | (intro u hu; simp at hu; subst hu; rfl)
            case f3 => first | (unfold maxLen; omega) | (simp [maxLen]; omega) | simp [maxLen]
            case f4 => first | omega | (simp; omega) | simp
            case f5 => first | omega | (simp; omega)
            intro v' w6 hown' hgrow _ hloc
            have HO2 := hidM (OwnS.push (l := []) hown')
            have HB6 := hidM (OwnS.below HO1.out HB5.out hsz5 hgrow)
            have HG6 := hidM (own_far hgrow hg5 HVG.out)
            have HV6 : Hid (v'.ownBlock ≠ some g) := by
              rcases hloc with h | h
              · rw [h]; exact HVG.out
              · rw [h]; intro e; simp at e; omega
            have hs6 : w5.heap.size ≤ w6.heap.size := by have := hgrow.size; simp at this; omega
            clear hown' hgrow hloc
            go_wp2
            refine ⟨⟨k + 1, by omega, by go_num, by rw [HT.out, HS.out]; exact HO2.out, HB6.out, fun _ => ⟨strs_same HST5.out HG6.out, by omega⟩, HV6.out⟩, ?_⟩
            simp [intOf]; omega
          · obtain ⟨g7, rfl, hg1, hg2, hst⟩ := HSH.out hLn
            have h0 : 0 < L.length := List.length_pos_iff.2 hLn
            obtain ⟨m, hm⟩ : ∃ m, m = L.length - 1 := ⟨_, rfl⟩
            have hml : m < L.length := by omega
            have cm := hst m hml
            have HLast : Hid (L.getLast? = some L[m]) := by
              unfold Hid
              rw [List.getLast?_eq_getElem?, ← hm, List.getElem?_eq_getElem hml]
            have e0 : ((L.length : Int) == 0) = false := by simp; omega
            have e1 : (L.length : Int) - 1 = (m : Int) := by omega
            have e2 : (m : Int) < (L.length : Int) := by omega
            generalize L[m] = Y at *
            clear hst HSH hm
            by_cases hY : Y = I
            · have HS : Hid (stepI L I = L) := by unfold Hid stepI; rw [HLast.out, hY, if_pos rfl]
              subst hY
              go_wp2
              refine ⟨⟨k + 1, by omega, by go_num, by rw [HT.out, HS.out]; exact HO1.out, HB5.out, fun _ => ⟨HST5.out, hg5⟩, HVG.out⟩, ?_⟩
              simp [intOf]; omega
            · have HS : Hid (stepI L I = L ++ [I]) := by unfold Hid stepI; rw [HLast.out, if_neg (by simpa using hY)]
              have e3 : (Y.toList == I.toList) = false := by
                rw [ByteArray.toList_eq, ByteArray.toList_eq]
                exact beq_false_of_ne fun h => hY (ba_eq h)
              clear hY
              go_wp2_with (first
                | (at_builtin; go_loud (refine wpList_append_own_at _ rfl _ _ 37 rfl w.heap.size 9 i0 (.string .empty) 1 16 Tryd.underlying37 hi hz0 hz1 hz2 rfl (by decide) _ _ _ rfl (World.ownsRow.alloc HO1.out _) ⟨w5.heap.size, 0, none⟩ 1 1 [.string I] ?f0 rfl ?f1 ?f2 ?f3 ?f4 ?f5 ?_)))
              try (case f0 => rfl)
              try (case f1 => exact cell_new_at _ _ _ _ rfl)
              case f2 => first | rfl | (intro u hu; simp at hu; subst hu; rfl)
              case f3 => first | (unfold maxLen; omega) | (simp [maxLen]; omega) | simp [maxLen]
              case f4 => first | omega | (simp; omega) | simp
              case f5 => first | omega | (simp; omega)
              intro v' w6 hown' hgrow _ hloc
              have HO2 := hidM (OwnS.push (l := L) hown')
              have HB6 := hidM (OwnS.below HO1.out HB5.out hsz5 hgrow)
              have HG6 := hidM (own_far hgrow hg5 HVG.out)
              have HV6 : Hid (v'.ownBlock ≠ some g) := by
                rcases hloc with h | h
                · rw [h]; exact HVG.out
                · rw [h]; intro e; simp at e; omega
              have hs6 : w5.heap.size ≤ w6.heap.size := by have := hgrow.size; simp at this; omega
              clear hown' hgrow hloc
              go_wp2
              refine ⟨⟨k + 1, by omega, by go_num, by rw [HT.out, HS.out]; exact HO2.out, HB6.out, fun _ => ⟨strs_same HST5.out HG6.out, by omega⟩, HV6.out⟩, ?_⟩
              simp [intOf]; omega
        · have d1 : ¬ (N.size : Int) < (R.size : Int) := by omega
          have HI := hidM hI
          clear hI
          go_upto_region 14 with fail
          rw [HI.out]
          clear HI hlt2 d1 cN
          obtain ⟨a, cp, rfl, hsh⟩ := HO1.out.shape
          have HSH := hidM hsh
          clear hsh
          by_cases hLn : L = []
          · subst hLn
            have HS : Hid (stepI [] I = [] ++ [I]) := by unfold Hid stepI; rfl
            go_wp2_with (first
              | (at_builtin; go_loud (refine wpList_append_own_at _ rfl _ _ 37 rfl w.heap.size 9 i0 (.string .empty) 1 16 Tryd.underlying37 hi hz0 hz1 hz2 rfl (by decide) _ _ _ rfl (World.ownsRow.alloc HO1.out _) ⟨w5.heap.size, 0, none⟩ 1 1 [.string I] ?f0 rfl ?f1 ?f2 ?f3 ?f4 ?f5 ?_)))
            try (case f0 => rfl)
            try (case f1 => exact cell_new_at _ _ _ _ rfl)
            case f2 => first | rfl | (intro u hu; simp at hu; subst hu; rfl)
            case f3 => first | (unfold maxLen; omega) | (simp [maxLen]; omega) | simp [maxLen]
            case f4 => first | omega | (simp; omega) | simp
            case f5 => first | omega | (simp; omega)
            intro v' w6 hown' hgrow _ hloc
            have HO2 := hidM (OwnS.push (l := []) hown')
            have HB6 := hidM (OwnS.below HO1.out HB5.out hsz5 hgrow)
            have HG6 := hidM (own_far hgrow hg5 HVG.out)
            have HV6 : Hid (v'.ownBlock ≠ some g) := by
              rcases hloc with h | h
              · rw [h]; exact HVG.out
              · rw [h]; intro e; simp at e; omega
            have hs6 : w5.heap.size ≤ w6.heap.size := by have := hgrow.size; simp at this; omega
            clear hown' hgrow hloc
            go_wp2
            refine ⟨⟨k + 1, by omega, by go_num, by rw [HT.out, HS.out]; exact HO2.out, HB6.out, fun _ => ⟨strs_same HST5.out HG6.out, by omega⟩, HV6.out⟩, ?_⟩
            simp [intOf]; omega
          · obtain ⟨g7, rfl, hg1, hg2, hst⟩ := HSH.out hLn
            have h0 : 0 < L.length := List.length_pos_iff.2 hLn
            obtain ⟨m, hm⟩ : ∃ m, m = L.length - 1 := ⟨_, rfl⟩
            have hml : m < L.length := by omega
            have cm := hst m hml
            have HLast : Hid (L.getLast? = some L[m]) := by
              unfold Hid
              rw [List.getLast?_eq_getElem?, ← hm, List.getElem?_eq_getElem hml]
            have e0 : ((L.length : Int) == 0) = false := by simp; omega
            have e1 : (L.length : Int) - 1 = (m : Int) := by omega
            have e2 : (m : Int) < (L.length : Int) := by omega
            generalize L[m] = Y at *
            clear hst HSH hm
            by_cases hY : Y = I
            · have HS : Hid (stepI L I = L) := by unfold Hid stepI; rw [HLast.out, hY, if_pos rfl]
              subst hY
              go_wp2
              refine ⟨⟨k + 1, by omega, by go_num, by rw [HT.out, HS.out]; exact HO1.out, HB5.out, fun _ => ⟨HST5.out, hg5⟩, HVG.out⟩, ?_⟩
              simp [intOf]; omega
            · have HS : Hid (stepI L I = L ++ [I]) := by unfold Hid stepI; rw [HLast.out, if_neg (by simpa using hY)]
              have e3 : (Y.toList == I.toList) = false := by
                rw [ByteArray.toList_eq, ByteArray.toList_eq]
                exact beq_false_of_ne fun h => hY (ba_eq h)
              clear hY
              go_wp2_with (first
                | (at_builtin; go_loud (refine wpList_append_own_at _ rfl _ _ 37 rfl w.heap.size 9 i0 (.string .empty) 1 16 Tryd.underlying37 hi hz0 hz1 hz2 rfl (by decide) _ _ _ rfl (World.ownsRow.alloc HO1.out _) ⟨w5.heap.size, 0, none⟩ 1 1 [.string I] ?f0 rfl ?f1 ?f2 ?f3 ?f4 ?f5 ?_)))
              try (case f0 => rfl)
              try (case f1 => exact cell_new_at _ _ _ _ rfl)
              case f2 => first | rfl | (intro u hu; simp at hu; subst hu; rfl)
              case f3 => first | (unfold maxLen; omega) | (simp [maxLen]; omega) | simp [maxLen]
              case f4 => first | omega | (simp; omega) | simp
              case f5 => first | omega | (simp; omega)
              intro v' w6 hown' hgrow _ hloc
              have HO2 := hidM (OwnS.push (l := L) hown')
              have HB6 := hidM (OwnS.below HO1.out HB5.out hsz5 hgrow)
              have HG6 := hidM (own_far hgrow hg5 HVG.out)
              have HV6 : Hid (v'.ownBlock ≠ some g) := by
                rcases hloc with h | h
                · rw [h]; exact HVG.out
                · rw [h]; intro e; simp at e; omega
              have hs6 : w5.heap.size ≤ w6.heap.size := by have := hgrow.size; simp at this; omega
              clear hown' hgrow hloc
              go_wp2
              refine ⟨⟨k + 1, by omega, by go_num, by rw [HT.out, HS.out]; exact HO2.out, HB6.out, fun _ => ⟨strs_same HST5.out HG6.out, by omega⟩, HV6.out⟩, ?_⟩
              simp [intOf]; omega
      · obtain rfl : k = us.length := by omega
        rw [List.take_of_length_le (Nat.le_refl _)] at HO
        obtain ⟨a7, c7, rfl, _⟩ := HO.out.shape
        have HNIL : Hid (itemsF n us = [] ↔ us = []) := itemsF_nil
        have hil := itemsF_len n us us.length (Nat.le_refl _)
        rw [List.take_of_length_le (Nat.le_refl _)] at hil
        by_cases hus0 : us = []
        · have hI0 := HNIL.out.2 hus0
          have HL7 := hidM hI0
          rw [hI0] at HO hil
          rw [hI0]
          go_wp2
          go_ret2
          exact ⟨⟨_, by rw [HLL.out.1, HL7.out]; exact HO.out, by rw [HLL.out.2 hus0]; rfl⟩, HB.out⟩
        · have hI0 : itemsF n us ≠ [] := fun e => hus0 (HNIL.out.1 e)
          have h0 : 0 < (itemsF n us).length := List.length_pos_iff.2 hI0
          have HLE := hidM (HLL3.out hus0)
          generalize itemsF n us = IT at *
          have e0 : ((IT.length : Int) == 0) = false := by simp; omega
          go_wp2
          go_ret2
          exact ⟨⟨_, by rw [HLL.out.1]; exact HO.out, by rw [HLE.out]; rfl⟩, HB.out⟩
  have e1 : (p.toList == []) = false := by
    rw [ByteArray.toList_eq]
    refine beq_false_of_ne fun h => h0 ?_
    rw [Lib.size_eq, h]; rfl
  cases hcl : cleanB p
  · have HL : Hid (listL gs p = [] ∧ listE gs p = 4) := ⟨by unfold listL; rw [if_neg h0, hcl]; rfl, by unfold listE; rw [if_neg h0, hcl]; rfl⟩
    have HC := hidM (fun W => rclean_any p W)
    rw [hcl] at HC
    clear h0 hcl
    go_enter Tryd.func21, Tryd.ntmps21
    go_wp2_with fail
    refine (HC.out _).mono ?_
    rintro _ w1 ⟨rfl, hb1⟩
    go_wp2_with fail
    go_ret2
    exact ⟨⟨_, by rw [HL.out.1]; exact World.ownsRow_nil _ _ _ _, by rw [HL.out.2]; rfl⟩, hb1⟩
  · obtain ⟨Q, hQ⟩ : ∃ Q, Q = p ++ (⟨#[47]⟩ : ByteArray) := ⟨_, rfl⟩
    obtain ⟨n, hnQ⟩ : ∃ n, n = Q.size := ⟨_, rfl⟩
    have hn1 : n = p.size + 1 := by rw [hnQ, hQ, ByteArray.size_append]; rfl
    have hQs : Q = p ++ slashB := by rw [hQ]; rfl
    have HLL : Hid (listL gs p = itemsF n (undF gs Q) ∧ (undF gs Q = [] → listE gs p = 7)) := ⟨by unfold listL; rw [if_neg h0, hcl, hn1, hQs]; rfl, fun h => by unfold listE; rw [if_neg h0, hcl, ← hQs, h]; rfl⟩
    have HLL3 : Hid (undF gs Q ≠ [] → listE gs p = 0) := fun h => by unfold listE; rw [if_neg h0, hcl, ← hQs]; exact (if_neg h)
    have HC := hidM (fun W => rclean_any p W)
    have hps2 := clean_size hcl
    rw [hcl] at HC
    clear h0 hcl hQs
    go_enter Tryd.func21, Tryd.ntmps21
    go_wp2_with fail
    refine (HC.out _).mono ?_
    rintro _ W0 ⟨rfl, hb1⟩
    have HB0 := hidM hb1
    have hsz0 : w.heap.size ≤ W0.heap.size := hb1.size
    have HQQ := hidM hQ
    clear hb1 hQ
    go_upto_region 6 with fail
    rw [← HQQ.out]
    clear HQQ hn1
    have HNQ := hidM hnQ
    clear hnQ
    have HRW := hidM (HRE.out Q)
    have hus := HUS.out Q
    have hul := HUL.out Q
    have HRN : Hid (∀ (W : World) (hW : FilesAt W b off fs) (hbW : b < W.heap.size), Calls Tryd.prog 26 #[.slice (some ⟨b, off, none⟩) fs.length c, .string Q] W fun e w' => SlRet w' W.heap.size (pathsL (undF gs Q)) e ∧ Below W.heap.size W w') := fun W hW hbW => by
      have h := HRU.out Q W hW hbW
      rw [HRW.out] at h
      exact h
    generalize undF gs Q = us at *
    have HUS2 := hidM hus
    have hpl : (pathsL us).length = us.length := by unfold pathsL; rw [List.length_map]
    have HPL := hidM hpl
    clear hus HRW HRU HRE hpl
    go_upto_region 7 with fail
    obtain ⟨W1, hW1⟩ : ∃ W1, W1 = W0.alloc (.cells #[] 9) := ⟨_, rfl⟩
    have hs1 : W1.heap.size = W0.heap.size + 1 := by rw [hW1]; simp
    have HO1 : Hid (OwnS W1 w.heap.size (.slice (some ⟨W0.heap.size, 0, none⟩) 0 0) []) := by unfold Hid; rw [hW1]; exact World.ownsRow_made W0 #[] 0 hsz0 (Nat.zero_le _) (by simp)
    have HB1 : Hid (Below w.heap.size w W1) := by unfold Hid; rw [hW1]; exact HB0.out.alloc hsz0 _
    rw [← hW1]
    clear hW1
    have HS1 := hidM hs1
    clear hs1
    go_wp2_with fail
    refine (HRN.out W1 (HF.out.below HB1.out hb) (by have := HB1.out.size; omega)).mono ?_
    rintro _ W2 ⟨⟨v2, hv2, rfl⟩, hb2⟩
    obtain ⟨a2, c2, rfl, hsh⟩ := hv2.shape
    have HSH : Hid (us ≠ [] → ∃ g, a2 = some ⟨g, 0, none⟩ ∧ W1.heap.size ≤ g ∧ g < W2.heap.size ∧ StrsAt W2 g (pathsL us)) := fun h => hsh (fun e => h (by unfold pathsL at e; simpa using e))
    have HO2 : Hid (OwnS W2 w.heap.size (.slice (some ⟨W0.heap.size, 0, none⟩) 0 0) []) := own_kept HO1.out hb2
    have HB2 : Hid (Below w.heap.size w W2) := HB1.out.trans (hb2.mono HB1.out.size)
    rw [HPL.out]
    clear hv2 hsh hb2 HO1 HB1
    obtain ⟨g, hgW, hg⟩ : ∃ g, W1.heap.size ≤ g ∧ (us ≠ [] → a2 = some ⟨g, 0, none⟩ ∧ g < W2.heap.size ∧ StrsAt W2 g (pathsL us)) := by
      by_cases h : us = []
      · exact ⟨W1.heap.size, Nat.le_refl _, fun hn => absurd h hn⟩
      · obtain ⟨g, h1, h2, h3, h4⟩ := HSH.out h
        exact ⟨g, h2, fun _ => ⟨h1, h3, h4⟩⟩
    have HG := hidM hg
    have hg0 : g ≠ W0.heap.size := by have := HS1.out; omega
    clear HSH hg hgW
    go_wp2
    go_loopw [7, 24] (fun v i wr => ∃ (k : Nat), k ≤ us.length ∧ i = .int .i64 k ∧ OwnS wr w.heap.size v (itemsF n (us.take k)) ∧ Below w.heap.size w wr ∧ (k < us.length ∨ us ≠ [] → StrsAt wr g (pathsL us) ∧ g < wr.heap.size) ∧ v.ownBlock ≠ some g) (fun _ i _ => us.length - (intOf i).toNat)
    case atStart => exact ⟨0, Nat.zero_le _, rfl, HO2.out, HB2.out, fun h => (fun hn => ⟨(HG.out hn).2.2, (HG.out hn).2.1⟩) (h.elim (fun h e => by rw [e] at h; simp at h) id), by simp [Value.ownBlock]; exact fun e => hg0 e.symm⟩
    case round =>
      obtain ⟨k, hk, rfl, hown, hbr, hst, hvg⟩ := hrel
      have HO := hidM hown
      have HB := hidM hbr
      have HVG := hidM hvg
      have hsz := hbr.size
      clear hown hbr hvg HO2 HB2
      by_cases hlt : k < us.length
      · have kk : (k : Int) < (us.length : Int) := by omega
        have hne : us ≠ [] := fun e => by rw [e] at hlt; simp at hlt
        obtain ⟨h1, h2⟩ := hst (.inl hlt)
        have HST := hidM h1
        have ha2 := (HG.out hne).1
        subst ha2
        have c1 := h1 k (by rw [HPL.out]; exact hlt)
        have hpk : (pathsL us)[k]'(by rw [HPL.out]; exact hlt) = us[k].1 := by unfold pathsL; simp
        rw [hpk] at c1
        have hbd := HUS2.out us[k] (List.getElem_mem hlt)
        have HT := hidM (itemsF_take n us k hlt)
        have hil := itemsF_len n us k hk
        unfold itemOf at HT
        generalize us[k].1 = X at *
        generalize itemsF n (us.take k) = L at *
        have p1 : (Q.size : Int) ≤ (X.size : Int) := by omega
        have hXe : X.extract n X.size = X.extract Q.size X.size := by rw [HNQ.out]
        rw [hXe] at HT
        clear hXe
        have hrs : (X.extract Q.size X.size).size ≤ 200 := by rw [ByteArray.size_extract]; omega
        obtain ⟨N, tl, hN, hcase⟩ := part_first (X.extract Q.size X.size)
        have hRP := rparts_any (X.extract Q.size X.size) wr (by omega)
        rw [hN] at hRP
        have hNs := part_size _ _ hcase
        have HRP := hidM hRP
        clear hst h1 hpk hN hRP
        go_upto_region 11 with fail
        generalize X.extract Q.size X.size = R at *
        go_wp2_with fail
        refine HRP.out.mono ?_
        rintro _ w5 ⟨⟨v5, hv5, rfl⟩, hb5⟩
        obtain ⟨a5, c5, rfl, hsh5⟩ := hv5.shape
        obtain ⟨g5, rfl, _, _, hst5⟩ := hsh5 (by simp)
        have cN := hst5 0 (by simp)
        simp only [List.getElem_cons_zero] at cN
        have hl5 : 0 < (N :: tl).length := by simp
        obtain ⟨m5, hm5⟩ : ∃ m5, m5 = (N :: tl).length := ⟨_, rfl⟩
        rw [← hm5] at hl5
        rw [← hm5]
        have HO1 : Hid (OwnS w5 w.heap.size u7 L) := own_kept HO.out hb5
        have HB5 : Hid (Below w.heap.size w w5) := HB.out.trans (hb5.mono hsz)
        have HST5 : Hid (StrsAt w5 g (pathsL us)) := HST.out.below hb5 h2
        have hsz5 : w.heap.size ≤ w5.heap.size := HB5.out.size
        have hg5 : g < w5.heap.size := Nat.lt_of_lt_of_le h2 hb5.size
        have l5 : (0 : Int) < (m5 : Int) := by omega
        clear hv5 hsh5 hst5 hb5 HO HB HST HRP hm5
        obtain ⟨I, hI⟩ : ∃ I, I = firstB R := ⟨_, rfl⟩
        rw [← hI] at HT hcase
        have key : (N.size < R.size ∧ N ++ ⟨#[47]⟩ = I) ∨ (¬ N.size < R.size ∧ N = I) := by
          rcases hcase with ⟨h1, h2⟩ | ⟨h1, h2⟩
          · exact .inr ⟨by rw [h1]; omega, by rw [h1, h2]⟩
          · exact .inl ⟨h1, h2.symm⟩
        have hIs : I.size ≤ 300 := by
          rcases key with ⟨_, h⟩ | ⟨_, h⟩
          · rw [← h, ByteArray.size_append]; show N.size + 1 ≤ 300; omega
          · rw [← h]; omega
        clear hI hcase
        rcases key with ⟨hlt2, hI⟩ | ⟨hlt2, hI⟩
        · have d1 : (N.size : Int) < (R.size : Int) := by omega
          go_upto_region 14 with fail
          try rw [hI]
          clear hI hlt2 d1 cN
          obtain ⟨a, cp, rfl, hsh⟩ := HO1.out.shape
          have HSH := hidM hsh
          clear hsh
          by_cases hLn : L = []
          · subst hLn
            have HS : Hid (stepI [] I = [] ++ [I]) := by unfold Hid stepI; rfl
            go_wp2_with (first
              | (at_builtin; go_loud (refine wpList_append_own_at _ rfl _ _ 37 rfl w.heap.size 9 i0 (.string .empty) 1 16 Tryd.underlying37 hi hz0 hz1 hz2 rfl (by decide) _ _ _ rfl (World.ownsRow.alloc HO1.out _) ⟨w5.heap.size, 0, none⟩ 1 1 [.string I] ?f0 rfl ?f1 ?f2 ?f3 ?f4 ?f5 ?_)))
            try (case f0 => rfl)
            try (case f1 => exact cell_new_at _ _ _ _ rfl)
            case f2 => first | rfl | (intro u hu; simp at hu; subst hu; rfl)
            case f3 => first | (unfold maxLen; omega) | (simp [maxLen]; omega) | simp [maxLen]
            case f4 => first | omega | (simp; omega) | simp
            case f5 => first | omega | (simp; omega)
            intro v' w6 hown' hgrow _ hloc
            have HO2 := hidM (OwnS.push (l := []) hown')
            have HB6 := hidM (OwnS.below HO1.out HB5.out hsz5 hgrow)
            have HG6 := hidM (own_far hgrow hg5 HVG.out)
            have HV6 : Hid (v'.ownBlock ≠ some g) := by
              rcases hloc with h | h
              · rw [h]; exact HVG.out
              · rw [h]; intro e; simp at e; omega
            have hs6 : w5.heap.size ≤ w6.heap.size := by have := hgrow.size; simp at this; omega
            clear hown' hgrow hloc
            go_wp2
            refine ⟨⟨k + 1, by omega, by go_num, by rw [HT.out, HS.out]; exact HO2.out, HB6.out, fun _ => ⟨strs_same HST5.out HG6.out, by omega⟩, HV6.out⟩, ?_⟩
            simp [intOf]; omega
          · obtain ⟨g7, rfl, hg1, hg2, hst⟩ := HSH.out hLn
            have h0 : 0 < L.length := List.length_pos_iff.2 hLn
            obtain ⟨m, hm⟩ : ∃ m, m = L.length - 1 := ⟨_, rfl⟩
            have hml : m < L.length := by omega
            have cm := hst m hml
            have HLast : Hid (L.getLast? = some L[m]) := by
              unfold Hid
              rw [List.getLast?_eq_getElem?, ← hm, List.getElem?_eq_getElem hml]
            have e0 : ((L.length : Int) == 0) = false := by simp; omega
            have e1 : (L.length : Int) - 1 = (m : Int) := by omega
            have e2 : (m : Int) < (L.length : Int) := by omega
            generalize L[m] = Y at *
            clear hst HSH hm
            by_cases hY : Y = I
            · have HS : Hid (stepI L I = L) := by unfold Hid stepI; rw [HLast.out, hY, if_pos rfl]
              subst hY
              go_wp2
              refine ⟨⟨k + 1, by omega, by go_num, by rw [HT.out, HS.out]; exact HO1.out, HB5.out, fun _ => ⟨HST5.out, hg5⟩, HVG.out⟩, ?_⟩
              simp [intOf]; omega
            · have HS : Hid (stepI L I = L ++ [I]) := by unfold Hid stepI; rw [HLast.out, if_neg (by simpa using hY)]
              have e3 : (Y.toList == I.toList) = false := by
                rw [ByteArray.toList_eq, ByteArray.toList_eq]
                exact beq_false_of_ne fun h => hY (ba_eq h)
              clear hY
              go_wp2_with (first
                | (at_builtin; go_loud (refine wpList_append_own_at _ rfl _ _ 37 rfl w.heap.size 9 i0 (.string .empty) 1 16 Tryd.underlying37 hi hz0 hz1 hz2 rfl (by decide) _ _ _ rfl (World.ownsRow.alloc HO1.out _) ⟨w5.heap.size, 0, none⟩ 1 1 [.string I] ?f0 rfl ?f1 ?f2 ?f3 ?f4 ?f5 ?_)))
              try (case f0 => rfl)
              try (case f1 => exact cell_new_at _ _ _ _ rfl)
              case f2 => first | rfl | (intro u hu; simp at hu; subst hu; rfl)
              case f3 => first | (unfold maxLen; omega) | (simp [maxLen]; omega) | simp [maxLen]
              case f4 => first | omega | (simp; omega) | simp
              case f5 => first | omega | (simp; omega)
              intro v' w6 hown' hgrow _ hloc
              have HO2 := hidM (OwnS.push (l := L) hown')
              have HB6 := hidM (OwnS.below HO1.out HB5.out hsz5 hgrow)
              have HG6 := hidM (own_far hgrow hg5 HVG.out)
              have HV6 : Hid (v'.ownBlock ≠ some g) := by
                rcases hloc with h | h
                · rw [h]; exact HVG.out
                · rw [h]; intro e; simp at e; omega
              have hs6 : w5.heap.size ≤ w6.heap.size := by have := hgrow.size; simp at this; omega
              clear hown' hgrow hloc
              go_wp2
              refine ⟨⟨k + 1, by omega, by go_num, by rw [HT.out, HS.out]; exact HO2.out, HB6.out, fun _ => ⟨strs_same HST5.out HG6.out, by omega⟩, HV6.out⟩, ?_⟩
              simp [intOf]; omega
        · have d1 : ¬ (N.size : Int) < (R.size : Int) := by omega
          have HI := hidM hI
          clear hI
          go_upto_region 14 with fail
          rw [HI.out]
          clear HI hlt2 d1 cN
          obtain ⟨a, cp, rfl, hsh⟩ := HO1.out.shape
          have HSH := hidM hsh
          clear hsh
          by_cases hLn : L = []
          · subst hLn
            have HS : Hid (stepI [] I = [] ++ [I]) := by unfold Hid stepI; rfl
            go_wp2_with (first
              | (at_builtin; go_loud (refine wpList_append_own_at _ rfl _ _ 37 rfl w.heap.size 9 i0 (.string .empty) 1 16 Tryd.underlying37 hi hz0 hz1 hz2 rfl (by decide) _ _ _ rfl (World.ownsRow.alloc HO1.out _) ⟨w5.heap.size, 0, none⟩ 1 1 [.string I] ?f0 rfl ?f1 ?f2 ?f3 ?f4 ?f5 ?_)))
            try (case f0 => rfl)
            try (case f1 => exact cell_new_at _ _ _ _ rfl)
            case f2 => first | rfl | (intro u hu; simp at hu; subst hu; rfl)
            case f3 => first | (unfold maxLen; omega) | (simp [maxLen]; omega) | simp [maxLen]
            case f4 => first | omega | (simp; omega) | simp
            case f5 => first | omega | (simp; omega)
            intro v' w6 hown' hgrow _ hloc
            have HO2 := hidM (OwnS.push (l := []) hown')
            have HB6 := hidM (OwnS.below HO1.out HB5.out hsz5 hgrow)
            have HG6 := hidM (own_far hgrow hg5 HVG.out)
            have HV6 : Hid (v'.ownBlock ≠ some g) := by
              rcases hloc with h | h
              · rw [h]; exact HVG.out
              · rw [h]; intro e; simp at e; omega
            have hs6 : w5.heap.size ≤ w6.heap.size := by have := hgrow.size; simp at this; omega
            clear hown' hgrow hloc
            go_wp2
            refine ⟨⟨k + 1, by omega, by go_num, by rw [HT.out, HS.out]; exact HO2.out, HB6.out, fun _ => ⟨strs_same HST5.out HG6.out, by omega⟩, HV6.out⟩, ?_⟩
            simp [intOf]; omega
          · obtain ⟨g7, rfl, hg1, hg2, hst⟩ := HSH.out hLn
            have h0 : 0 < L.length := List.length_pos_iff.2 hLn
            obtain ⟨m, hm⟩ : ∃ m, m = L.length - 1 := ⟨_, rfl⟩
            have hml : m < L.length := by omega
            have cm := hst m hml
            have HLast : Hid (L.getLast? = some L[m]) := by
              unfold Hid
              rw [List.getLast?_eq_getElem?, ← hm, List.getElem?_eq_getElem hml]
            have e0 : ((L.length : Int) == 0) = false := by simp; omega
            have e1 : (L.length : Int) - 1 = (m : Int) := by omega
            have e2 : (m : Int) < (L.length : Int) := by omega
            generalize L[m] = Y at *
            clear hst HSH hm
            by_cases hY : Y = I
            · have HS : Hid (stepI L I = L) := by unfold Hid stepI; rw [HLast.out, hY, if_pos rfl]
              subst hY
              go_wp2
              refine ⟨⟨k + 1, by omega, by go_num, by rw [HT.out, HS.out]; exact HO1.out, HB5.out, fun _ => ⟨HST5.out, hg5⟩, HVG.out⟩, ?_⟩
              simp [intOf]; omega
            · have HS : Hid (stepI L I = L ++ [I]) := by unfold Hid stepI; rw [HLast.out, if_neg (by simpa using hY)]
              have e3 : (Y.toList == I.toList) = false := by
                rw [ByteArray.toList_eq, ByteArray.toList_eq]
                exact beq_false_of_ne fun h => hY (ba_eq h)
              clear hY
              go_wp2_with (first
                | (at_builtin; go_loud (refine wpList_append_own_at _ rfl _ _ 37 rfl w.heap.size 9 i0 (.string .empty) 1 16 Tryd.underlying37 hi hz0 hz1 hz2 rfl (by decide) _ _ _ rfl (World.ownsRow.alloc HO1.out _) ⟨w5.heap.size, 0, none⟩ 1 1 [.string I] ?f0 rfl ?f1 ?f2 ?f3 ?f4 ?f5 ?_)))
              try (case f0 => rfl)
              try (case f1 => exact cell_new_at _ _ _ _ rfl)
              case f2 => first | rfl | (intro u hu; simp at hu; subst hu; rfl)
              case f3 => first | (unfold maxLen; omega) | (simp [maxLen]; omega) | simp [maxLen]
              case f4 => first | omega | (simp; omega) | simp
              case f5 => first | omega | (simp; omega)
              intro v' w6 hown' hgrow _ hloc
              have HO2 := hidM (OwnS.push (l := L) hown')
              have HB6 := hidM (OwnS.below HO1.out HB5.out hsz5 hgrow)
              have HG6 := hidM (own_far hgrow hg5 HVG.out)
              have HV6 : Hid (v'.ownBlock ≠ some g) := by
                rcases hloc with h | h
                · rw [h]; exact HVG.out
                · rw [h]; intro e; simp at e; omega
              have hs6 : w5.heap.size ≤ w6.heap.size := by have := hgrow.size; simp at this; omega
              clear hown' hgrow hloc
              go_wp2
              refine ⟨⟨k + 1, by omega, by go_num, by rw [HT.out, HS.out]; exact HO2.out, HB6.out, fun _ => ⟨strs_same HST5.out HG6.out, by omega⟩, HV6.out⟩, ?_⟩
              simp [intOf]; omega
      · obtain rfl : k = us.length := by omega
        rw [List.take_of_length_le (Nat.le_refl _)] at HO
        obtain ⟨a7, c7, rfl, _⟩ := HO.out.shape
        have HNIL : Hid (itemsF n us = [] ↔ us = []) := itemsF_nil
        have hil := itemsF_len n us us.length (Nat.le_refl _)
        rw [List.take_of_length_le (Nat.le_refl _)] at hil
        by_cases hus0 : us = []
        · have hI0 := HNIL.out.2 hus0
          have HL7 := hidM hI0
          rw [hI0] at HO hil
          rw [hI0]
          go_wp2
          go_ret2
          exact ⟨⟨_, by rw [HLL.out.1, HL7.out]; exact World.ownsRow_nil _ _ _ _, by rw [HLL.out.2 hus0]; rfl⟩, HB.out⟩
        · have hI0 : itemsF n us ≠ [] := fun e => hus0 (HNIL.out.1 e)
          have h0 : 0 < (itemsF n us).length := List.length_pos_iff.2 hI0
          have HLE := hidM (HLL3.out hus0)
          generalize itemsF n us = IT at *
          have e0 : ((IT.length : Int) == 0) = false := by simp; omega
          go_wp2
          go_ret2
          exact ⟨⟨_, by rw [HLL.out.1]; exact HO.out, by rw [HLE.out]; rfl⟩, HB.out⟩
end Go.Proofs.YtolohndbbnbfbaaDoor
