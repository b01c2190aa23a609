/-
  The places of a history: the document's.
-/
import Derived.Test.YthgmabbnmoembaaDoorGraG
namespace Go.Proofs.YthgmabbnmoembaaDoor
open Go.RowKit

theorem pos_uniq {l : List Int} {c : Int} (h : l.count c ≤ 1) {a b : Nat} (ha : a < l.length) (hb : b < l.length) (h1 : l[a] = c) (h2 : l[b] = c) : a = b := by
  by_cases hab : a = b
  · exact hab
  · exfalso
    have h3 := List.count_set (l := l) (i := a) (a := c + 1) (b := c) ha
    have h4 : ((c + 1 : Int) == c) = false := by simp; omega
    rw [h4, h1] at h3
    simp at h3
    have h5 : c ∈ l.set a (c + 1) := by
      rw [List.mem_iff_getElem]
      refine ⟨b, by simpa using hb, ?_⟩
      rw [List.getElem_set, if_neg hab, h2]
    have := List.count_pos_iff.2 h5
    omega
theorem ref_own {l : List Int} {i : Nat} (h : l.count (i : Int) ≤ 1) : (putL l i).map (fun x => if x = (i : Int) then -1 else x) = ownL l i := by
  unfold putL ownL setL
  have h0 : ¬ (-1 : Int) = (i : Int) := by omega
  by_cases hk : takeK l i < l.length
  · rw [if_pos hk, if_pos hk]
    refine List.ext_getElem (by simp) fun j h1 h2 => ?_
    simp at h1
    rw [List.getElem_map, List.getElem_set, List.getElem_set]
    by_cases hj : takeK l i = j
    · simp [hj]
    · simp only [if_neg hj]
      rw [if_neg]
      intro he
      rcases takeK_get hk with ⟨_, hg⟩ | ⟨hm, _⟩
      · exact hj (pos_uniq h hk h1 hg he)
      · exact hm (by rw [← he]; exact List.getElem_mem h1)
  · rw [if_neg hk, if_neg hk]
    have hm := takeK_new hk
    rw [List.map_append]
    congr 1
    · refine List.ext_getElem (by simp) fun j h1 h2 => ?_
      rw [List.getElem_map, if_neg]
      intro he
      exact hm (by rw [← he]; exact List.getElem_mem h2)
    · simp
def latL (L : List (List Int)) (k : Nat) : List Int := (List.range k).map fun i => (takeK (lanes L i) i : Int)
theorem latL_next (L : List (List Int)) (k : Nat) : latL L (k + 1) = latL L k ++ [(takeK (lanes L k) k : Int)] := by unfold latL; rw [List.range_succ, List.map_append]; rfl
theorem latL_len (L : List (List Int)) (k : Nat) : (latL L k).length = k := by unfold latL; simp
theorem ok_of_check {L : List (List Int)} (h : checkE L = 0) : ∀ i, i < L.length → okRow i L.length (L.getD i []) := by
  intro i hi k hk
  rw [gdL_at hi] at hk
  have := older_at ((check_ok h).2 i hi) k hk
  simp only [gdL_at hi]
  exact this
def RPlacesP (L : List (List Int)) (w : World) (e : Ending) (w' : World) : Prop :=
  (placesE L ≠ 0 ∧ e = .returned (.tuple #[.slice none 0 0, .slice none 0 0, .int .i64 (placesE L : Nat)]) ∧ Below w.heap.size w w') ∨
  (placesE L = 0 ∧ ∃ av rv, e = .returned (.tuple #[av, rv, .int .i64 0]) ∧ OwnI w' w.heap.size av (latL L L.length) ∧ OwnR w' w.heap.size rv (rowsL L L.length) (fun _ => False) ∧ Below w.heap.size w w')
set_option maxHeartbeats 4000000 in
set_option maxRecDepth 50000 in
theorem rplaces_any (v : Value) (L : List (List Int)) (w : World) (hv : RowsV w v L) (hL : L.length ≤ 1000000) (hl : ∀ l ∈ L, l.length ≤ 10000) :
    Calls Tryd.prog 9 #[v] w fun e w' => RPlacesP L w e w' := by
  have HCK := hidM (rcheck_any v L w hv hL (fun l h => by have := hl l h; omega))
  obtain ⟨a, cp, rfl, hcp, hst⟩ := hv
  have HST := hidM hst
  obtain ⟨n, hn⟩ : ∃ n, L.length = n := ⟨_, rfl⟩
  have HN := hidM hn
  rw [hn] at hcp hL HCK ⊢
  clear hn hst
  by_cases h0 : checkE L = 0
  · rw [h0] at HCK
    have H0 := hidM h0
    have HOK := hidM (ok_of_check h0)
    clear h0
    have HB0 : Hid (Below w.heap.size w (((w.alloc (.cells #[] 3)).alloc (.cells #[] 28)).alloc (.cells #[] 3))) := (((Below.refl _ w).alloc (Nat.le_refl _) _).alloc (by simp) _).alloc (by simp; omega) _
    have HA0 : Hid (OwnI (((w.alloc (.cells #[] 3)).alloc (.cells #[] 28)).alloc (.cells #[] 3)) w.heap.size (.slice (some ⟨w.heap.size, 0, none⟩) 0 0) []) := OwnV.below (OwnV.below (own_made 3 w _ (Nat.le_refl _)) ((Below.refl _ _).alloc (Nat.le_refl _) _)) ((Below.refl _ _).alloc (Nat.le_refl _) _)
    have HR0 : Hid (OwnV 28 (((w.alloc (.cells #[] 3)).alloc (.cells #[] 28)).alloc (.cells #[] 3)) w.heap.size (.slice (some ⟨w.heap.size + 1, 0, none⟩) 0 0) []) := OwnV.below (show OwnV 28 _ _ _ _ by have := own_made 28 (w.alloc (.cells #[] 3)) w.heap.size (by simp); simp at this; exact this) ((Below.refl _ _).alloc (Nat.le_refl _) _)
    have HL0 : Hid (OwnI (((w.alloc (.cells #[] 3)).alloc (.cells #[] 28)).alloc (.cells #[] 3)) w.heap.size (.slice (some ⟨w.heap.size + 1 + 1, 0, none⟩) 0 0) []) := by
      have := own_made 3 ((w.alloc (.cells #[] 3)).alloc (.cells #[] 28)) w.heap.size (by simp; omega)
      simp at this
      exact this
    go_enter Tryd.func9, Tryd.ntmps9
    go_wp2_with (go_at_call 14; refine HCK.out.mono ?_; rintro _ wq ⟨rfl, hq⟩; rw [hq]; clear hq)
    generalize ((w.alloc (.cells #[] 3)).alloc (.cells #[] 28)).alloc (.cells #[] 3) = W at *
    obtain ⟨B, hB⟩ : ∃ B, w.heap.size = B := ⟨_, rfl⟩
    have HBE := hidM hB
    have HBS : Hid (B ≤ w.heap.size) := by unfold Hid; omega
    rw [hB] at HB0 HL0 HST HA0 HR0 ⊢
    clear hB
    go_loopw [6, 7, 8, 27] (fun av rv lv iv wr => ∃ (k : Nat) (la : Addr) (lc : Nat), k ≤ n ∧ iv = .int .i64 k ∧ lv = .slice (some la) (lanes L k).length lc ∧ Hid (OwnI wr B av (latL L k)) ∧ Hid (OwnR wr B rv (rowsL L k) (fun b => av.ownBlock = some b)) ∧ Hid (OwnI wr B (.slice (some la) (lanes L k).length lc) (lanes L k)) ∧ Hid (Below B w wr) ∧ Hid (∀ j, j < k → (lanes L (j + 1)).length ≤ 40)) (fun _ _ _ iv _ => n - (intOf iv).toNat)
    case atStart => exact ⟨0, _, _, Nat.zero_le _, rfl, rfl, HA0, OwnR.nil HR0.out, HL0, HB0, fun j h => by omega⟩
    case round =>
      obtain ⟨k, la, lc, hk, rfl, rfl, HA, HR, HL, HB, HS⟩ := hrel
      clear HB0 HL0 HA0 HR0 HCK
      have HLN := hidM (lanes_len HS.out)
      obtain ⟨aa, ac, hav, hac, -⟩ := HA.out.shape
      subst hav
      obtain ⟨ra, rc, hrv⟩ := HR.out.len
      subst hrv
      rw [latL_len] at hac ⊢
      rw [rowsL_len]
      by_cases hlt : k < n
      · have HAT : Hid (∀ b, (Value.slice aa k ac).ownBlock = some b → b < wr.heap.size) := fun b hb => by
          have h1 := HA.out
          rw [latL_len] at h1
          exact (OwnV.lt h1 hb).2
        rw [latL_len] at HA HR
        rw [rowsL_len] at HR
        have kk : (k : Int) < (n : Int) := by omega
        have hkl : k < L.length := by rw [HN.out]; exact hlt
        obtain ⟨g, o, ha, hg, hat⟩ := HST.out (fun h => by rw [h] at hkl; simp at hkl)
        subst ha
        obtain ⟨u, ck, hu⟩ := hat k hkl
        have ck' : wr.cell? ⟨g, o + k, none⟩ = some u := (HB.out.cell (p := ⟨g, o + k, none⟩) hg).trans ck
        have HU := hidM hu
        have hlrow := hl _ (List.getElem_mem hkl)
        have HINV := hidM (lanes_inv HOK.out k (by omega))
        obtain ⟨ua, un, uc, huv⟩ : ∃ ua un uc, u = .slice ua un uc := by obtain ⟨x, y, z, _⟩ := hu; exact ⟨_, _, _, z⟩
        subst huv
        have hun : un = L[k].length := by obtain ⟨x, y, z, _⟩ := hu; cases z; rfl
        have HUN := hidM hun
        obtain ⟨ps, hps⟩ : ∃ ps, L[k] = ps := ⟨_, rfl⟩
        rw [hps] at HU hlrow HUN
        have HRL : Hid (lanes L (k + 1) = parK (takeK (lanes L k) k) (ownL (lanes L k) k) ps ps.length) := by
          unfold Hid
          show rowL (lanes L k) k (L.getD k []) = _
          rw [gdL_at hkl, hps]; rfl
        have HMAP := hidM (ref_own (HINV.out.le k (by omega)) : (putL (lanes L k) k).map (fun x => if x = (k : Int) then -1 else x) = ownL (lanes L k) k)
        have HPL1 := hidM (putL_le (lanes L k) k)
        have HOLT : Hid (takeK (lanes L k) k < (ownL (lanes L k) k).length) := setL_len (takeK_le _ _)
        have HOLE := hidM (ownL_le (lanes L k) k)
        have HAN := hidM (latL_next L k)
        have HRN := hidM (rowsL_next L k)
        have HTK := hidM (rtake_any la (lanes L k).length lc (lanes L k) k wr HL.out.ints (by have := HLN.out; omega))
        clear hat ck hu hps hun
        go_wp2_with fail
        refine HTK.out.mono ?_
        rintro _ w1 ⟨v1, rfl, ho1, hb1⟩
        obtain ⟨q, hq⟩ : ∃ q, takeK (lanes L k) k = q := ⟨_, rfl⟩
        rw [hq] at HRL HOLT HAN ⊢
        have HP1 := hidM ho1
        have HA1 := hidM (OwnV.below HA.out hb1)
        have HR1 := hidM (OwnR.below HR.out hb1)
        have HB1 := hidM (HB.out.trans (hb1.mono HB.out.size |>.mono HBS.out))
        have hw01 := hb1.size
        have HBS1 : Hid (B ≤ wr.heap.size) := by have := HB.out.size; have := HBS.out; unfold Hid; omega
        have hBw : B ≤ wr.heap.size := HBS1.out
        clear hq ho1 hb1 HTK HA HR HB HL
        obtain ⟨P1, hP1⟩ : ∃ P1, putL (lanes L k) k = P1 := ⟨_, rfl⟩
        rw [hP1] at HP1 HMAP HPL1
        clear hP1
        obtain ⟨pa, pc, hpv, hpc, -⟩ := HP1.out.shape
        subst hpv
        -- at = append(at, k)
        have HBW : Hid (Below w1.heap.size w1 (w1.alloc (.cells #[.int .i64 (q : Int)] 3))) := (Below.refl _ w1).alloc (Nat.le_refl _) _
        have HA1b := hidM (OwnV.below HA1.out HBW.out)
        have HR1b := hidM (OwnR.below HR1.out HBW.out)
        have HP1b := hidM (OwnV.below HP1.out HBW.out)
        go_wp2_with (at_builtin; go_loud (refine wpList_append_own_at _ rfl _ _ 28 rfl B 3 I3 (.int .i64 0) 1 8 Tryd.underlying28 I3a I3b I3c I3d rfl (by decide) (.slice aa k ac) k (intsV (latL L k)) rfl ?ra0 ⟨w1.heap.size, 0, none⟩ 1 1 [.int .i64 (q : Int)] ?rad ?ra1 ?ra2 ?ra3 ?ra4 ?ra5 ?ra6 ?_))
        try (case ra0 => have h9 := HA1b.out; unfold OwnI OwnV at h9; rwa [intsV_len, latL_len] at h9)
        try (case rad => rfl)
        try (case ra1 => rfl)
        try (case ra2 => exact World.news_of_block (heap_alloc_new _ _))
        try (case ra3 => first | rfl | (intro u hu; simp at hu; subst hu; rfl))
        try (case ra4 => unfold maxLen; omega)
        try (case ra5 => omega)
        try (case ra6 => first | omega | (simp; omega))
        intro v2 w2 hown hgrow hnil hat2
        have HA2 : Hid (OwnI w2 B v2 (latL L (k + 1))) := by
          unfold Hid OwnI OwnV
          rw [HAN.out, intsV_app, List.length_append, intsV_len, latL_len]
          exact hown
        have HR2 : Hid (OwnR w2 B (.slice ra k rc) (rowsL L k) (fun b => v2.ownBlock = some b)) := by
          unfold Hid
          obtain ⟨vs, ho, hvl, hvr⟩ := HR1b.out
          refine ⟨vs, ho.but (But.grown hgrow) (fun j hj => apart_types ho HA1b.out (by decide) hj), hvl, fun j h1 h2 => ⟨(hvr j h1 h2).1.but (But.grown hgrow) (fun b hb hx => (hvr j h1 h2).2 b hb hx), fun b hb hx => ?_⟩⟩
          rcases hat2 with h9 | h9
          · exact (hvr j h1 h2).2 b hb (by rw [← h9]; exact hx)
          · rw [hx] at h9
            simp at h9
            have := ((hvr j h1 h2).1.lt hb).2
            simp at this
            omega
        have HP2 : Hid (OwnI w2 wr.heap.size (.slice pa P1.length pc) P1) := by
          refine OwnI.but HP1b.out (But.grown hgrow) (fun b hb hx => ?_)
          have h7 := (OwnV.lt HP1.out hb).1
          have h8 := (HAT.out b hx)
          omega
        have HB2 : Hid (Below B w w2) := (HB1.out.alloc (by omega) _).grown hgrow (by simp; omega) (fun b hb => (OwnV.lt HA1.out hb).1)
        have hw12 : w1.heap.size ≤ w2.heap.size := by have := hgrow.size; simp at this; omega
        have HP2' : Hid (OwnI w2 B (.slice pa P1.length pc) P1) := OwnV.mono HP2.out hBw
        clear HP2
        have HP2 := HP2'
        clear HP2'
        clear hown hgrow hnil hat2 HA1 HA1b HR1 HR1b HP1 HP1b HB1 HBW HAT
        -- next
        have HNL0 : Hid (OwnI (w2.alloc (.cells #[] 3)) w2.heap.size (.slice (some ⟨w2.heap.size, 0, none⟩) 0 0) []) := own_made 3 w2 _ (Nat.le_refl _)
        have HNB0 : Hid (Below w2.heap.size w2 (w2.alloc (.cells #[] 3))) := (Below.refl _ w2).alloc (Nat.le_refl _) _
        obtain ⟨p, hp⟩ : ∃ p, P1.length = p := ⟨_, rfl⟩
        have HPP := hidM hp
        rw [hp] at HPL1 hpc HP2 ⊢
        have hp41 : p ≤ 41 := by have h1 := HPL1.out; have h2 := HLN.out; omega
        clear hp
        go_upto_region 13 with fail
        generalize w2.alloc (.cells #[] 3) = w2a at *
        generalize Value.slice (some ⟨w2.heap.size, 0, none⟩) 0 0 = n0 at *
        go_wp2_with fail
        go_loopw [12, 45] (fun nv jv wx => ∃ (j : Nat), j ≤ p ∧ jv = .int .i64 j ∧ Hid (OwnI wx w2.heap.size nv ((P1.take j).map (fun x => if x = (k : Int) then -1 else x))) ∧ Hid (Below w2.heap.size w2 wx)) (fun _ jv _ => p - (intOf jv).toNat)
        case atStart => exact ⟨0, Nat.zero_le _, rfl, HNL0, HNB0⟩
        case round =>
          obtain ⟨j, hj, rfl, HNV, HNB⟩ := hrel
          by_cases hlj : j < p
          · have kj : (j : Int) < (p : Int) := by omega
            have hjl : j < P1.length := by rw [HPP.out]; exact hlj
            obtain ⟨xa, xc, hxv, -, hxs⟩ := OwnI.shape (OwnV.below HP2.out HNB.out)
            obtain ⟨xg, hxa, -, -, -, hxat⟩ := hxs (by omega)
            have cx := hxat j hjl
            rw [Nat.zero_add] at cx
            have hpa2 : pa = some ⟨xg, 0, none⟩ := by rw [hxa] at hxv; simp at hxv; exact hxv.1
            have HNX : Hid ((P1.take (j + 1)).map (fun x => if x = (k : Int) then -1 else x) = (P1.take j).map (fun x => if x = (k : Int) then -1 else x) ++ [(fun x => if x = (k : Int) then -1 else x) P1[j]]) := by unfold Hid; rw [List.take_succ_eq_append_getElem hjl, List.map_append]; rfl
            have HNJ : Hid (((P1.take j).map (fun x => if x = (k : Int) then -1 else x)).length = j) := by unfold Hid; simp; omega
            obtain ⟨na, nc, hnv, hnc, -⟩ := HNV.out.shape
            rw [HNJ.out] at hnv hnc
            subst hnv
            clear hxs hxv hxa hxat
            subst hpa2
            generalize P1[j] = x at *
            by_cases hx : x = (k : Int)
            · have HXK : Hid ((fun x => if x = (k : Int) then -1 else x) x = -1) := by unfold Hid; simp [hx]
              rw [HXK.out] at HNX
              have e1 : (x == (k : Int)) = true := by simp [hx]
              clear hx HXK
              have hNBs := HNB.out.size
              have HWX : Hid (OwnI (wr.alloc (.cells #[.int .i64 (-1)] 3)) w2.heap.size (.slice na j nc) ((P1.take j).map (fun x => if x = (k : Int) then -1 else x))) := OwnV.below HNV.out ((Below.refl _ wr).alloc (Nat.le_refl _) _)
              go_wp2_with (at_builtin; go_loud (refine wpList_append_own_at _ rfl _ _ 28 rfl w2.heap.size 3 I3 (.int .i64 0) 1 8 Tryd.underlying28 I3a I3b I3c I3d rfl (by decide) (.slice na j nc) j (intsV ((P1.take j).map (fun x => if x = (k : Int) then -1 else x))) rfl ?rb0 ⟨wr.heap.size, 0, none⟩ 1 1 [.int .i64 (-1)] ?rbd ?rb1 ?rb2 ?rb3 ?rb4 ?rb5 ?rb6 ?_))
              try (case rb0 => have h9 := HWX.out; unfold OwnI OwnV at h9; rwa [intsV_len, HNJ.out] at h9)
              try (case rbd => rfl)
              try (case rb1 => rfl)
              try (case rb2 => exact World.news_of_block (heap_alloc_new _ _))
              try (case rb3 => first | rfl | (intro u hu; simp at hu; subst hu; rfl))
              try (case rb4 => unfold maxLen; omega)
              try (case rb5 => omega)
              try (case rb6 => first | omega | (simp; omega))
              intro v3 w3 hown hgrow hnil hat3
              have HNV3 : Hid (OwnI w3 w2.heap.size v3 ((P1.take (j + 1)).map (fun x => if x = (k : Int) then -1 else x))) := by
                unfold Hid OwnI OwnV
                rw [HNX.out, intsV_app, List.length_append, intsV_len, HNJ.out]
                rw [← List.map_take] at hown
                exact hown
              have HNB3 : Hid (Below w2.heap.size w2 w3) := (HNB.out.alloc HNB.out.size _).grown hgrow (by have := HNB.out.size; simp; omega) (fun b hb => (OwnV.lt HWX.out hb).1)
              clear hown hgrow hnil hat3 HWX
              go_wp2
              go_roundw
              case rel => exact ⟨j + 1, by omega, by go_num, HNV3, HNB3⟩
              case measure => (show p - ((j : Int) + 1).toNat < p - ((j : Int)).toNat); omega
            · have HXK : Hid ((fun x => if x = (k : Int) then -1 else x) x = x) := by unfold Hid; simp [hx]
              rw [HXK.out] at HNX
              have e1 : (x == (k : Int)) = false := by simp [hx]
              clear hx HXK
              have hNBs := HNB.out.size
              have HWX : Hid (OwnI (wr.alloc (.cells #[.int .i64 x] 3)) w2.heap.size (.slice na j nc) ((P1.take j).map (fun x => if x = (k : Int) then -1 else x))) := OwnV.below HNV.out ((Below.refl _ wr).alloc (Nat.le_refl _) _)
              go_wp2_with (at_builtin; go_loud (refine wpList_append_own_at _ rfl _ _ 28 rfl w2.heap.size 3 I3 (.int .i64 0) 1 8 Tryd.underlying28 I3a I3b I3c I3d rfl (by decide) (.slice na j nc) j (intsV ((P1.take j).map (fun x => if x = (k : Int) then -1 else x))) rfl ?rc0 ⟨wr.heap.size, 0, none⟩ 1 1 [.int .i64 x] ?rcd ?rc1 ?rc2 ?rc3 ?rc4 ?rc5 ?rc6 ?_))
              try (case rc0 => have h9 := HWX.out; unfold OwnI OwnV at h9; rwa [intsV_len, HNJ.out] at h9)
              try (case rcd => rfl)
              try (case rc1 => rfl)
              try (case rc2 => exact World.news_of_block (heap_alloc_new _ _))
              try (case rc3 => first | rfl | (intro u hu; simp at hu; subst hu; rfl))
              try (case rc4 => unfold maxLen; omega)
              try (case rc5 => omega)
              try (case rc6 => first | omega | (simp; omega))
              intro v3 w3 hown hgrow hnil hat3
              have HNV3 : Hid (OwnI w3 w2.heap.size v3 ((P1.take (j + 1)).map (fun x => if x = (k : Int) then -1 else x))) := by
                unfold Hid OwnI OwnV
                rw [HNX.out, intsV_app, List.length_append, intsV_len, HNJ.out]
                rw [← List.map_take] at hown
                exact hown
              have HNB3 : Hid (Below w2.heap.size w2 w3) := (HNB.out.alloc HNB.out.size _).grown hgrow (by have := HNB.out.size; simp; omega) (fun b hb => (OwnV.lt HWX.out hb).1)
              clear hown hgrow hnil hat3 HWX
              go_wp2
              go_roundw
              case rel => exact ⟨j + 1, by omega, by go_num, HNV3, HNB3⟩
              case measure => (show p - ((j : Int) + 1).toNat < p - ((j : Int)).toNat); omega
          · have hjp : j = p := by omega
            subst hjp
            have kj : ¬ (j : Int) < (j : Int) := by omega
            have HOW := hidM HNV.out
            rw [List.take_of_length_le (by rw [HPP.out]; exact Nat.le_refl _), HMAP.out] at HOW
            have HB3 := hidM (HB2.out.trans (HNB.out.mono (by have := HB2.out.size; have := HBS.out; omega)))
            clear HNV HMAP HNL0 HNB0
            obtain ⟨OL, hOL⟩ : ∃ OL, ownL (lanes L k) k = OL := ⟨_, rfl⟩
            rw [hOL] at HOW HRL HOLT HOLE
            clear hOL
            obtain ⟨na, nc, hnv, hnc, hns⟩ := HOW.out.shape
            obtain ⟨ng, hna, -⟩ := hns (by have := HOLT.out; omega)
            rw [hna] at hnv
            subst hnv
            clear hns hna
            go_wp2
            go_loopw [8, 60] (fun lv iv wr => ∃ (m ga gc : Nat), m ≤ un ∧ iv = .int .i64 m ∧ lv = .slice (some ⟨ga, 0, none⟩) (parK q OL ps m).length gc ∧ Hid (OwnI wr w2.heap.size (.slice (some ⟨ga, 0, none⟩) (parK q OL ps m).length gc) (parK q OL ps m)) ∧ Hid (Below w2.heap.size w2 wr)) (fun _ iv _ => un - (intOf iv).toNat)
            case atStart => exact ⟨0, ng, nc, Nat.zero_le _, rfl, rfl, HOW, HNB⟩
            case round =>
              obtain ⟨m, ga, gc, hm, rfl, rfl, HLV, HLB⟩ := hrel
              clear HOW HB3 HNB
              have HLBw := hidM (HB2.out.trans (HLB.out.mono (by have := HB2.out.size; have := HBS.out; omega)))
              by_cases hlm : m < un
              · have km : (m : Int) < (un : Int) := by omega
                have hml : m < ps.length := by rw [← HUN.out]; exact hlm
                obtain ⟨xa, xc, hxv, -, -, hxs⟩ := HU.out.below (by rw [HBE.out]; exact HLBw.out)
                obtain ⟨xg, xo, hxa, -, hxat⟩ := hxs (fun h => by rw [h] at hml; simp at hml)
                have cx := hxat m hml
                have hua2 : ua = some ⟨xg, xo, none⟩ := by rw [hxa] at hxv; simp at hxv; exact hxv.1
                have HPN := hidM (parK_next (own := q) (l := OL) hml)
                have HPLE := hidM (parK_le q OL ps m)
                have hlk : (parK q OL ps m).length ≤ 1000000 := by have h1 := HPLE.out; have h2 := HOLE.out; have h3 := HLN.out; omega
                have hqk : q < (parK q OL ps m).length := by have h1 := HPLE.out.1; have h2 := HOLT.out; omega
                clear hxs hxv hxa hxat
                subst hua2
                generalize ps[m] = x at *
                by_cases hm0 : m = 0
                · have HFD := hidM (find_any _ (parK q OL ps m) x wr HLV.out.ints hlk)
                  by_cases hmem : x ∈ parK q OL ps m
                  · have hz := posZ_ge hmem
                    have HMEM := hidM hmem
                    generalize posZ x (parK q OL ps m) = z at *
                    have hzd : decide (z < 0) = false := by simp; omega
                    clear hmem
                    subst hm0
                    rw [Nat.add_zero] at cx
                    have HTK2 := hidM (rtake_any ⟨ga, 0, none⟩ (parK q OL ps 0).length gc (parK q OL ps 0) x wr HLV.out.ints hlk)
                    generalize (parK q OL ps 0).length = nl at *
                    go_wp2_with fail
                    refine HFD.out.mono ?_
                    rintro _ wq ⟨rfl, hq⟩
                    rw [hq]
                    clear hq
                    go_wp2_with fail
                    refine HTK2.out.mono ?_
                    rintro _ w5 ⟨v5, rfl, ho5, hb5⟩
                    have HO5 : Hid (OwnI w5 w2.heap.size v5 (parK q OL ps (0 + 1))) := by
                      unfold Hid
                      rw [HPN.out, stepP_put (fun h => h.2 HMEM.out)]
                      exact ho5.mono (by have := HLB.out.size; omega)
                    have HB5 := hidM (HLB.out.trans (hb5.mono HLB.out.size))
                    obtain ⟨ya, yc, hyv, -, hys⟩ := HO5.out.shape
                    obtain ⟨yg, hya, -⟩ := hys (by have h1 := (parK_le q OL ps (0 + 1)).1; have h2 := HOLT.out; omega)
                    rw [hya] at hyv
                    subst hyv
                    clear ho5 hb5 HTK2 hys
                    go_wp2
                    go_roundw
                    case rel => exact ⟨0 + 1, _, _, by omega, by go_num, rfl, HO5, HB5⟩
                    case measure => (show un - ((0 : Int) + 1).toNat < un - ((0 : Int)).toNat); omega
                  · have hz := posZ_lt hmem
                    have HMEM := hidM hmem
                    generalize posZ x (parK q OL ps m) = z at *
                    have hzd : decide (z < 0) = true := by simpa using hz
                    clear hmem
                    subst hm0
                    rw [Nat.add_zero] at cx
                    have fq := HLV.out.frozen q
                    have HS5 := hidM (HLV.out.stored q x)
                    have hgB := (OwnV.lt HLV.out (k := ga) rfl).1
                    have cq : wr.cell? ⟨ga, q, none⟩ = some (.int .i64 ((parK q OL ps 0)[q]'hqk)) := by
                      obtain ⟨a1, c1, h1, _, h2⟩ := HLV.out.shape
                      obtain ⟨g1, h3, _, _, _, h4⟩ := h2 (by omega)
                      rw [h3] at h1
                      cases h1
                      have := h4 q hqk
                      rwa [Nat.zero_add] at this
                    generalize (parK q OL ps 0)[q]'hqk = y at *
                    have HB5 : Hid (Below w2.heap.size w2 (wr.setCell ⟨ga, q, none⟩ (.int .i64 x))) := HLB.out.setCell hgB _
                    have HO5 : Hid (OwnI (wr.setCell ⟨ga, q, none⟩ (.int .i64 x)) w2.heap.size (.slice (some ⟨ga, 0, none⟩) (parK q OL ps (0 + 1)).length gc) (parK q OL ps (0 + 1))) := by
                      unfold Hid
                      rw [HPN.out, stepP_own rfl HMEM.out, List.length_set]
                      exact HS5.out
                    have HLL : Hid ((parK q OL ps 0).length = (parK q OL ps (0 + 1)).length) := by unfold Hid; rw [HPN.out, stepP_own rfl HMEM.out, List.length_set]
                    have kq : (q : Int) < ((parK q OL ps 0).length : Int) := by omega
                    generalize (parK q OL ps 0).length = nl at *
                    clear HS5 HPN HPLE
                    go_wp2_with fail
                    refine HFD.out.mono ?_
                    rintro _ wq ⟨rfl, hq⟩
                    rw [hq]
                    clear hq
                    go_wp2
                    go_roundw
                    case rel => exact ⟨0 + 1, _, _, by omega, by go_num, by rw [HLL.out], HO5, HB5⟩
                    case measure => (show un - ((0 : Int) + 1).toNat < un - ((0 : Int)).toNat); omega
                · have km0 : ((m : Int) == 0) = false := by simp; omega
                  have HM0 := hidM hm0
                  clear hm0
                  have HTK2 := hidM (rtake_any ⟨ga, 0, none⟩ (parK q OL ps m).length gc (parK q OL ps m) x wr HLV.out.ints hlk)
                  generalize (parK q OL ps m).length = nl at *
                  go_wp2_with fail
                  refine HTK2.out.mono ?_
                  rintro _ w5 ⟨v5, rfl, ho5, hb5⟩
                  have HO5 : Hid (OwnI w5 w2.heap.size v5 (parK q OL ps (m + 1))) := by
                    unfold Hid
                    rw [HPN.out, stepP_put (fun h => HM0.out h.1)]
                    exact ho5.mono (by have := HLB.out.size; omega)
                  have HB5 := hidM (HLB.out.trans (hb5.mono HLB.out.size))
                  obtain ⟨ya, yc, hyv, -, hys⟩ := HO5.out.shape
                  obtain ⟨yg, hya, -⟩ := hys (by have h1 := (parK_le q OL ps (m + 1)).1; have h2 := HOLT.out; omega)
                  rw [hya] at hyv
                  subst hyv
                  clear ho5 hb5 HTK2 hys
                  go_wp2
                  go_roundw
                  case rel => exact ⟨m + 1, _, _, by omega, by go_num, rfl, HO5, HB5⟩
                  case measure => (show un - ((m : Int) + 1).toNat < un - ((m : Int)).toNat); omega
              · have hmu : m = un := by omega
                subst hmu
                have km : ¬ (m : Int) < (m : Int) := by omega
                have HLK : Hid (parK q OL ps m = lanes L (k + 1)) := by unfold Hid; rw [HRL.out, HUN.out]
                rw [HLK.out] at HLV ⊢
                clear HLK
                by_cases hbig : 40 < (lanes L (k + 1)).length
                · have g1 : (40 : Int) < ((lanes L (k + 1)).length : Int) := by omega
                  have HE : Hid (placesE L = 2) := places_big H0.out hkl hbig
                  clear hbig
                  generalize (lanes L (k + 1)).length = nl at *
                  go_wp2
                  go_ret3
                  exact .inl ⟨by rw [HE.out]; decide, by rw [HE.out]; rfl, by rw [HBE.out]; exact HLBw.out⟩
                · have g1 : ¬ (40 : Int) < ((lanes L (k + 1)).length : Int) := by omega
                  have hb40 : (lanes L (k + 1)).length ≤ 40 := by omega
                  have HN40 : Hid (∀ j, j < k + 1 → (lanes L (j + 1)).length ≤ 40) := fun j hj => by
                    by_cases h5 : j < k
                    · exact HS.out j h5
                    · have : j = k := by omega
                      subst this; exact hb40
                  have HA5 := hidM (OwnV.below HA2.out HLB.out)
                  have HR5 := hidM (OwnR.below HR2.out HLB.out)
                  obtain ⟨LK, hLK⟩ : ∃ LK, lanes L (k + 1) = LK := ⟨_, rfl⟩
                  have HLK := hidM hLK
                  rw [hLK] at HLV HRN g1 hb40 ⊢
                  clear hLK hbig
                  obtain ⟨nl, hnl⟩ : ∃ nl, LK.length = nl := ⟨_, rfl⟩
                  have HNL := hidM hnl
                  rw [hnl] at HLV g1 hb40 ⊢
                  clear hnl HA2 HR2 HB2 HRL HUN HS
                  have HNW := hidM HLV.out.ints.news.2
                  go_wp2_with (at_builtin; go_loud (refine wpList_append_own _ rfl _ _ 28 rfl wr.heap.size 3 I3 (.int .i64 0) 1 8 Tryd.underlying28 I3a I3b I3c I3d rfl (by decide) _ _ _ rfl (own_made 3 wr _ (Nat.le_refl _)) ⟨ga, 0, none⟩ nl gc (intsV LK) rfl ?qc1 ?qc2 ?qc3 ?qc4 ?qc5 ?qc6 ?_))
                  case qc1 => rw [intsV_len, HNL.out] <;> omega
                  case qc2 =>
                    intro j u hj
                    have h9 := HNW.out j u hj
                    first | exact Lib.cell?_alloc_some _ h9 | (rw [Addr.add_lit, Nat.zero_add] at h9; exact Lib.cell?_alloc_some _ h9)
                  case qc3 => exact intsV_one LK
                  try (case qc4 => unfold maxLen; omega)
                  try (case qc5 => omega)
                  try (case qc6 => simp)
                  intro v6 w6 hown hgrow hnil
                  have HB6 : Hid (Below wr.heap.size wr w6) := grown_made hgrow
                  have HO6 : Hid (OwnI w6 wr.heap.size v6 LK) := by
                    unfold Hid OwnI OwnV
                    rw [intsV_len, HNL.out]
                    simpa using hown
                  clear hown hgrow hnil HNW
                  have HO6b : Hid (OwnI w6 B v6 LK) := HO6.out.mono (by have := HLBw.out.size; have := HBS.out; omega)
                  have HV6 : Hid (∀ b, v6.ownBlock = some b → wr.heap.size ≤ b) := fun b hb => (OwnV.lt HO6.out hb).1
                  obtain ⟨xa, xc, hx6, -⟩ := HO6.out.shape
                  rw [HNL.out] at hx6
                  subst hx6
                  have HA6 := hidM (OwnV.below HA5.out HB6.out)
                  have HL6 := hidM (OwnV.below HLV.out HB6.out)
                  have HBW6 := hidM (HLBw.out.trans (HB6.out.mono (by have := HLBw.out.size; have := HBS.out; omega)))
                  have HBW : Hid (Below w6.heap.size w6 (w6.alloc (.cells #[.slice xa nl xc] 28))) := (Below.refl _ w6).alloc (Nat.le_refl _) _
                  have HA7 := hidM (OwnV.below HA6.out HBW.out)
                  have HU7 := hidM (OwnV.below HO6b.out HBW.out)
                  have HL7 := hidM (OwnV.below HL6.out HBW.out)
                  obtain ⟨vs, hov, hvl, hvr⟩ := (OwnR.below (OwnR.below HR5.out HB6.out) HBW.out)
                  have HOV := hidM hov
                  have HVL := hidM hvl
                  have HVR := hidM hvr
                  have hvk : vs.length = k := by rw [hvl, rowsL_len]
                  have HVK := hidM hvk
                  have hBs : B ≤ w6.heap.size := by have := HBW6.out.size; have := HBS.out; omega
                  have HAX : Hid (∀ b, v2.ownBlock = some b → b < wr.heap.size) := fun b hb => (OwnV.lt HA5.out hb).2
                  clear hov hvl hvr hvk HR5 HA5 HLV HO6 HO6b HL6 HA6
                  go_wp2_with (at_builtin; go_loud (refine wpList_append_own_at _ rfl _ _ 22 rfl B 28 I28 (.slice none 0 0) 1 24 Tryd.underlying22 I28a I28b I28c I28d rfl (by decide) (.slice ra k rc) k (vs) rfl ?sa0 ⟨w6.heap.size, 0, none⟩ 1 1 [.slice xa nl xc] ?sad ?sa1 ?sa2 ?sa3 ?sa4 ?sa5 ?sa6 ?_))
                  try (case sa0 => have h9 := HOV.out; unfold OwnV at h9; rwa [HVK.out] at h9)
                  try (case sad => rfl)
                  try (case sa1 => rfl)
                  try (case sa2 => exact World.news_of_block (heap_alloc_new _ _))
                  try (case sa3 => first | rfl | (intro u hu; simp at hu; subst hu; rfl))
                  try (case sa4 => unfold maxLen; omega)
                  try (case sa5 => omega)
                  try (case sa6 => first | omega | (simp; omega))
                  intro v8 w8 hown hgrow hnil hat8
                  have HR8 : Hid (OwnR w8 B v8 (rowsL L (k + 1)) (fun b => v2.ownBlock = some b)) := by
                    unfold Hid
                    rw [HRN.out]
                    refine OwnR.push HOV.out HVL.out HVR.out HU7.out (fun b hb hx => ?_) ?_ hgrow
                    · have h1 := HV6.out b hb; have h2 := HAX.out b hx; omega
                    · rw [HVK.out]; exact hown
                  have HA8 : Hid (OwnI w8 B v2 (latL L (k + 1))) := HA7.out.but (But.grown hgrow) (fun j hj => apart_types HA7.out HOV.out (by decide) hj)
                  have HL8 : Hid (OwnI w8 B (.slice (some ⟨ga, 0, none⟩) nl gc) LK) := (OwnV.mono HL7.out (by have := HLBw.out.size; omega)).but (But.grown hgrow) (fun j hj => apart_types HL7.out HOV.out (by decide) hj)
                  have HB8 : Hid (Below B w w8) := (HBW6.out.alloc (by omega) _).grown hgrow (by simp; omega) (fun b hb => (OwnV.lt HOV.out hb).1)
                  have HLK2 : Hid (nl = (lanes L (k + 1)).length) := by unfold Hid; rw [HLK.out, HNL.out]
                  rw [← HLK.out] at HL8
                  clear hown hgrow hnil hat8 HOV HVL HVR HVK HA7 HL7 HU7 HBW HBW6 HB6 HV6 HAX
                  go_wp2
                  go_roundw
                  case rel => exact ⟨k + 1, ⟨ga, 0, none⟩, gc, by omega, by go_num, by rw [HLK2.out], HA8, HR8, by rw [← HLK2.out]; exact HL8, HB8, HN40⟩
                  case measure => (show n - ((k : Int) + 1).toNat < n - ((k : Int)).toNat); omega
      · have hkn : k = n := by omega
        subst hkn
        have kk : ¬ (k : Int) < (k : Int) := by omega
        have HE : Hid (placesE L = 0) := places_yes H0.out (fun j hj => HS.out j (by have := HN.out; omega))
        rw [latL_len] at HA HR
        rw [rowsL_len] at HR
        go_wp2
        go_ret3
        exact .inr ⟨HE.out, _, _, rfl, by rw [HBE.out, HN.out]; exact HA.out, by rw [HBE.out, HN.out]; exact HR.out.avoid (fun _ _ h => h.elim), by rw [HBE.out]; exact HB.out⟩
  · have HE : Hid (placesE L = checkE L) := places_no h0
    have HNE := hidM h0
    obtain ⟨z, hz⟩ : ∃ z, checkE L = z := ⟨_, rfl⟩
    rw [hz] at HCK HE HNE
    clear hz h0
    have zz : ((z : Int) == 0) = false := by have := HNE.out; simp; omega
    go_enter Tryd.func9, Tryd.ntmps9
    go_wp2_with (go_at_call 14; refine HCK.out.mono ?_; rintro _ wq ⟨rfl, hq⟩; rw [hq]; clear hq)
    go_ret3
    exact .inl ⟨by rw [HE.out]; exact HNE.out, by rw [HE.out]; rfl, Below.refl _ _⟩
end Go.Proofs.YthgmabbnmoembaaDoor
