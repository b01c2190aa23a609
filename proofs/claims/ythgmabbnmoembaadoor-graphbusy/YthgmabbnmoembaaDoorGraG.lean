/-
  The places of a history: the program's.
-/
import Derived.Test.YthgmabbnmoembaaDoorGraF
namespace Go.Proofs.YthgmabbnmoembaaDoor
open Go.RowKit

/-- a whole number as a float's word, a place as a complex number -/
def fz (n : Nat) : Nat := floatOfInt .f64 (n : Int)
def cz (x y : Nat) : Value := .complex .f64 (fz x) (fz y)
def atL (L : List (List Int)) (k : Nat) : List Value := (List.range k).map fun i => cz (takeK (lanes L i) i) i
def rowsL (L : List (List Int)) (k : Nat) : List (List Int) := (List.range k).map fun i => lanes L (i + 1)
theorem atL_next (L : List (List Int)) (k : Nat) : atL L (k + 1) = atL L k ++ [cz (takeK (lanes L k) k) k] := by unfold atL; rw [List.range_succ, List.map_append]; rfl
theorem rowsL_next (L : List (List Int)) (k : Nat) : rowsL L (k + 1) = rowsL L k ++ [lanes L (k + 1)] := by unfold rowsL; rw [List.range_succ, List.map_append]; rfl
theorem atL_len (L : List (List Int)) (k : Nat) : (atL L k).length = k := by unfold atL; simp
theorem rowsL_len (L : List (List Int)) (k : Nat) : (rowsL L k).length = k := by unfold rowsL; simp
def placesE (L : List (List Int)) : Nat := if checkE L = 0 then (if (List.range L.length).any (fun i => decide (40 < (lanes L (i + 1)).length)) then 2 else 0) else checkE L
theorem places_no {L : List (List Int)} (h : checkE L ≠ 0) : placesE L = checkE L := by unfold placesE; rw [if_neg h]
theorem places_big {L : List (List Int)} (h : checkE L = 0) {k : Nat} (hk : k < L.length) (hb : 40 < (lanes L (k + 1)).length) : placesE L = 2 := by
  unfold placesE; rw [if_pos h, if_pos]
  rw [List.any_eq_true]; exact ⟨k, List.mem_range.2 hk, by simpa using hb⟩
theorem places_yes {L : List (List Int)} (h : checkE L = 0) (hb : ∀ k, k < L.length → (lanes L (k + 1)).length ≤ 40) : placesE L = 0 := by
  unfold placesE; rw [if_pos h, if_neg]
  rw [List.any_eq_true]
  rintro ⟨k, hk, h2⟩
  have := hb k (List.mem_range.1 hk)
  simp at h2; omega
theorem places_zero {L : List (List Int)} (h : placesE L = 0) : checkE L = 0 ∧ ∀ k, k < L.length → (lanes L (k + 1)).length ≤ 40 := by
  unfold placesE at h
  split at h
  · rename_i h1
    refine ⟨h1, fun k hk => ?_⟩
    by_cases h2 : (lanes L (k + 1)).length ≤ 40
    · exact h2
    · rw [if_pos (by rw [List.any_eq_true]; exact ⟨k, List.mem_range.2 hk, by simp; omega⟩)] at h
      cases h
  · rename_i h1; exact absurd h h1
theorem lanes_len {L : List (List Int)} {k : Nat} (h : ∀ j, j < k → (lanes L (j + 1)).length ≤ 40) : (lanes L k).length ≤ 40 := by
  cases k with
  | zero => simp [lanes]
  | succ k => exact h k (by omega)
theorem OwnR.grow {w w' : World} {B C : Nat} {v u : Value} {L : List (List Int)} {X : Nat → Prop} {e : TypeId} {us : List Value} (h : OwnR w B v L X) (hu : OwnV e w C u us) (h1 : e ≠ 3) (h2 : e ≠ 28) (hg : w.grownBy w' u.ownBlock) : OwnR w' B v L X := by
  obtain ⟨vs, ho, hl, hr⟩ := h
  exact ⟨vs, ho.but (But.grown hg) (fun k hk => apart_types ho hu (fun e => h2 e.symm) hk), hl, fun j a b => ⟨(hr j a b).1.but (But.grown hg) (fun k hk => apart_types (hr j a b).1 hu (fun e => h1 e.symm) hk), (hr j a b).2⟩⟩
theorem LBx.grow {w w' : World} {B C : Nat} {v u : Value} {l : List Int} {e : TypeId} {us : List Value} (h : LBx w B v l) (hu : OwnV e w C u us) (h1 : e ≠ 3) (h2 : e ≠ 45) (hg : w.grownBy w' u.ownBlock) : LBx w' B v l := by
  refine ⟨?_, h.own.but (But.grown hg) (fun k hk => apart_types h.own hu (fun e => h1 e.symm) hk)⟩
  rw [hg.block B h.lt (fun e => ?_)]
  · exact h.box
  · obtain ⟨c, hc⟩ := heap_type hu e.symm
    have := h.box
    rw [hc] at this
    cases this
    exact h2 rfl
def PlacesP (L : List (List Int)) (w : World) (e : Ending) (w' : World) : Prop :=
  (placesE L ≠ 0 ∧ e = .returned (.tuple #[.slice none 0 0, .slice none 0 0, .int .i64 (placesE L : Nat)]) ∧ Below w.heap.size w w') ∨
  (placesE L = 0 ∧ ∃ av rv, e = .returned (.tuple #[av, rv, .int .i64 0]) ∧ OwnV 40 w' w.heap.size av (atL L L.length) ∧ OwnR w' w.heap.size rv (rowsL L L.length) (fun _ => False) ∧ Below w.heap.size w w')
theorem box_apart {w : World} {B C : Nat} {v u : Value} {l : List Int} {e : TypeId} {us : List Value} (h : LBx w B v l) (hu : OwnV e w C u us) (h1 : e ≠ 3) (h2 : e ≠ 45) : ∀ k, u.ownBlock = some k → ¬ LX B v k := by
  intro k hk hx
  rcases hx with rfl | hx
  · obtain ⟨c, hc⟩ := heap_type hu hk
    have := h.box
    rw [hc] at this
    cases this
    exact h2 rfl
  · exact apart_types h.own hu (fun e => h1 e.symm) hx hk
set_option maxHeartbeats 4000000 in
theorem places_any (v : Value) (L : List (List Int)) (w : World) (hv : RowsV w v L) (hL : L.length ≤ 1000000) (hl : ∀ l ∈ L, l.length ≤ 10000) :
    Calls Tryd.prog 8 #[v] w fun e w' => PlacesP L w e w' := by
  have HCK := hidM (check_any v L w hv hL (fun l h => by have := hl l h; omega))
  obtain ⟨a, cp, rfl, hcp, hst⟩ := hv
  have HST := hidM hst
  obtain ⟨n, hn⟩ : ∃ n, L.length = n := ⟨_, rfl⟩
  have HN := hidM hn
  rw [hn] at hcp hL HCK ⊢
  clear hn hst
  by_cases h0 : checkE L = 0
  · rw [h0] at HCK
    have H0 := hidM h0
    clear h0
    have HB0 : Hid (Below w.heap.size w (w.alloc (.cells #[.slice none 0 0] 45))) := (Below.refl _ w).alloc (Nat.le_refl _) _
    have HL0 : Hid (LBx (w.alloc (.cells #[.slice none 0 0] 45)) w.heap.size (.slice none 0 0) (lanes L 0)) := ⟨heap_alloc_new w _, World.ownsRow_nil _ _ _ _⟩
    go_enter Tryd.func8, Tryd.ntmps8
    go_wp2_with (go_at_call 13; refine HCK.out.mono ?_; rintro _ wq ⟨rfl, hq⟩; rw [hq]; clear hq)
    generalize w.alloc (.cells #[.slice none 0 0] 45) = W at *
    obtain ⟨B, hB⟩ : ∃ B, w.heap.size = B := ⟨_, rfl⟩
    have HBE := hidM hB
    rw [hB] at HB0 HL0 HST ⊢
    go_loopw [6, 7, 19] (fun av rv iv wr => ∃ (k : Nat) (v' : Value), k ≤ n ∧ iv = .int .i64 k ∧ Hid (OwnV 40 wr B av (atL L k)) ∧ Hid (OwnR wr B rv (rowsL L k) (LX B v')) ∧ Hid (LBx wr B v' (lanes L k)) ∧ Hid (Below B w wr) ∧ Hid (∀ j, j < k → (lanes L (j + 1)).length ≤ 40)) (fun _ _ iv _ => n - (intOf iv).toNat)
    case atStart => exact ⟨0, _, Nat.zero_le _, rfl, World.ownsRow_nil _ _ _ _, OwnR.nil (World.ownsRow_nil _ _ _ _), HL0, HB0, fun j h => by omega⟩
    case round =>
      obtain ⟨k, vv, hk, rfl, HA, HR, HX, HB, HS⟩ := hrel
      clear HB0 HL0 HCK
      have HLN := hidM (lanes_len HS.out)
      obtain ⟨aa, ac, hav, hac, -⟩ := HA.out.shape
      subst hav
      obtain ⟨ra, rc, hrv⟩ := HR.out.len
      subst hrv
      rw [atL_len] at hac ⊢
      rw [rowsL_len]
      by_cases hlt : k < n
      · have kk : (k : Int) < (n : Int) := by omega
        have hkl : k < L.length := by rw [HN.out]; exact hlt
        obtain ⟨g, o, ha, hg, hat⟩ := HST.out (fun h => by rw [h] at hkl; simp at hkl)
        subst ha
        obtain ⟨u, ck, hu⟩ := hat k hkl
        have ck' : wr.cell? ⟨g, o + k, none⟩ = some u := (HB.out.cell (p := ⟨g, o + k, none⟩) hg).trans ck
        have HU := hidM hu
        have hrow := row_any B vv u (lanes L k) k L[k] wr HX.out (fun V hV => HU.out.below (by rw [HBE.out]; exact HB.out.trans hV)) (by have := HLN.out; omega) (by have := hl _ (List.getElem_mem hkl); omega)
        have HRL : Hid (rowL (lanes L k) k L[k] = lanes L (k + 1)) := by
          unfold Hid
          show _ = rowL (lanes L k) k (L.getD k [])
          rw [gdL_at hkl]
        have HROW := hidM hrow
        obtain ⟨ua, un, uc, huv⟩ : ∃ ua un uc, u = .slice ua un uc := by obtain ⟨x, y, z, _⟩ := hu; exact ⟨_, _, _, z⟩
        subst huv
        clear hat ck hu hrow
        go_wp2_with fail
        refine HROW.out.mono ?_
        rintro _ w1 ⟨rfl, v1, hs1⟩
        have HS1 := hidM hs1
        rw [HRL.out] at HS1
        clear hs1 HROW HRL
        have HB1 := hidM (HB.out.trans (HS1.out.below HX.out))
        have HA1 := hidM (HA.out.but HS1.out.but (box_apart HX.out HA.out (by decide) (by decide)))
        have HR1 : Hid (OwnR w1 B (.slice ra k rc) (rowsL L k) (LX B v1)) := by
          unfold Hid
          obtain ⟨vs, ho, hvl, hvr⟩ := HR.out
          have h9 : OwnR w1 B (.slice ra (rowsL L k).length rc) (rowsL L k) (LX B vv) := HR.out.but HS1.out.but (box_apart HX.out ho (by decide) (by decide))
          rw [rowsL_len] at h9
          obtain ⟨vs2, ho2, hvl2, hvr2⟩ := HR.out
          obtain ⟨vs3, ho3, hvl3, hvr3⟩ := h9
          refine ⟨vs, ?_, hvl, fun j h1 h2 => ⟨(hvr j h1 h2).1.but HS1.out.but (hvr j h1 h2).2, fun q hq hx => ?_⟩⟩
          · have := ho.but HS1.out.but (box_apart HX.out ho (by decide) (by decide))
            rwa [rowsL_len] at this
          · rcases HS1.out.own q hx with h7 | h7
            · exact (hvr j h1 h2).2 q hq h7
            · have := ((hvr j h1 h2).1.lt hq).2
              omega
        have HX1 := hidM HS1.out.lb
        have HBsz := HX1.out.lt
        clear HS1 HA HR HX HB
        obtain ⟨la, lc, hv1, -⟩ := HX1.out.own.shape
        subst hv1
        have cb1 := HX1.out.cell
        by_cases hbig : 40 < (lanes L (k + 1)).length
        · have g1 : (40 : Int) < ((lanes L (k + 1)).length : Int) := by omega
          have HE : Hid (placesE L = 2) := places_big H0.out hkl hbig
          clear hbig
          generalize (lanes L (k + 1)).length = nl at *
          go_wp2
          go_ret3
          exact .inl ⟨by rw [HE.out]; decide, by rw [HE.out]; rfl, by rw [HBE.out]; exact HB1.out⟩
        · have g1 : ¬ (40 : Int) < ((lanes L (k + 1)).length : Int) := by omega
          have hb40 : (lanes L (k + 1)).length ≤ 40 := by omega
          have HNE : Hid (lanes L (k + 1) ≠ []) := fun h => by have := lane_lt L k; rw [h] at this; simp at this
          have HN40 : Hid (∀ j, j < k + 1 → (lanes L (j + 1)).length ≤ 40) := fun j hj => by
            by_cases h5 : j < k
            · exact HS.out j h5
            · have : j = k := by omega
              subst this; exact hb40
          have HAN := hidM (atL_next L k)
          have HRN := hidM (rowsL_next L k)
          obtain ⟨q, hq⟩ : ∃ q, takeK (lanes L k) k = q := ⟨_, rfl⟩
          rw [hq] at HAN ⊢
          have HCL := hidM (fun V (h : LBx V B (.slice la (lanes L (k + 1)).length lc) (lanes L (k + 1))) => clone_any _ _ (B + 1) V h.own HNE.out (by omega))
          have HLD : Hid ((lanes L (k + 1)).length ≤ 40) := hb40
          clear hbig hb40 hq HNE HS HLN
          obtain ⟨LK, hLK⟩ : ∃ LK, lanes L (k + 1) = LK := ⟨_, rfl⟩
          have HLK := hidM hLK
          rw [hLK] at HX1 HCL HRN g1 cb1 HLD HR1
          clear hLK
          generalize LK.length = nl at *
          have HBW : Hid (Below w1.heap.size w1 (w1.alloc (.cells #[cz q k] 40))) := (Below.refl _ w1).alloc (Nat.le_refl _) _
          have HA1b := hidM (OwnV.below HA1.out HBW.out)
          have HR1b := hidM (OwnR.below HR1.out HBW.out)
          have HX1b := hidM (HX1.out.below HBW.out)
          have HCZ : Hid (cz q k = .complex .f64 (floatOfInt .f64 (q : Int)) (floatOfInt .f64 (k : Int))) := rfl
          rw [HCZ.out] at HA1b HR1b HX1b HBW HAN
          rw [atL_len] at HA1b
          go_wp2_with (at_builtin; go_loud (refine wpList_append_own _ rfl _ _ 24 rfl B 40 I40 (.complex .f64 0 0) 1 16 Tryd.underlying24 I40a I40b I40c I40d rfl (by decide) (.slice aa k ac) k (atL L k) rfl ?rc0 ⟨w1.heap.size, 0, none⟩ 1 1 [.complex .f64 (floatOfInt .f64 (q : Int)) (floatOfInt .f64 (k : Int))] ?rd ?rc1 ?rc2 ?rc3 ?rc4 ?rc5 ?rc6 ?_))
          try (case rc0 => have h9 := HA1b.out; unfold OwnV at h9; rwa [atL_len] at h9)
          try (case rd => rfl)
          try (case rc1 => rfl)
          try (case rc2 => exact World.news_of_block (heap_alloc_new _ _))
          try (case rc3 => first | rfl | (intro u hu; simp at hu; subst hu; rfl))
          try (case rc4 => unfold maxLen; omega)
          try (case rc5 => omega)
          try (case rc6 => first | omega | (simp; omega))
          intro v2 w2 hown hgrow hnil
          have HA2 : Hid (OwnV 40 w2 B v2 (atL L (k + 1))) := by
            unfold Hid OwnV
            rw [HAN.out, List.length_append, atL_len]
            exact hown
          have HR2 := hidM (HR1b.out.grow HA1b.out (by decide) (by decide) hgrow)
          have HX2 := hidM (HX1b.out.grow HA1b.out (by decide) (by decide) hgrow)
          have HB2 : Hid (Below B w w2) := (HB1.out.alloc (by omega) _).grown hgrow (by simp; omega) (fun k hk => (OwnV.lt HA1b.out hk).1)
          have cb2 := HX2.out.cell
          clear hown hgrow hnil HA1 HR1 HX1 HB1 HA1b HR1b HX1b HBW HCZ cb1 hac
          go_wp2_with fail
          refine (HCL.out _ HX2.out).mono ?_
          rintro _ w3 ⟨v3, rfl, ho3, hb3⟩
          have HU3 := hidM ho3
          have HA3 := hidM (OwnV.below HA2.out hb3)
          have HR3 := hidM (OwnR.below HR2.out hb3)
          have HX3 := hidM (HX2.out.below hb3)
          have HB3 := hidM (HB2.out.trans (hb3.mono (by have := HX2.out.lt; omega)))
          have HFR : Hid (∀ j, v3.ownBlock = some j → ¬ LX B (.slice la nl lc) j) := fun j hj hx => by
            have h7 := (OwnV.lt ho3 hj).1
            rcases hx with hx | hx
            · have := HX2.out.lt; omega
            · have := (OwnV.lt HX2.out.own hx).2; omega
          have HU3b : Hid (OwnI w3 B v3 LK) := HU3.out.mono (by have := HX2.out.lt; omega)
          obtain ⟨xa, xc, hx3, -⟩ := HU3.out.shape
          subst hx3
          clear ho3 hb3 HA2 HR2 HX2 HB2 HCL HU3 cb2
          have HBW : Hid (Below w3.heap.size w3 (w3.alloc (.cells #[.slice xa LK.length xc] 28))) := (Below.refl _ w3).alloc (Nat.le_refl _) _
          have HA4 := hidM (OwnV.below HA3.out HBW.out)
          have HX4 := hidM (HX3.out.below HBW.out)
          have HU4 := hidM (OwnV.below HU3b.out HBW.out)
          obtain ⟨vs, hov, hvl, hvr⟩ := (OwnR.below HR3.out HBW.out)
          have HOV := hidM hov
          have HVL := hidM hvl
          have HVR := hidM hvr
          have hvk : vs.length = k := by rw [hvl, rowsL_len]
          have HVK := hidM hvk
          have hBs := HX3.out.lt
          clear hov hvl hvr hvk HR3
          go_wp2_with (at_builtin; go_loud (refine wpList_append_own _ rfl _ _ 22 rfl B 28 I28 (.slice none 0 0) 1 24 Tryd.underlying22 I28a I28b I28c I28d rfl (by decide) (.slice ra k rc) k vs rfl ?sc0 ⟨w3.heap.size, 0, none⟩ 1 1 [.slice xa LK.length xc] ?sd ?sc1 ?sc2 ?sc3 ?sc4 ?sc5 ?sc6 ?_))
          try (case sc0 => have h9 := HOV.out; unfold OwnV at h9; rwa [HVK.out] at h9)
          try (case sd => rfl)
          try (case sc1 => rfl)
          try (case sc2 => exact World.news_of_block (heap_alloc_new _ _))
          try (case sc3 => first | rfl | (intro u hu; simp at hu; subst hu; rfl))
          try (case sc4 => unfold maxLen; omega)
          try (case sc5 => omega)
          try (case sc6 => first | omega | (simp; omega))
          intro v5 w5 hown hgrow hnil
          have HR5 : Hid (OwnR w5 B v5 (rowsL L (k + 1)) (LX B (.slice la nl lc))) := by
            unfold Hid
            rw [HRN.out]
            refine OwnR.push HOV.out HVL.out HVR.out HU4.out HFR.out ?_ hgrow
            rw [HVK.out]; exact hown
          have HA5 : Hid (OwnV 40 w5 B v2 (atL L (k + 1))) := HA4.out.but (But.grown hgrow) (fun j hj => apart_types HA4.out HOV.out (by decide) hj)
          have HX5 := hidM (HX4.out.grow HOV.out (by decide) (by decide) hgrow)
          have HB5 : Hid (Below B w w5) := (HB3.out.alloc (by omega) _).grown hgrow (by simp; omega) (fun k hk => (OwnV.lt HOV.out hk).1)
          rw [← HLK.out] at HX5
          clear hown hgrow hnil HOV HVL HVR HVK HA3 HA4 HX3 HX4 HU4 HU3b HFR HB3 HBW hBs
          go_wp2
          go_roundw
          case rel => exact ⟨k + 1, _, by omega, by go_num, HA5, HR5, HX5, HB5, HN40⟩
          case measure => (show n - ((k : Int) + 1).toNat < n - ((k : Int)).toNat); omega
      · have hkn : k = n := by omega
        subst hkn
        have kk : ¬ (k : Int) < (k : Int) := by omega
        have HE : Hid (placesE L = 0) := places_yes H0.out (fun j hj => HS.out j (by have := HN.out; omega))
        rw [atL_len] at HA
        rw [rowsL_len] at HR
        go_wp2
        go_ret3
        exact .inr ⟨HE.out, _, _, rfl, by rw [HBE.out, HN.out]; exact HA.out, by rw [HBE.out, HN.out]; exact HR.out.avoid (fun _ _ h => h.elim), by rw [HBE.out]; exact HB.out⟩
  · have HE : Hid (placesE L = checkE L) := places_no h0
    have HNE := hidM h0
    obtain ⟨z, hz⟩ : ∃ z, checkE L = z := ⟨_, rfl⟩
    rw [hz] at HCK HE HNE
    clear hz h0
    have zz : ((z : Int) == 0) = false := by have := HNE.out; simp; omega
    go_enter Tryd.func8, Tryd.ntmps8
    go_wp2_with (go_at_call 13; refine HCK.out.mono ?_; rintro _ wq ⟨rfl, hq⟩; rw [hq]; clear hq)
    go_ret3
    exact .inl ⟨by rw [HE.out]; exact HNE.out, by rw [HE.out]; rfl, Below.refl _ _⟩
end Go.Proofs.YthgmabbnmoembaaDoor
