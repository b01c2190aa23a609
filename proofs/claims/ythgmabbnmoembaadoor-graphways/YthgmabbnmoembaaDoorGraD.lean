/-
  Few: the rows of a history, copied.
-/
import Derived.Test.YthgmabbnmoembaaDoorGraC
namespace Go.Proofs.YthgmabbnmoembaaDoor
open Go.RowKit

/-- rows of numbers of the call's own, in a row of the call's own; none of them in a block of X -/
def OwnR (w : World) (B : Nat) (v : Value) (L : List (List Int)) (X : Nat → Prop) : Prop :=
  ∃ vs, OwnV 28 w B v vs ∧ vs.length = L.length ∧ ∀ j (h : j < vs.length) (h2 : j < L.length), OwnI w B vs[j] L[j] ∧ ∀ k, vs[j].ownBlock = some k → ¬ X k
theorem OwnR.nil {w : World} {B : Nat} {v : Value} {X : Nat → Prop} (h : OwnV 28 w B v []) : OwnR w B v [] X := ⟨[], h, rfl, fun j h => by simp at h⟩
theorem OwnR.rows {w : World} {B : Nat} {v : Value} {L : List (List Int)} {X : Nat → Prop} (h : OwnR w B v L X) : RowsV w v L := by
  obtain ⟨vs, ho, hl, hr⟩ := h
  obtain ⟨a, c, hv, hc, hs⟩ := ho.shape
  refine ⟨a, c, by rw [hv, hl], by omega, fun hne => ?_⟩
  have hp : 0 < vs.length := by have := List.length_pos_iff.2 hne; omega
  obtain ⟨g, h1, _, _, h4, h5⟩ := hs hp
  exact ⟨g, 0, h1, h4, fun j hj => ⟨vs[j], by rw [Nat.zero_add]; exact h5 j (by omega), (hr j (by omega) hj).1.ints⟩⟩
theorem OwnR.len {w : World} {B : Nat} {v : Value} {L : List (List Int)} {X : Nat → Prop} (h : OwnR w B v L X) : ∃ a c, v = .slice a L.length c := by
  obtain ⟨vs, ho, hl, hr⟩ := h
  obtain ⟨a, c, hv, hc, hs⟩ := ho.shape
  exact ⟨a, c, by rw [hv, hl]⟩
theorem OwnR.below {w w' : World} {B : Nat} {v : Value} {L : List (List Int)} {X : Nat → Prop} (h : OwnR w B v L X) (hb : Below w.heap.size w w') : OwnR w' B v L X := by
  obtain ⟨vs, ho, hl, hr⟩ := h
  exact ⟨vs, ho.below hb, hl, fun j h1 h2 => ⟨OwnV.below (hr j h1 h2).1 hb, (hr j h1 h2).2⟩⟩
/-- a step that turns the blocks of X alone, and not the list of the rows -/
theorem OwnR.but {w w' : World} {B : Nat} {v : Value} {L : List (List Int)} {X : Nat → Prop} (h : OwnR w B v L X) (hb : But X w w') (hv : ∀ k, v.ownBlock = some k → ¬ X k) : OwnR w' B v L X := by
  obtain ⟨vs, ho, hl, hr⟩ := h
  exact ⟨vs, ho.but hb hv, hl, fun j h1 h2 => ⟨(hr j h1 h2).1.but hb (hr j h1 h2).2, (hr j h1 h2).2⟩⟩
theorem OwnR.avoid {w : World} {B : Nat} {v : Value} {L : List (List Int)} {X Y : Nat → Prop} (h : OwnR w B v L X) (hy : ∀ k, k < w.heap.size → Y k → X k) : OwnR w B v L Y := by
  obtain ⟨vs, ho, hl, hr⟩ := h
  exact ⟨vs, ho, hl, fun j h1 h2 => ⟨(hr j h1 h2).1, fun k hk hyk => (hr j h1 h2).2 k hk (hy k ((hr j h1 h2).1.lt hk).2 hyk)⟩⟩
theorem heap_type {w : World} {B : Nat} {e : TypeId} {v : Value} {vs : List Value} (h : OwnV e w B v vs) {k : Nat} (hk : v.ownBlock = some k) : ∃ cur, w.heap[k]? = some (.cells cur e (0, 0)) := by
  rcases h.2 with ⟨rfl, _⟩ | ⟨g, cap, cur, rfl, _, hg, _⟩
  · simp [Value.ownBlock] at hk
  · simp [Value.ownBlock] at hk
    subst hk
    exact ⟨cur, hg⟩
/-- rows of unlike types stand in unlike blocks -/
theorem apart_types {w : World} {B C : Nat} {e f : TypeId} {u v : Value} {us vs : List Value} (h : OwnV e w B u us) (h2 : OwnV f w C v vs) (hne : e ≠ f) {k : Nat} (hk : u.ownBlock = some k) : ¬ v.ownBlock = some k := by
  intro hk2
  obtain ⟨c1, e1⟩ := heap_type h hk
  obtain ⟨c2, e2⟩ := heap_type h2 hk2
  rw [e1] at e2
  cases e2
  exact hne rfl
/-- a row more behind an append of one cell -/
theorem OwnR.push {w w' : World} {B : Nat} {v v' u : Value} {L : List (List Int)} {l : List Int} {X : Nat → Prop} {vs : List Value} (ho : OwnV 28 w B v vs) (hl : vs.length = L.length) (hr : ∀ j (h : j < vs.length) (h2 : j < L.length), OwnI w B vs[j] L[j] ∧ ∀ k, vs[j].ownBlock = some k → ¬ X k)
    (hu : OwnI w B u l) (hux : ∀ k, u.ownBlock = some k → ¬ X k) (hown : w'.ownsRow B 28 1 v' (vs.length + 1) (vs ++ [u])) (hgrow : w.grownBy w' v.ownBlock) : OwnR w' B v' (L ++ [l]) X := by
  refine ⟨vs ++ [u], ?_, by simp [hl], fun j h1 h2 => ?_⟩
  · unfold OwnV; simpa using hown
  · by_cases hj : j < vs.length
    · have := hr j hj (by omega)
      rw [List.getElem_append_left hj, List.getElem_append_left (by omega)]
      exact ⟨this.1.but (But.grown hgrow) (fun k hk => apart_types this.1 ho (by decide) hk), this.2⟩
    · have e1 : (vs ++ [u])[j] = u := by
        rw [List.getElem_append_right (by omega)]
        simp
      have e2 : (L ++ [l])[j] = l := by
        rw [List.getElem_append_right (by omega)]
        simp
      rw [e1, e2]
      exact ⟨hu.but (But.grown hgrow) (fun k hk => apart_types hu ho (by decide) hk), hux⟩
def fewL (L : List (List Int)) : List (List Int) := (L.take 220).map fun l => l.take 60
theorem fewL_len (L : List (List Int)) : (fewL L).length = min 220 L.length := by unfold fewL; simp
theorem few_step {L : List (List Int)} {k : Nat} (h : k < L.length) : (L.take (k + 1)).map (fun l => l.take 60) = (L.take k).map (fun l => l.take 60) ++ [L[k].take 60] := by
  rw [List.take_succ_eq_append_getElem h, List.map_append]; rfl
theorem few_done {L : List (List Int)} {k : Nat} (h : k ≤ L.length) (h2 : k ≤ 220) (hn : ¬ (k < L.length ∧ k < 220)) : (L.take k).map (fun l => l.take 60) = fewL L := by
  unfold fewL
  by_cases h3 : k = 220
  · rw [h3]
  · have : k = L.length := by omega
    rw [this, List.take_of_length_le (Nat.le_refl _), List.take_of_length_le (by omega)]
def FewPost (L : List (List Int)) (w : World) (e : Ending) (w' : World) : Prop := ∃ v', e = .returned v' ∧ OwnR w' w.heap.size v' (fewL L) (fun _ => False) ∧ Below w.heap.size w w'
theorem ints_cut {w : World} {v : Value} {l : List Int} (h : IntsV w v l) : ∃ a c, v = .slice a l.length c ∧ l.length ≤ c ∧ IntsV w (.slice a (l.take 60).length c) (l.take 60) ∧ (a = none → c = 0) := by
  obtain ⟨a, c, hv, hc, h0, hs⟩ := h
  refine ⟨a, c, hv, hc, ⟨a, c, rfl, by simp; omega, h0, fun hne => ?_⟩, h0⟩
  obtain ⟨g, o, h1, h2, h3⟩ := hs (fun h => by rw [h] at hne; simp at hne)
  refine ⟨g, o, h1, h2, fun j hj => ?_⟩
  rw [h3 j (by simp at hj; omega), List.getElem_take]
set_option maxHeartbeats 4000000 in
theorem few_any (v : Value) (L : List (List Int)) (w : World) (hv : RowsV w v L) :
    Calls Tryd.prog 7 #[v] w fun e w' => FewPost L w e w' := by
  obtain ⟨a, cp, rfl, hcp, hst⟩ := hv
  have HST := hidM hst
  obtain ⟨n, hn⟩ : ∃ n, L.length = n := ⟨_, rfl⟩
  have HN := hidM hn
  rw [hn] at hcp ⊢
  clear hn hst
  unfold FewPost
  have HM0 : Hid (OwnR (w.alloc (.cells #[] 28)) w.heap.size (.slice (some ⟨w.heap.size, 0, none⟩) 0 0) [] (fun _ => False)) := OwnR.nil (own_made 28 w _ (Nat.le_refl _))
  have HB0 : Hid (Below w.heap.size w (w.alloc (.cells #[] 28))) := (Below.refl _ w).alloc (Nat.le_refl _) _
  go_enter Tryd.func7, Tryd.ntmps7
  go_wp2
  generalize w.alloc (.cells #[] 28) = W at *
  generalize Value.slice (some ⟨w.heap.size, 0, none⟩) 0 0 = V0 at *
  go_loopw [3, 4] (fun ov iv wr => ∃ (k : Nat), k ≤ n ∧ k ≤ 220 ∧ iv = .int .i64 k ∧ Hid (OwnR wr w.heap.size ov ((L.take k).map fun l => l.take 60) (fun _ => False)) ∧ Hid (Below w.heap.size w wr)) (fun _ iv _ => n - (intOf iv).toNat)
  case atStart => exact ⟨0, Nat.zero_le _, Nat.zero_le _, rfl, HM0, HB0⟩
  case round =>
    obtain ⟨k, hk, hk2, rfl, HO, HB⟩ := hrel
    clear HM0 HB0
    have HLEN : Hid (((L.take k).map fun l => l.take 60).length = k) := by unfold Hid; have := HN.out; simp; omega
    by_cases hlt : k < n ∧ k < 220
    · have kk : (k : Int) < (n : Int) := by omega
      have kk2 : (k : Int) < 220 := by omega
      have hkl : k < L.length := by rw [HN.out]; exact hlt.1
      have HSTEP := hidM (few_step hkl)
      obtain ⟨g, o, ha, hg, hat⟩ := HST.out (fun h => by rw [h] at hkl; simp at hkl)
      subst ha
      obtain ⟨u, ck, hu⟩ := hat k hkl
      have ck' : wr.cell? ⟨g, o + k, none⟩ = some u := (HB.out.cell (p := ⟨g, o + k, none⟩) hg).trans ck
      have hu' := hu.below HB.out
      clear ck hu hat
      generalize L[k] = l at *
      generalize (L.take k).map (fun l => l.take 60) = M at *
      obtain ⟨M', hM'⟩ : ∃ M', (L.take (k + 1)).map (fun l => l.take 60) = M' := ⟨_, rfl⟩
      rw [hM'] at HSTEP
      have HMM' := hidM hM'
      clear hM'
      obtain ⟨ua, uc, rfl, huc, hcut, hu0⟩ := ints_cut hu'
      have HCUT := hidM hcut
      obtain ⟨vs, hov, hvl, hvr⟩ := HO.out
      have HOV := hidM hov
      have HVL := hidM hvl
      have HVR := hidM hvr
      obtain ⟨oa, oc, rfl, hoc, -⟩ := hov.shape
      have HVK : Hid (vs.length = k) := by unfold Hid; rw [HVL.out]; exact HLEN.out
      obtain ⟨m, hm⟩ : ∃ m, l.length = m := ⟨_, rfl⟩
      obtain ⟨m2, hm2⟩ : ∃ m2, (l.take 60).length = m2 := ⟨_, rfl⟩
      have HMM : Hid (m2 = min 60 m) := by unfold Hid; rw [← hm2, ← hm]; simp
      have HM2 := hidM hm2
      rw [hm] at ck' huc
      rw [hm2] at HCUT
      rw [HVK.out] at hoc ⊢
      obtain ⟨T, hT⟩ : ∃ T, l.take 60 = T := ⟨_, rfl⟩
      rw [hT] at HCUT HM2 HSTEP
      clear hlt hov hvl hvr hm hm2 HO hu' hcut hT
      cases ua with
      | some ad =>
        by_cases hbig : 60 < m
        · have g1 : (60 : Int) < (m : Int) := by omega
          have g2 : decide ((60 : Int) < (m : Int)) = true := by simpa using g1
          have g3 : (60 : Int) ≤ (uc : Int) := by omega
          have hm2x : m2 = 60 := by have := HMM.out; omega
          subst hm2x
          have h60le : 60 ≤ 60 := by have := HMM.out; omega
          go_wp2_with (at_builtin; go_loud (refine wpList_append_own _ rfl _ _ 28 rfl wr.heap.size 3 I3 (.int .i64 0) 1 8 Tryd.underlying28 I3a I3b I3c I3d rfl (by decide) _ _ _ rfl (own_made 3 wr _ (Nat.le_refl _)) ad 60 uc (intsV T) rfl ?qx1 ?qx2 ?qx3 ?qx4 ?qx5 ?qx6 ?_))
          try (case qx1 => rw [intsV_len, HM2.out] <;> omega)
          try (case qx2 => intro j z hz; exact Lib.cell?_alloc_some _ (HCUT.out.news.2 j z hz))
          try (case qx3 => exact intsV_one T)
          try (case qx4 => simp [maxLen])
          try (case qx5 => simp)
          try (case qx6 => simp)
          intro x1 w1 hown hgrow hnil
          have HBW1 : Hid (Below wr.heap.size wr w1) := grown_made hgrow
          have HX1 : Hid (OwnI w1 wr.heap.size x1 T) := by
            unfold Hid OwnI OwnV
            rw [intsV_len, HM2.out]
            simpa using hown
          clear hown hgrow hnil HCUT
          obtain ⟨xa, xc, hx1, -⟩ := OwnI.shape HX1.out
          rw [HM2.out] at hx1
          subst hx1
          have HUX : Hid (OwnI w1 w.heap.size (Value.slice xa 60 xc) T) := HX1.out.mono HB.out.size
          clear HX1
          have hsz1 := HBW1.out.size
          have HBX : Hid (Below wr.heap.size wr (w1.alloc (.cells #[(Value.slice xa 60 xc)] 28))) := HBW1.out.alloc hsz1 _
          have HOV1 : Hid (OwnV 28 (w1.alloc (.cells #[(Value.slice xa 60 xc)] 28)) w.heap.size (.slice oa k oc) vs) := by
            have h9 := HOV.out.below HBX.out
            rwa [HVK.out] at h9
          go_wp2_with (at_builtin; go_loud (refine wpList_append_own _ rfl _ _ 22 rfl w.heap.size 28 I28 (.slice none 0 0) 1 24 Tryd.underlying22 I28a I28b I28c I28d rfl (by decide) (.slice oa k oc) k vs rfl ?rx0 ⟨w1.heap.size, 0, none⟩ 1 1 [(Value.slice xa 60 xc)] ?rdx ?rx1 ?rx2 ?rx3 ?rx4 ?rx5 ?rx6 ?_))
          try (case rx0 => have h9 := HOV1.out; unfold OwnV at h9; rwa [HVK.out] at h9)
          try (case rdx => rfl)
          try (case rx1 => rfl)
          try (case rx2 => exact World.news_of_block (heap_alloc_new _ _))
          try (case rx3 => first | rfl | (intro z hz; simp at hz; subst hz; rfl))
          try (case rx4 => unfold maxLen; omega)
          try (case rx5 => omega)
          try (case rx6 => have := HB.out.size; simp; omega)
          intro v2 w2 hown hgrow hnil
          have HB2 : Hid (Below w.heap.size w w2) := (HB.out.trans (HBX.out.mono HB.out.size)).grown hgrow (by have := HB.out.size; simp; omega) (fun k hk => (OwnV.lt HOV1.out hk).1)
          have HO2 : Hid (OwnR w2 w.heap.size v2 M' (fun _ => False)) := by
            unfold Hid
            rw [HSTEP.out]
            refine OwnR.push HOV1.out HVL.out (fun j h1 h2 => ⟨OwnV.below (HVR.out j h1 h2).1 HBX.out, fun _ _ h => h⟩) (OwnV.below HUX.out ((Below.refl _ w1).alloc (Nat.le_refl _) _)) (fun _ _ h => h) ?_ hgrow
            rw [HVK.out]; exact hown
          clear hown hgrow hnil HOV HVL HVR HOV1 HUX HBX HBW1 hsz1 HB
          go_wp2
          go_roundw
          case rel => exact ⟨k + 1, by omega, by omega, by go_num, by rw [HMM'.out]; exact HO2, HB2⟩
          case measure => (show n - ((k : Int) + 1).toNat < n - ((k : Int)).toNat); omega
        · have g2 : decide ((60 : Int) < (m : Int)) = false := by simp; omega
          have hm2x : m2 = m := by have := HMM.out; omega
          subst hm2x
          go_wp2_with (at_builtin; go_loud (refine wpList_append_own _ rfl _ _ 28 rfl wr.heap.size 3 I3 (.int .i64 0) 1 8 Tryd.underlying28 I3a I3b I3c I3d rfl (by decide) _ _ _ rfl (own_made 3 wr _ (Nat.le_refl _)) ad m2 uc (intsV T) rfl ?qy1 ?qy2 ?qy3 ?qy4 ?qy5 ?qy6 ?_))
          try (case qy1 => rw [intsV_len, HM2.out] <;> omega)
          try (case qy2 => intro j z hz; exact Lib.cell?_alloc_some _ (HCUT.out.news.2 j z hz))
          try (case qy3 => exact intsV_one T)
          try (case qy4 => unfold maxLen; omega)
          try (case qy5 => first | omega | simp)
          try (case qy6 => simp)
          intro x1 w1 hown hgrow hnil
          have HBW1 : Hid (Below wr.heap.size wr w1) := grown_made hgrow
          have HX1 : Hid (OwnI w1 wr.heap.size x1 T) := by
            unfold Hid OwnI OwnV
            rw [intsV_len, HM2.out]
            simpa using hown
          clear hown hgrow hnil HCUT
          obtain ⟨xa, xc, hx1, -⟩ := OwnI.shape HX1.out
          rw [HM2.out] at hx1
          subst hx1
          have HUX : Hid (OwnI w1 w.heap.size (Value.slice xa m2 xc) T) := HX1.out.mono HB.out.size
          clear HX1
          have hsz1 := HBW1.out.size
          have HBX : Hid (Below wr.heap.size wr (w1.alloc (.cells #[(Value.slice xa m2 xc)] 28))) := HBW1.out.alloc hsz1 _
          have HOV1 : Hid (OwnV 28 (w1.alloc (.cells #[(Value.slice xa m2 xc)] 28)) w.heap.size (.slice oa k oc) vs) := by
            have h9 := HOV.out.below HBX.out
            rwa [HVK.out] at h9
          go_wp2_with (at_builtin; go_loud (refine wpList_append_own _ rfl _ _ 22 rfl w.heap.size 28 I28 (.slice none 0 0) 1 24 Tryd.underlying22 I28a I28b I28c I28d rfl (by decide) (.slice oa k oc) k vs rfl ?ry0 ⟨w1.heap.size, 0, none⟩ 1 1 [(Value.slice xa m2 xc)] ?rdy ?ry1 ?ry2 ?ry3 ?ry4 ?ry5 ?ry6 ?_))
          try (case ry0 => have h9 := HOV1.out; unfold OwnV at h9; rwa [HVK.out] at h9)
          try (case rdy => rfl)
          try (case ry1 => rfl)
          try (case ry2 => exact World.news_of_block (heap_alloc_new _ _))
          try (case ry3 => first | rfl | (intro z hz; simp at hz; subst hz; rfl))
          try (case ry4 => unfold maxLen; omega)
          try (case ry5 => omega)
          try (case ry6 => have := HB.out.size; simp; omega)
          intro v2 w2 hown hgrow hnil
          have HB2 : Hid (Below w.heap.size w w2) := (HB.out.trans (HBX.out.mono HB.out.size)).grown hgrow (by have := HB.out.size; simp; omega) (fun k hk => (OwnV.lt HOV1.out hk).1)
          have HO2 : Hid (OwnR w2 w.heap.size v2 M' (fun _ => False)) := by
            unfold Hid
            rw [HSTEP.out]
            refine OwnR.push HOV1.out HVL.out (fun j h1 h2 => ⟨OwnV.below (HVR.out j h1 h2).1 HBX.out, fun _ _ h => h⟩) (OwnV.below HUX.out ((Below.refl _ w1).alloc (Nat.le_refl _) _)) (fun _ _ h => h) ?_ hgrow
            rw [HVK.out]; exact hown
          clear hown hgrow hnil HOV HVL HVR HOV1 HUX HBX HBW1 hsz1 HB
          go_wp2
          go_roundw
          case rel => exact ⟨k + 1, by omega, by omega, by go_num, by rw [HMM'.out]; exact HO2, HB2⟩
          case measure => (show n - ((k : Int) + 1).toNat < n - ((k : Int)).toNat); omega
      | none =>
        obtain rfl : uc = 0 := hu0 rfl
        obtain rfl : m = 0 := by omega
        have hm2x : m2 = 0 := by have := HMM.out; omega
        subst hm2x
        have h0le : 0 ≤ 60 := by have := HMM.out; omega
        have HBW1 : Hid (Below wr.heap.size wr (wr.alloc (.cells #[] 3))) := (Below.refl _ wr).alloc (Nat.le_refl _) _
        have HX1 : Hid (OwnI (wr.alloc (.cells #[] 3)) wr.heap.size (.slice (some ⟨wr.heap.size, 0, none⟩) 0 0) T) := by
          have hT0 : T = [] := List.eq_nil_of_length_eq_zero (by rw [HM2.out])
          rw [hT0]
          exact own_made 3 wr _ (Nat.le_refl _)
        clear HCUT
        have HUX : Hid (OwnI (wr.alloc (.cells #[] 3)) w.heap.size (Value.slice (some ⟨wr.heap.size, 0, none⟩) 0 0) T) := HX1.out.mono HB.out.size
        clear HX1
        have hsz1 := HBW1.out.size
        have HBX : Hid (Below wr.heap.size wr ((wr.alloc (.cells #[] 3)).alloc (.cells #[(Value.slice (some ⟨wr.heap.size, 0, none⟩) 0 0)] 28))) := HBW1.out.alloc hsz1 _
        have HOV1 : Hid (OwnV 28 ((wr.alloc (.cells #[] 3)).alloc (.cells #[(Value.slice (some ⟨wr.heap.size, 0, none⟩) 0 0)] 28)) w.heap.size (.slice oa k oc) vs) := by
          have h9 := HOV.out.below HBX.out
          rwa [HVK.out] at h9
        go_wp2_with (at_builtin; go_loud (refine wpList_append_own _ rfl _ _ 22 rfl w.heap.size 28 I28 (.slice none 0 0) 1 24 Tryd.underlying22 I28a I28b I28c I28d rfl (by decide) (.slice oa k oc) k vs rfl ?rz0 ⟨wr.heap.size + 1, 0, none⟩ 1 1 [(Value.slice (some ⟨wr.heap.size, 0, none⟩) 0 0)] ?rdz ?rz1 ?rz2 ?rz3 ?rz4 ?rz5 ?rz6 ?_))
        try (case rz0 => have h9 := HOV1.out; unfold OwnV at h9; rwa [HVK.out] at h9)
        try (case rdz => rfl)
        try (case rz1 => rfl)
        try (case rz2 => exact World.news_of_block (by simpa using heap_alloc_new (wr.alloc (.cells #[] 3)) _))
        try (case rz3 => first | rfl | (intro z hz; simp at hz; subst hz; rfl))
        try (case rz4 => unfold maxLen; omega)
        try (case rz5 => omega)
        try (case rz6 => have := HB.out.size; simp; omega)
        intro v2 w2 hown hgrow hnil
        have HB2 : Hid (Below w.heap.size w w2) := (HB.out.trans (HBX.out.mono HB.out.size)).grown hgrow (by have := HB.out.size; simp; omega) (fun k hk => (OwnV.lt HOV1.out hk).1)
        have HO2 : Hid (OwnR w2 w.heap.size v2 M' (fun _ => False)) := by
          unfold Hid
          rw [HSTEP.out]
          refine OwnR.push HOV1.out HVL.out (fun j h1 h2 => ⟨OwnV.below (HVR.out j h1 h2).1 HBX.out, fun _ _ h => h⟩) (OwnV.below HUX.out ((Below.refl _ (wr.alloc (.cells #[] 3))).alloc (Nat.le_refl _) _)) (fun _ _ h => h) ?_ hgrow
          rw [HVK.out]; exact hown
        clear hown hgrow hnil HOV HVL HVR HOV1 HUX HBX HBW1 hsz1 HB
        go_wp2
        go_roundw
        case rel => exact ⟨k + 1, by omega, by omega, by go_num, by rw [HMM'.out]; exact HO2, HB2⟩
        case measure => (show n - ((k : Int) + 1).toNat < n - ((k : Int)).toNat); omega
    · have HEQ := few_done (L := L) (k := k) (by rw [HN.out]; exact hk) hk2 (by rw [HN.out]; exact hlt)
      rw [HEQ] at HO
      clear HEQ
      have HR := HO
      clear HO HLEN HST
      by_cases h1 : k < n
      · have g1 : (k : Int) < (n : Int) := by omega
        have g2 : ¬ (k : Int) < 220 := by omega
        go_wp2
        go_ret
        exact ⟨_, rfl, HR.out, HB.out⟩
      · have g1 : ¬ (k : Int) < (n : Int) := by omega
        go_wp2
        go_ret
        exact ⟨_, rfl, HR.out, HB.out⟩
end Go.Proofs.YthgmabbnmoembaaDoor
