/-
  The document's Peeled and Lookup, walked.
  The document's Names, walked.
  The document's Lookup, walked.
-/
import Derived.Test.YtjoomlpocpdonaaGreatDoorJOpS
namespace Go.Proofs.YtjoomlpocpdonaaGreatDoor
open Go.RowKit

theorem rget_cases {fs : List FileB} {p : ByteArray} {e : Ending} (ha : Apart fs) (h : RGetPost fs p e) :
    (∃ f ∈ fs, getL fs p.data.toList = some f.2.data.toList ∧ e = .returned (.tuple #[.string f.2, .bool true])) ∨ (getL fs p.data.toList = none ∧ e = .returned (.tuple #[.string .empty, .bool false])) := by
  rcases h with ⟨f, hf, he, hr⟩ | ⟨hn, hr⟩
  · subst he; exact .inl ⟨f, hf, getL_some ha hf, hr⟩
  · exact .inr ⟨getL_none fun f hf e => hn f hf (ba_eq e), hr⟩
theorem find_at {rows : List RowR} {n : List UInt8} {k : Nat} (hk : k < rows.length) (h1 : ∀ t (h : t < rows.length), t < k → (rows[t].name == n) = false) (h2 : (rows[k].name == n) = true) : rows.find? (fun r => r.name == n) = some rows[k] := by
  rw [List.find?_eq_some_iff_getElem]
  exact ⟨h2, k, hk, rfl, fun j hj => by rw [h1 j (by omega) hj]; rfl⟩
theorem find_not {rows : List RowR} {n : List UInt8} (h1 : ∀ t (h : t < rows.length), (rows[t].name == n) = false) : rows.find? (fun r => r.name == n) = none := by
  rw [List.find?_eq_none]
  intro x hx
  obtain ⟨k, hk, rfl⟩ := List.mem_iff_getElem.1 hx
  rw [h1 k hk]; decide
set_option maxRecDepth 100000 in
set_option maxHeartbeats 4000000 in
theorem rpeeled_any (b off c gr cr : Nat) (us : List FileB) (rows : List RowR) (n : ByteArray) (w : World) (hb : b < w.heap.size) (hf : FilesAt w b off us) (hl : us.length ≤ 1000) (ha : Apart us) (hgr : gr < w.heap.size) (hrv : RowsV w gr rows) (hrl : rows.length ≤ 2000) :
    Calls Tryz.prog 19 #[.slice (some ⟨b, off, none⟩) us.length c, .slice (some ⟨gr, 0, none⟩) rows.length cr, .string n] w fun e w' => e = .returned (.string (mkB (peeledL (getL us) rows n.data.toList))) ∧ Below w.heap.size w w' := by
  have HGT := hidM (rget_any b off c us n w hb hf (by omega))
  have HAP := hidM ha
  have HRV := hidM hrv
  have HEQ : Hid (∀ k (h : k < rows.length), ((mkB rows[k].name).toList == n.toList) = (rows[k].name == n.data.toList)) := fun k h => by rw [mkB_toList, ByteArray.toList_eq]
  have HPD : Hid (peeledL (getL us) rows n.data.toList = match getL us n.data.toList with
    | some _ => []
    | none => match rows.find? (fun r => r.name == n.data.toList) with
      | some r => r.peeled
      | none => []) := rfl
  obtain ⟨ANS, hans⟩ : ∃ ANS, peeledL (getL us) rows n.data.toList = ANS := ⟨_, rfl⟩
  rw [hans] at HPD ⊢
  clear hf ha hrv hans
  go_enter Tryz.func19, Tryz.ntmps19
  go_wp2_with fail
  refine HGT.out.mono ?_
  rintro _ w1 ⟨hp, hb1⟩
  have HB1 := hidM hb1
  have HRV1 := hidM (HRV.out.below hb1 hgr)
  have hgr1 : gr < w1.heap.size := Nat.lt_of_lt_of_le hgr hb1.size
  clear hb1 HGT HRV
  rcases rget_cases HAP.out hp with ⟨f, hf, hg, rfl⟩ | ⟨hg, rfl⟩
  · have HF : Hid (ANS = []) := by unfold Hid; rw [HPD.out, hg]
    clear hp hf hg HPD
    generalize f.2 = FD at *
    go_wp2_with fail
    go_loopw [19] (fun i wx => ∃ (k : Nat), k ≤ rows.length ∧ i = .int .i64 k ∧ Below w1.heap.size w1 wx) (fun i _ => rows.length - (intOf i).toNat)
    case atStart => exact ⟨0, Nat.zero_le _, rfl, Below.refl _ _⟩
    case round =>
      obtain ⟨k, hk, rfl, hbx⟩ := hrel
      have HBX := hidM hbx
      have hszx := hbx.size
      clear hbx
      by_cases hlt : k < rows.length
      · have kk : (k : Int) < (rows.length : Int) := by omega
        have hrv2 := HRV1.out.below HBX.out hgr1 k hlt
        have c1 := hrv2.1
        have c2 := hrv2.2.1
        have c3 := hrv2.2.2
        have heq := HEQ.out k hlt
        clear hrv2
        generalize (rows[k].name == n.data.toList) = qq at *
        generalize mkB rows[k].name = X1 at *
        generalize mkB rows[k].id = X2 at *
        generalize mkB rows[k].peeled = X3 at *
        cases qq
        all_goals
          go_wp2_with fail
          go_roundw
          case rel => exact ⟨k + 1, by omega, by go_num, HBX.out.alloc hszx _⟩
          case measure => (show rows.length - ((k : Int) + 1).toNat < rows.length - ((k : Int)).toNat); omega
      · obtain rfl : k = rows.length := by omega
        have HBN := hidM (HB1.out.trans (HBX.out.mono HB1.out.size))
        go_wp2_with fail
        go_ret
        exact ⟨by rw [HF.out]; rfl, HBN.out⟩
  · have HF : Hid (ANS = match rows.find? (fun r => r.name == n.data.toList) with
      | some r => r.peeled
      | none => []) := by unfold Hid; rw [HPD.out, hg]
    clear hp hg HPD
    go_wp2_with fail
    go_loopw [19] (fun i wx => ∃ (k : Nat), k ≤ rows.length ∧ i = .int .i64 k ∧ (∀ t (h : t < rows.length), t < k → (rows[t].name == n.data.toList) = false) ∧ Below w1.heap.size w1 wx) (fun i _ => rows.length - (intOf i).toNat)
    case atStart => exact ⟨0, Nat.zero_le _, rfl, fun t _ h => by omega, Below.refl _ _⟩
    case round =>
      obtain ⟨k, hk, rfl, hd, hbx⟩ := hrel
      have HD := hidM hd
      have HBX := hidM hbx
      have hszx := hbx.size
      clear hbx hd
      by_cases hlt : k < rows.length
      · have kk : (k : Int) < (rows.length : Int) := by omega
        have hrv2 := HRV1.out.below HBX.out hgr1 k hlt
        have c1 := hrv2.1
        have c2 := hrv2.2.1
        have c3 := hrv2.2.2
        have heq := HEQ.out k hlt
        have HHIT : Hid ((rows[k].name == n.data.toList) = true → mkB ANS = mkB rows[k].peeled) := fun h => by rw [HF.out, find_at hlt HD.out h]
        have HMISS : Hid ((rows[k].name == n.data.toList) = false → ∀ t (h : t < rows.length), t < k + 1 → (rows[t].name == n.data.toList) = false) := fun h0 t h ht => by
          by_cases h5 : t < k
          · exact HD.out t h h5
          · obtain rfl : t = k := by omega
            exact h0
        have HBN := hidM (HB1.out.trans (HBX.out.mono HB1.out.size))
        clear hrv2
        generalize (rows[k].name == n.data.toList) = qq at *
        generalize mkB rows[k].name = X1 at *
        generalize mkB rows[k].id = X2 at *
        generalize mkB rows[k].peeled = X3 at *
        cases qq with
        | true =>
          have HH := hidM (HHIT.out rfl)
          clear HHIT HMISS
          go_wp2_with fail
          go_ret
          refine ⟨by rw [HH.out]; rfl, HBN.out.alloc HBN.out.size _⟩
        | false =>
          have HM := hidM (HMISS.out rfl)
          clear HHIT HMISS
          go_wp2_with fail
          go_roundw
          case rel => exact ⟨k + 1, by omega, by go_num, HM.out, HBX.out.alloc hszx _⟩
          case measure => (show rows.length - ((k : Int) + 1).toNat < rows.length - ((k : Int)).toNat); omega
      · obtain rfl : k = rows.length := by omega
        have HBN := hidM (HB1.out.trans (HBX.out.mono HB1.out.size))
        have HE : Hid (ANS = []) := by unfold Hid; rw [HF.out, find_not (fun t h => HD.out t h h)]
        go_wp2_with fail
        go_ret
        exact ⟨by rw [HE.out]; rfl, HBN.out⟩
end Go.Proofs.YtjoomlpocpdonaaGreatDoor
namespace Go.Proofs.YtjoomlpocpdonaaGreatDoor
open Go.RowKit

set_option maxRecDepth 100000 in
set_option maxHeartbeats 4000000 in
theorem rnames_any (b off c gr cr : Nat) (us : List FileB) (rows : List RowR) (front : ByteArray) (w : World) (hb : b < w.heap.size) (hf : FilesAt w b off us) (hl : us.length ≤ 1000) (hgr : gr < w.heap.size) (hrv : RowsV w gr rows) (hrl : rows.length ≤ 2000) :
    Calls Tryz.prog 15 #[.slice (some ⟨b, off, none⟩) us.length c, .slice (some ⟨gr, 0, none⟩) rows.length cr, .string front] w fun e w' => NamesRet us rows front.data.toList e w' ∧ Below w.heap.size w w' := by
  have HRV := hidM hrv
  obtain ⟨F, hF⟩ : ∃ F : ByteArray, F = ⟨#[114, 101, 102, 115, 47]⟩ := ⟨_, rfl⟩
  have HUD : Hid (∀ W, Below w.heap.size w W → Calls Tryz.prog 46 #[.slice (some ⟨b, off, none⟩) us.length c, .string ⟨#[114, 101, 102, 115, 47]⟩] W fun e w' => SlRet w' W.heap.size (rundF us F) e ∧ Below W.heap.size W w') := fun W hW => by
    rw [hF]
    exact runder_any b off c us ⟨#[114, 101, 102, 115, 47]⟩ W (Nat.lt_of_lt_of_le hb hW.size) (hf.below hW hb) (by omega)
  have HRR := hidM (rund_rise us F)
  have HUL : Hid ((rundF us F).length ≤ us.length) := by
    have := rundF_len us F us.length (Nat.le_refl _)
    rwa [List.take_length] at this
  have HMF : Hid (∀ z : ByteArray, (∃ f ∈ us, beginsF F f = true ∧ f.1 = z) ↔ (∃ f ∈ us, f.1 = z ∧ Lib.hasPrefix z.data.toList folderL = true)) := fun z => by
    constructor
    · rintro ⟨f, h1, h2, rfl⟩
      refine ⟨f, h1, rfl, ?_⟩
      unfold beginsF at h2
      rw [hF] at h2
      exact h2
    · rintro ⟨f, h1, rfl, h2⟩
      refine ⟨f, h1, ?_, rfl⟩
      unfold beginsF
      rw [hF]
      exact h2
  clear hf hrv hF
  generalize rundF us F = U at *
  have hul : U.length ≤ 1000 := by have := HUL.out; omega
  have HV0 : Hid (StrsV (w.alloc (.cells #[] 9)) (.slice (some ⟨w.heap.size, 0, none⟩) 0 0) []) := ⟨_,_, rfl, fun h => absurd rfl h⟩
  have HB0 : Hid (Below w.heap.size w (w.alloc (.cells #[] 9))) := (Below.refl _ _).alloc (Nat.le_refl _) _
  go_enter Tryz.func15, Tryz.ntmps15
  go_wp2_with fail
  refine (HUD.out _ HB0.out).mono ?_
  rintro _ w1 ⟨⟨v1, hv1, rfl⟩, hb1⟩
  have HB1 := hidM (HB0.out.trans (hb1.mono HB0.out.size))
  have HV1 := hidM (HV0.out.below hb1)
  obtain ⟨a, cp, rfl, hst⟩ := hv1.strs
  have HST : Hid (∀ W, Below w1.heap.size w1 W → ∀ j (h : j < U.length), ∃ g, a = some ⟨g, 0, none⟩ ∧ W.cell? ⟨g, j, none⟩ = some (.string U[j])) := fun W hW j h => by
    obtain ⟨g, h1, h2, h3⟩ := hst (fun hh => by rw [hh] at h; simp at h)
    exact ⟨g, h1, (h3.below hW h2) j h⟩
  clear hb1 hv1 hst HUD HV0 HB0 HUL
  go_wp2_with fail
  go_loopw [7, 16] (fun v i wr => ∃ (k : Nat) (l : List ByteArray), k ≤ U.length ∧ i = .int .i64 k ∧ StrsV wr v l ∧ l.length ≤ k ∧ RiseB l ∧ (∀ z, z ∈ l ↔ ∃ t, ∃ h : t < U.length, t < k ∧ U[t] = z ∧ nameL z.data.toList = true ∧ Lib.hasPrefix z.data.toList front.data.toList = true) ∧ Below w1.heap.size w1 wr) (fun _ i _ => U.length - (intOf i).toNat)
  case atStart => exact ⟨0, [], Nat.zero_le _, rfl, HV1.out, Nat.le_refl _, List.Pairwise.nil, fun z => ⟨fun h => absurd h List.not_mem_nil, fun ⟨t, _, h, _⟩ => by omega⟩, Below.refl _ _⟩
  case round =>
    obtain ⟨k, l, hk, rfl, hv, hll, hri, hme, hbr⟩ := hrel
    have HV := hidM hv
    have HRI := hidM hri
    have HME := hidM hme
    have HB := hidM hbr
    clear hv hri hme hbr HV1
    by_cases hlt : k < U.length
    · have kk : (k : Int) < (U.length : Int) := by omega
      obtain ⟨g, rfl, y0⟩ := HST.out wr HB.out k hlt
      have HNM := hidM (rname_any U[k] wr)
      have HPX := hidM (fun W => begins_any U[k] front W)
      have HPU := hidM (fun W v (h : StrsV W v l) => rput_any v l U[k] W h (by omega))
      have HPR := hidM (put_rise l U[k] HRI.out)
      have HPL := hidM (putL_len l U[k])
      have HNO : Hid (¬ (nameL U[k].data.toList = true ∧ Lib.hasPrefix U[k].data.toList front.data.toList = true) → ∀ z, z ∈ l ↔ ∃ t, ∃ h : t < U.length, t < k + 1 ∧ U[t] = z ∧ nameL z.data.toList = true ∧ Lib.hasPrefix z.data.toList front.data.toList = true) := fun hn z => by
        rw [HME.out]
        constructor
        · rintro ⟨t, h, h1, h2⟩; exact ⟨t, h, by omega, h2⟩
        · rintro ⟨t, h, h1, rfl, h3, h4⟩
          by_cases h5 : t = k
          · subst h5; exact absurd ⟨h3, h4⟩ hn
          · exact ⟨t, h, by omega, rfl, h3, h4⟩
      have HYE : Hid (nameL U[k].data.toList = true → Lib.hasPrefix U[k].data.toList front.data.toList = true → ∀ z, z ∈ putL l U[k] ↔ ∃ t, ∃ h : t < U.length, t < k + 1 ∧ U[t] = z ∧ nameL z.data.toList = true ∧ Lib.hasPrefix z.data.toList front.data.toList = true) := fun hn1 hn2 z => by
        rw [HPR.out.2, HME.out]
        constructor
        · rintro (rfl | ⟨t, h, h1, h2⟩)
          · exact ⟨k, hlt, by omega, rfl, hn1, hn2⟩
          · exact ⟨t, h, by omega, h2⟩
        · rintro ⟨t, h, h1, rfl, h3, h4⟩
          by_cases h5 : t = k
          · subst h5; exact .inl rfl
          · exact .inr ⟨t, h, by omega, rfl, h3, h4⟩
      cases ha : nameL U[k].data.toList with
      | false =>
        rw [ha] at HNM
        have HN2 := hidM (HNO.out (by rw [ha]; rintro ⟨h, _⟩; cases h))
        clear HNO HYE HPR HPL HPU ha
        generalize U[k] = X at *
        go_wp2_with fail
        refine HNM.out.mono ?_
        rintro _ w2 ⟨rfl, hb2⟩
        have HB2 := hidM (HB.out.trans (hb2.mono HB.out.size))
        have HV2 := hidM (HV.out.below hb2)
        clear hb2
        go_wp2_with fail
        go_roundw
        case rel => exact ⟨k + 1, l, by omega, by go_num, HV2.out, by omega, HRI.out, HN2.out, HB2.out⟩
        case measure => (show U.length - ((k : Int) + 1).toNat < U.length - ((k : Int)).toNat); omega
      | true =>
      rw [ha] at HNM
      cases hp : Lib.hasPrefix U[k].data.toList front.data.toList with
      | false =>
        rw [hp] at HPX
        have HN2 := hidM (HNO.out (by rw [hp]; rintro ⟨_, h⟩; cases h))
        clear HNO HYE HPR HPL HPU ha hp
        generalize U[k] = X at *
        go_wp2_with fail
        refine HNM.out.mono ?_
        rintro _ w2 ⟨rfl, hb2⟩
        have HB2 := hidM (HB.out.trans (hb2.mono HB.out.size))
        have HV2 := hidM (HV.out.below hb2)
        clear hb2
        go_wp2_with fail
        refine (HPX.out _).mono ?_
        rintro _ w3 ⟨rfl, rfl⟩
        go_wp2_with fail
        go_roundw
        case rel => exact ⟨k + 1, l, by omega, by go_num, HV2.out, by omega, HRI.out, HN2.out, HB2.out⟩
        case measure => (show U.length - ((k : Int) + 1).toNat < U.length - ((k : Int)).toNat); omega
      | true =>
        rw [hp] at HPX
        have HN2 := hidM (HYE.out ha hp)
        have HR2 := hidM HPR.out.1
        have hl2 : (putL l U[k]).length ≤ k + 1 := by have := HPL.out; omega
        clear HNO HYE HPR HPL ha hp
        generalize putL l U[k] = l2 at *
        generalize U[k] = X at *
        go_wp2_with fail
        refine HNM.out.mono ?_
        rintro _ w2 ⟨rfl, hb2⟩
        have HB2 := hidM (HB.out.trans (hb2.mono HB.out.size))
        have HV2 := hidM (HV.out.below hb2)
        clear hb2
        go_wp2_with fail
        refine (HPX.out _).mono ?_
        rintro _ w3 ⟨rfl, rfl⟩
        go_wp2_with fail
        refine (HPU.out _ _ HV2.out).mono ?_
        rintro _ w4 ⟨⟨v4, hv4, rfl⟩, hb4⟩
        have HV4 := hidM hv4.strs
        have HB4 := hidM (HB2.out.trans (hb4.mono HB2.out.size))
        clear hv4 hb4
        go_wp2_with fail
        go_roundw
        case rel => exact ⟨k + 1, l2, by omega, by go_num, HV4.out, hl2, HR2.out, HN2.out, HB4.out⟩
        case measure => (show U.length - ((k : Int) + 1).toNat < U.length - ((k : Int)).toNat); omega
    · obtain rfl : k = U.length := by omega
      have HGB := hidM (HB1.out.trans (HB.out.mono HB1.out.size))
      have HRV1 := hidM (HRV.out.below HGB.out hgr)
      have HMF1 : Hid (∀ z, z ∈ l ↔ ((∃ f ∈ us, f.1 = z ∧ Lib.hasPrefix z.data.toList folderL = true ∧ nameL z.data.toList = true) ∧ Lib.hasPrefix z.data.toList front.data.toList = true)) := fun z => by
        rw [HME.out]
        constructor
        · rintro ⟨t, h, _, rfl, h3, h4⟩
          obtain ⟨f, hf, he, hp⟩ := (HMF.out U[t]).1 ((HRR.out.2 U[t]).1 (List.getElem_mem h))
          exact ⟨⟨f, hf, he, hp, h3⟩, h4⟩
        · rintro ⟨⟨f, hf, he, hp, h3⟩, h4⟩
          obtain ⟨t, h, ht⟩ := List.mem_iff_getElem.1 ((HRR.out.2 z).2 ((HMF.out z).2 ⟨f, hf, he, hp⟩))
          exact ⟨t, h, h, ht, h3, h4⟩
      have hll2 : l.length ≤ 1000 := by omega
      obtain ⟨wL, hwL⟩ : ∃ wL, wL = wr := ⟨_, rfl⟩
      have hgr1 : gr < wr.heap.size := Nat.lt_of_lt_of_le hgr HGB.out.size
      have HIN : Hid (∀ l2 : List ByteArray, (∀ z, z ∈ l2 ↔ z ∈ l ∨ ∃ t, ∃ h : t < rows.length, t < rows.length ∧ mkB rows[t].name = z ∧ Lib.hasPrefix z.data.toList front.data.toList = true) → ∀ z, z ∈ l2 ↔ NameIn us rows front.data.toList z) := fun l2 h z => by
        rw [h, HMF1.out]
        unfold NameIn
        constructor
        · rintro (⟨h1, h2⟩ | ⟨t, ht, _, he, hp⟩)
          · exact ⟨.inl h1, h2⟩
          · exact ⟨.inr ⟨rows[t], List.getElem_mem ht, he⟩, hp⟩
        · rintro ⟨h1 | ⟨r, hr, he⟩, h2⟩
          · exact .inl ⟨h1, h2⟩
          · obtain ⟨t, ht, rfl⟩ := List.mem_iff_getElem.1 hr
            exact .inr ⟨t, ht, ht, he, h2⟩
      clear HME HST HRR HMF HMF1 hwL hlt hk
      go_wp2_with fail
      go_loopw [7, 33] (fun v i wx => ∃ (k : Nat) (l2 : List ByteArray), k ≤ rows.length ∧ i = .int .i64 k ∧ StrsV wx v l2 ∧ l2.length ≤ 1000 + k ∧ RiseB l2 ∧ (∀ z, z ∈ l2 ↔ z ∈ l ∨ ∃ t, ∃ h : t < rows.length, t < k ∧ mkB rows[t].name = z ∧ Lib.hasPrefix z.data.toList front.data.toList = true) ∧ Below wr.heap.size wr wx) (fun _ i _ => rows.length - (intOf i).toNat)
      case atStart => exact ⟨0, l, Nat.zero_le _, rfl, HV.out, by omega, HRI.out, fun z => ⟨fun h => .inl h, fun h => by
        rcases h with h | ⟨t, _, h, _⟩
        · exact h
        · omega⟩, Below.refl _ _⟩
      case round =>
        obtain ⟨k, l2, hk, rfl, hv, hll3, hri, hme, hbx⟩ := hrel
        have HVX := hidM hv
        have HRI2 := hidM hri
        have HME2 := hidM hme
        have HBX := hidM hbx
        have hszx := hbx.size
        clear hv hri hme hbx HRI HV
        by_cases hlt : k < rows.length
        · have kk : (k : Int) < (rows.length : Int) := by omega
          have hrv2 := HRV1.out.below HBX.out hgr1 k hlt
          have c1 := hrv2.1
          have c2 := hrv2.2.1
          have c3 := hrv2.2.2
          have HPX := hidM (fun W => begins_any (mkB rows[k].name) front W)
          have HPU := hidM (fun W v (h : StrsV W v l2) => rput_any v l2 (mkB rows[k].name) W h (by omega))
          have HPR := hidM (put_rise l2 (mkB rows[k].name) HRI2.out)
          have HPL := hidM (putL_len l2 (mkB rows[k].name))
          have HNO : Hid (Lib.hasPrefix (mkB rows[k].name).data.toList front.data.toList = false → ∀ z, z ∈ l2 ↔ z ∈ l ∨ ∃ t, ∃ h : t < rows.length, t < k + 1 ∧ mkB rows[t].name = z ∧ Lib.hasPrefix z.data.toList front.data.toList = true) := fun hn z => by
            rw [HME2.out]
            constructor
            · rintro (h | ⟨t, h, h1, h2⟩)
              · exact .inl h
              · exact .inr ⟨t, h, by omega, h2⟩
            · rintro (h | ⟨t, h, h1, rfl, h4⟩)
              · exact .inl h
              · by_cases h5 : t = k
                · subst h5; rw [hn] at h4; cases h4
                · exact .inr ⟨t, h, by omega, rfl, h4⟩
          have HYE : Hid (Lib.hasPrefix (mkB rows[k].name).data.toList front.data.toList = true → ∀ z, z ∈ putL l2 (mkB rows[k].name) ↔ z ∈ l ∨ ∃ t, ∃ h : t < rows.length, t < k + 1 ∧ mkB rows[t].name = z ∧ Lib.hasPrefix z.data.toList front.data.toList = true) := fun hn z => by
            rw [HPR.out.2, HME2.out]
            constructor
            · rintro (rfl | h | ⟨t, h, h1, h2⟩)
              · exact .inr ⟨k, hlt, by omega, rfl, hn⟩
              · exact .inl h
              · exact .inr ⟨t, h, by omega, h2⟩
            · rintro (h | ⟨t, h, h1, rfl, h4⟩)
              · exact .inr (.inl h)
              · by_cases h5 : t = k
                · subst h5; exact .inl rfl
                · exact .inr (.inr ⟨t, h, by omega, rfl, h4⟩)
          clear hrv2
          generalize mkB rows[k].name = X1 at *
          generalize mkB rows[k].id = X2 at *
          generalize mkB rows[k].peeled = X3 at *
          cases hp : Lib.hasPrefix X1.data.toList front.data.toList with
          | false =>
            rw [hp] at HPX
            have HN2 := hidM (HNO.out hp)
            clear HNO HYE HPR HPL HPU hp
            go_wp2_with fail
            refine (HPX.out _).mono ?_
            rintro _ w3 ⟨rfl, rfl⟩
            go_wp2_with fail
            go_roundw
            case rel => exact ⟨k + 1, l2, by omega, by go_num, HVX.out.below ((Below.refl _ _).alloc (Nat.le_refl _) _), by omega, HRI2.out, HN2.out, HBX.out.alloc hszx _⟩
            case measure => (show rows.length - ((k : Int) + 1).toNat < rows.length - ((k : Int)).toNat); omega
          | true =>
            rw [hp] at HPX
            have HN2 := hidM (HYE.out hp)
            have HR2 := hidM HPR.out.1
            have hl2 : (putL l2 X1).length ≤ 1000 + (k + 1) := by have := HPL.out; omega
            clear HNO HYE HPR HPL hp
            generalize putL l2 X1 = l3 at *
            have HVY := hidM (HVX.out.below ((Below.refl wr.heap.size wr).alloc (Nat.le_refl _) (.cells #[.string X1, .string X2, .string X3] 68)))
            have HBY := hidM (HBX.out.alloc hszx (.cells #[.string X1, .string X2, .string X3] 68))
            go_wp2_with fail
            refine (HPX.out _).mono ?_
            rintro _ w3 ⟨rfl, rfl⟩
            go_wp2_with fail
            refine (HPU.out _ _ HVY.out).mono ?_
            rintro _ w4 ⟨⟨v4, hv4, rfl⟩, hb4⟩
            have HV4 := hidM hv4.strs
            have HB4 := hidM (HBY.out.trans (hb4.mono HBY.out.size))
            clear hv4 hb4
            go_wp2_with fail
            go_roundw
            case rel => exact ⟨k + 1, l3, by omega, by go_num, HV4.out, hl2, HR2.out, HN2.out, HB4.out⟩
            case measure => (show rows.length - ((k : Int) + 1).toNat < rows.length - ((k : Int)).toNat); omega
        · obtain rfl : k = rows.length := by omega
          have HBB := hidM (HGB.out.trans (HBX.out.mono HGB.out.size))
          go_wp2_with fail
          go_ret
          exact ⟨⟨_, l2, rfl, HVX.out, by omega, HRI2.out, HIN.out l2 HME2.out⟩, HBB.out⟩
end Go.Proofs.YtjoomlpocpdonaaGreatDoor
namespace Go.Proofs.YtjoomlpocpdonaaGreatDoor
open Go.RowKit

theorem pre_snoc (e : List UInt8) : Lib.hasPrefix (e ++ [10]) leadL = Lib.hasPrefix e leadL := by
  unfold Lib.hasPrefix leadL
  match e with
  | [] => rfl
  | [a] => simp [List.isPrefixOf]
  | [a, b] => simp [List.isPrefixOf]
  | [a, b, c] => simp [List.isPrefixOf]
  | [a, b, c, d] => simp [List.isPrefixOf]
  | a :: b :: c :: d :: f :: l => simp [List.isPrefixOf]
theorem read_id {d : List UInt8} (h1 : d.length = 41) (h2 : d[40]? = some 10) (h3 : idB (d.take 40) = true) : readL d = (0, d.take 40, []) := by
  have hd : d = d.take 40 ++ [10] := by
    have e1 : d.drop 40 = [10] := by
      rw [List.drop_eq_getElem_cons (by omega), List.drop_of_length_le (by omega)]
      rw [List.getElem?_eq_getElem (by omega)] at h2
      rw [Option.some.inj h2]
    rw [← e1, List.take_append_drop]
  have hl : d.dropLast = d.take 40 := by rw [List.dropLast_eq_take]; congr 1; omega
  have hsf : Lib.hasSuffix d [10] = true := by rw [hd]; exact suffix_app _ _
  unfold readL
  rw [hsf, if_neg (by decide), hl, if_pos h3]
theorem read_other {d : List UInt8} (h : ¬ (d.length = 41 ∧ d[40]? = some 10 ∧ idB (d.take 40) = true)) :
    readL d = if Lib.hasPrefix d leadL = true ∧ Lib.hasSuffix d [10] = true ∧ nameL (d.dropLast.drop 5) = true then (0, [], d.dropLast.drop 5) else (3, [], []) := by
  unfold readL
  cases hs : Lib.hasSuffix d [10] with
  | false => rw [if_pos rfl, if_neg (by simp)]
  | true =>
    rw [if_neg (by decide)]
    have hd := suffix_split hs
    have hp : Lib.hasPrefix d leadL = Lib.hasPrefix d.dropLast leadL := by rw [← pre_snoc d.dropLast, ← hd]
    have hi : idB d.dropLast = false := by
      cases hq : idB d.dropLast with
      | false => rfl
      | true =>
        exfalso
        have hl := idB_size hq
        rw [List.length_dropLast] at hl
        have hl2 : d.length = 41 := by omega
        refine h ⟨hl2, ?_, ?_⟩
        · rw [hd, List.getElem?_append_right (by rw [List.length_dropLast]; omega), List.length_dropLast, hl2]; rfl
        · rw [show d.take 40 = d.dropLast by rw [List.dropLast_eq_take]; congr 1; omega]; exact hq
    rw [hi, if_neg (by decide), hp]
    by_cases hn : Lib.hasPrefix d.dropLast leadL = true ∧ nameL (d.dropLast.drop 5) = true
    · rw [if_pos hn, if_pos ⟨hn.1, rfl, hn.2⟩]
    · rw [if_neg hn, if_neg (fun x => hn ⟨x.1, x.2.2⟩)]
theorem lead_long {d : List UInt8} (h1 : Lib.hasPrefix d leadL = true) (h2 : Lib.hasSuffix d [10] = true) : 6 ≤ d.length := by
  have hd := suffix_split h2
  rw [hd, pre_snoc] at h1
  have := (List.isPrefixOf_iff_prefix.1 h1).length_le
  rw [hd, List.length_append]
  simp [leadL] at this ⊢
  omega
theorem ext_mid (s : ByteArray) : s.extract 5 (s.size - 1) = mkB (s.data.toList.dropLast.drop 5) := by
  rw [ext_of, List.dropLast_eq_take, List.drop_take, sl_len]
set_option maxRecDepth 100000 in
set_option maxHeartbeats 40000000 in
theorem rlookup_any (b off c gr cr : Nat) (us : List FileB) (rows : List RowR) (n : ByteArray) (w : World) (hb : b < w.heap.size) (hf : FilesAt w b off us) (hl : us.length ≤ 1000) (ha : Apart us) (hgr : gr < w.heap.size) (hrv : RowsV w gr rows) (hrl : rows.length ≤ 2000) (hs : ∀ f ∈ us, f.2.size ≤ 4194304) :
    Calls Tryz.prog 17 #[.slice (some ⟨b, off, none⟩) us.length c, .slice (some ⟨gr, 0, none⟩) rows.length cr, .string n] w fun e w' => e = pairR (lookL (getL us) rows n.data.toList) ∧ Below w.heap.size w w' := by
  have HFA := hidM hf
  have HAP := hidM ha
  have HRV := hidM hrv
  have HS := hidM hs
  have HN := hidM (rname_any n w)
  clear hf ha hrv hs
  unfold lookL
  cases hn : nameL n.data.toList with
  | false =>
    rw [hn] at HN
    show Calls Tryz.prog 17 #[.slice (some ⟨b, off, none⟩) us.length c, .slice (some ⟨gr, 0, none⟩) rows.length cr, .string n] w fun e w' => e = pairR (4, []) ∧ Below w.heap.size w w'
    go_enter Tryz.func17, Tryz.ntmps17
    go_wp2_with fail
    refine HN.out.mono ?_
    rintro _ w1 ⟨rfl, hb1⟩
    go_wp2_with fail
    go_ret2
    exact ⟨rfl, hb1⟩
  | true =>
  rw [hn] at HN
  show Calls Tryz.prog 17 #[.slice (some ⟨b, off, none⟩) us.length c, .slice (some ⟨gr, 0, none⟩) rows.length cr, .string n] w fun e w' => e = pairR (goL (getL us) rows 6 n.data.toList) ∧ Below w.heap.size w w'
  obtain ⟨ANS, hans⟩ : ∃ ANS, goL (getL us) rows 6 n.data.toList = ANS := ⟨_, rfl⟩
  rw [hans]
  have HA := hidM hans
  have HNM := hidM hn
  clear hans hn
  go_enter Tryz.func17, Tryz.ntmps17
  go_wp2_with fail
  refine HN.out.mono ?_
  rintro _ w1 ⟨rfl, hb1⟩
  have HB1 := hidM hb1
  clear HN hb1
  go_wp2_with fail
  go_loopw [2, 8] (fun nv i wr => ∃ (h : Nat) (S : ByteArray), h ≤ 5 ∧ i = .int .i64 h ∧ nv = .string S ∧ (nameL S.data.toList = true ∧ goL (getL us) rows (6 - h) S.data.toList = ANS) ∧ Below w.heap.size w wr) (fun _ i _ => 6 - (intOf i).toNat)
  case atStart => exact ⟨0, n, Nat.zero_le _, rfl, rfl, ⟨HNM.out, HA.out⟩, HB1.out⟩
  case round =>
    obtain ⟨hp, S, hk, rfl, rfl, ⟨hs1, hs2⟩, hbr⟩ := hrel
    have HB := hidM hbr
    have HGT := hidM (rget_any b off c us S wr (Nat.lt_of_lt_of_le hb hbr.size) (HFA.out.below hbr hb) (by omega))
    have HRV1 := hidM (HRV.out.below hbr hgr)
    have hgr1 : gr < wr.heap.size := Nat.lt_of_lt_of_le hgr hbr.size
    obtain ⟨j, hj⟩ : ∃ j, 6 - hp = j + 1 := ⟨5 - hp, by omega⟩
    rw [hj] at hs2
    have hj5 : hp = 5 ↔ j = 0 := by omega
    have hj2 : hp ≠ 5 → 6 - (hp + 1) = j := by omega
    have HS2 := hidM hs2
    clear hs1 hs2 hbr HA HNM HB1 hj
    go_wp2_with fail
    refine HGT.out.mono ?_
    rintro _ w2 ⟨hpo, hb2⟩
    have HB2 := hidM (HB.out.trans (hb2.mono HB.out.size))
    have HRV2 := hidM (HRV1.out.below hb2 hgr1)
    have hgr2 : gr < w2.heap.size := Nat.lt_of_lt_of_le hgr1 hb2.size
    clear hb2 HGT HB HRV1 hgr1
    rcases rget_cases HAP.out hpo with ⟨f, hf, hget, rfl⟩ | ⟨hget, rfl⟩
    case inr =>
      have HF : Hid (ANS = match rows.find? (fun r => r.name == S.data.toList) with
        | some r => (0, r.id)
        | none => (7, [])) := by unfold Hid; rw [← HS2.out, goL_none hget]; rfl
      have HEQ : Hid (∀ k (h : k < rows.length), ((mkB rows[k].name).toList == S.toList) = (rows[k].name == S.data.toList)) := fun k h => by rw [mkB_toList, ByteArray.toList_eq]
      clear hpo hget HS2 hj5 hj2
      go_wp2_with fail
      go_loopw [28] (fun i wx => ∃ (k : Nat), k ≤ rows.length ∧ i = .int .i64 k ∧ (∀ t (h : t < rows.length), t < k → (rows[t].name == S.data.toList) = false) ∧ Below w2.heap.size w2 wx) (fun i _ => rows.length - (intOf i).toNat)
      case atStart => exact ⟨0, Nat.zero_le _, rfl, fun t _ h => by omega, Below.refl _ _⟩
      case round =>
        obtain ⟨k, hk2, rfl, hd, hbx⟩ := hrel
        have HD := hidM hd
        have HBX := hidM hbx
        have hszx := hbx.size
        clear hbx hd
        by_cases hlt : k < rows.length
        · have kk : (k : Int) < (rows.length : Int) := by omega
          have hrv2 := HRV2.out.below HBX.out hgr2 k hlt
          have c1 := hrv2.1
          have c2 := hrv2.2.1
          have c3 := hrv2.2.2
          have heq := HEQ.out k hlt
          have HHIT : Hid ((rows[k].name == S.data.toList) = true → pairR ANS = .returned (.tuple #[.string (mkB rows[k].id), .int .i64 0])) := fun h => by rw [HF.out, find_at hlt HD.out h]; rfl
          have HMISS : Hid ((rows[k].name == S.data.toList) = false → ∀ t (h : t < rows.length), t < k + 1 → (rows[t].name == S.data.toList) = false) := fun h0 t h ht => by
            by_cases h5 : t < k
            · exact HD.out t h h5
            · obtain rfl : t = k := by omega
              exact h0
          have HBN := hidM (HB2.out.trans (HBX.out.mono HB2.out.size))
          clear hrv2
          generalize (rows[k].name == S.data.toList) = qq at *
          generalize mkB rows[k].name = X1 at *
          generalize mkB rows[k].id = X2 at *
          generalize mkB rows[k].peeled = X3 at *
          cases qq with
          | true =>
            have HH := hidM (HHIT.out rfl)
            clear HHIT HMISS
            go_wp2_with fail
            go_ret2
            refine ⟨by rw [HH.out]; rfl, HBN.out.alloc HBN.out.size _⟩
          | false =>
            have HM := hidM (HMISS.out rfl)
            clear HHIT HMISS
            go_wp2_with fail
            go_roundw
            case rel => exact ⟨k + 1, by omega, by go_num, HM.out, HBX.out.alloc hszx _⟩
            case measure => (show rows.length - ((k : Int) + 1).toNat < rows.length - ((k : Int)).toNat); omega
        · obtain rfl : k = rows.length := by omega
          have HBN := hidM (HB2.out.trans (HBX.out.mono HB2.out.size))
          have HE : Hid (ANS = (7, [])) := by unfold Hid; rw [HF.out, find_not (fun t h => HD.out t h h)]
          go_wp2_with fail
          go_ret2
          exact ⟨by rw [HE.out]; rfl, HBN.out⟩
    have hdz := HS.out f hf
    have HGS : Hid ((if (readL f.2.data.toList).1 = 0 ∧ (readL f.2.data.toList).2.2 ≠ [] then goL (getL us) rows j (readL f.2.data.toList).2.2 else ((readL f.2.data.toList).1, (readL f.2.data.toList).2.1)) = ANS) := by
      unfold Hid
      rw [← goL_some hget]; exact HS2.out
    have HRI := hidM (fun h1 h2 h3 => read_id (d := f.2.data.toList) h1 h2 h3)
    have HRO := hidM (fun h => read_other (d := f.2.data.toList) h)
    clear hpo hf hget HS2
    generalize f.2 = D at *
    have HIDX := hidM (fun W => rid_any (D.extract 0 40) W)
    have hx40 : D.extract 0 40 = mkB (D.data.toList.take 40) := by rw [ext_of, List.drop_zero]
    rw [hx40, mkB_list] at HIDX
    have HB5 := hidM (fun W => begins_any D ⟨#[114, 101, 102, 58, 32]⟩ W)
    rw [show (⟨#[114, 101, 102, 58, 32]⟩ : ByteArray).data.toList = leadL from rfl] at HB5
    have HE5 := hidM (fun W => ends_any D ⟨#[10]⟩ W (by omega))
    rw [show (⟨#[10]⟩ : ByteArray).data.toList = [10] from rfl] at HE5
    have HNX := hidM (fun W => rname_any (mkB (D.data.toList.dropLast.drop 5)) W)
    rw [mkB_list] at HNX
    have hmid := ext_mid D
    have hll := fun h1 h2 => lead_long (d := D.data.toList) h1 h2
    have hsl : D.data.toList.length = D.size := sl_len D
    -- which of the three ways past the first test
    have hway : (D.size = 41 ∧ D.data.toList[40]? = some 10 ∧ idB (D.data.toList.take 40) = true) ∨ ¬ D.size = 41 ∨ (D.size = 41 ∧ ∃ h : 40 < D.size, D[40].toNat ≠ 10) ∨ (D.size = 41 ∧ (∃ h : 40 < D.size, D[40].toNat = 10) ∧ idB (D.data.toList.take 40) = false) := by
      by_cases h1 : D.size = 41
      · have h40 : 40 < D.size := by omega
        have hg : D.data.toList[40]? = some D[40] := by rw [List.getElem?_eq_getElem (by omega)]; rfl
        by_cases h2 : D[40].toNat = 10
        · cases h3 : idB (D.data.toList.take 40) with
          | true => exact .inl ⟨h1, by rw [hg]; exact congrArg some (UInt8.toNat_inj.1 h2), rfl⟩
          | false => exact .inr (.inr (.inr ⟨h1, ⟨h40, h2⟩, rfl⟩))
        · exact .inr (.inr (.inl ⟨h1, h40, h2⟩))
      · exact .inr (.inl h1)
    rcases hway with ⟨h1, h2, h3⟩ | hoth
    · have h40 : 40 < D.size := by omega
      have hby : (D[40].toNat : Int) = 10 := by
        have hg : D.data.toList[40]? = some D[40] := by rw [List.getElem?_eq_getElem (by omega)]; rfl
        rw [hg] at h2
        rw [Option.some.inj h2]; rfl
      have i1 : (D.size : Int) = 41 := by omega
      have i2 : (40 : Int) < (D.size : Int) := by omega
      have i3 : (40 : Int) ≤ (D.size : Int) := by omega
      have HF : Hid (pairR ANS = .returned (.tuple #[.string (mkB (D.data.toList.take 40)), .int .i64 0])) := by
        unfold Hid
        rw [← HGS.out, HRI.out (by omega) h2 h3, if_neg (by simp)]; rfl
      rw [h3] at HIDX
      clear HGS HRI HRO h2 h3 hmid hll hsl h1 HB5 HE5 HNX hdz
      generalize mkB (D.data.toList.take 40) = IB at *
      go_wp2_with fail
      refine (HIDX.out _).mono ?_
      rintro _ w3 ⟨rfl, rfl⟩
      go_wp2_with fail
      go_ret2
      exact ⟨by rw [HF.out]; rfl, HB2.out⟩
    have hnot : ¬ (D.data.toList.length = 41 ∧ D.data.toList[40]? = some 10 ∧ idB (D.data.toList.take 40) = true) := by
      rintro ⟨x1, x2, x3⟩
      rcases hoth with h | ⟨_, h40, h⟩ | ⟨_,_, h⟩
      · omega
      · have hg : D.data.toList[40]? = some D[40] := by rw [List.getElem?_eq_getElem (by omega)]; rfl
        rw [hg] at x2
        exact h (by rw [Option.some.inj x2]; rfl)
      · rw [x3] at h; cases h
    have HR2 := hidM (HRO.out hnot)
    have HERR : Hid (¬ (Lib.hasPrefix D.data.toList leadL = true ∧ Lib.hasSuffix D.data.toList [10] = true ∧ nameL (D.data.toList.dropLast.drop 5) = true) → ANS = (3, [])) := fun h => by
      rw [← HGS.out, HR2.out, if_neg h]; rfl
    have HNEXT : Hid (Lib.hasPrefix D.data.toList leadL = true → Lib.hasSuffix D.data.toList [10] = true → nameL (D.data.toList.dropLast.drop 5) = true → goL (getL us) rows j (D.data.toList.dropLast.drop 5) = ANS) := fun h1 h2 h3 => by
      have e := HR2.out
      rw [if_pos ⟨h1, h2, h3⟩] at e
      rw [← HGS.out, e, if_pos ⟨rfl, name_ne h3⟩]
    have HLL := hidM hll
    have HMID := hidM hmid
    clear HGS HRI HRO HR2 hnot hll hmid hsl
    rcases hoth with hoth | ⟨h1, h40, h2⟩ | ⟨h1, ⟨h40, h2⟩, h3⟩
    · have i1 : ¬ (D.size : Int) = 41 := by omega
      clear hx40 HIDX
      obtain ⟨Q1, hq1⟩ : ∃ Q1, Lib.hasPrefix D.data.toList leadL = Q1 := ⟨_, rfl⟩
      rw [hq1] at HB5
      have HQ1 := hidM hq1
      clear hq1
      go_wp2_with fail
      refine (HB5.out _).mono ?_
      rintro _ w3 ⟨rfl, rfl⟩
      clear HB5
      cases Q1 with
      | false =>
        have HF := hidM (HERR.out (by rw [HQ1.out]; rintro ⟨h, _⟩; cases h))
        clear HERR HNEXT HNX HE5 HQ1 HLL HMID
        go_wp2_with fail
        go_ret2
        exact ⟨by rw [HF.out]; rfl, HB2.out⟩
      | true =>
      obtain ⟨Q2, hq2⟩ : ∃ Q2, Lib.hasSuffix D.data.toList [10] = Q2 := ⟨_, rfl⟩
      rw [hq2] at HE5
      have HQ2 := hidM hq2
      clear hq2
      go_wp2_with fail
      refine (HE5.out _).mono ?_
      rintro _ w3 ⟨rfl, rfl⟩
      clear HE5
      cases Q2 with
      | false =>
        have HF := hidM (HERR.out (by rw [HQ2.out]; rintro ⟨_, h, _⟩; cases h))
        clear HERR HNEXT HNX HQ1 HQ2 HLL HMID
        go_wp2_with fail
        go_ret2
        exact ⟨by rw [HF.out]; rfl, HB2.out⟩
      | true =>
      have hl6 := HLL.out HQ1.out HQ2.out
      obtain ⟨z, hz⟩ : ∃ z, z = D.size - 1 := ⟨_, rfl⟩
      have hmid := HMID.out
      rw [← hz] at hmid
      have z1 : (D.size : Int) - 1 = (z : Int) := by rw [sl_len] at hl6; omega
      have z2 : (5 : Int) ≤ (z : Int) := by rw [sl_len] at hl6; omega
      have z3 : (z : Int) ≤ (D.size : Int) := by omega
      obtain ⟨Q3, hq3⟩ : ∃ Q3, nameL (D.data.toList.dropLast.drop 5) = Q3 := ⟨_, rfl⟩
      rw [hq3] at HNX
      have HQ3 := hidM hq3
      have HNB := hidM (mkB_list (D.data.toList.dropLast.drop 5))
      clear hq3 hz hl6 HLL HMID
      generalize mkB (D.data.toList.dropLast.drop 5) = NB at *
      go_wp2_with fail
      refine (HNX.out _).mono ?_
      rintro _ w4 ⟨rfl, hb4⟩
      have HB4 := hidM (HB2.out.trans (hb4.mono HB2.out.size))
      clear hb4 HNX HB2
      cases Q3 with
      | false =>
        have HF := hidM (HERR.out (by rw [HQ3.out]; rintro ⟨_,_, h⟩; cases h))
        clear HERR HNEXT HQ1 HQ2 HQ3 HNB
        go_wp2_with fail
        go_ret2
        exact ⟨by rw [HF.out]; rfl, HB4.out⟩
      | true =>
      have HNE2 := hidM (HNEXT.out HQ1.out HQ2.out HQ3.out)
      clear HNEXT HERR HQ1 HQ2
      by_cases h5 : hp = 5
      · have HF : Hid (ANS = (9, [])) := by unfold Hid; rw [← HNE2.out, hj5.1 h5]; rfl
        subst h5
        clear HNE2 hj5 hj2 HQ3 HNB
        go_wp2_with fail
        go_ret2
        exact ⟨by rw [HF.out]; rfl, HB4.out⟩
      · have HG2 : Hid (nameL NB.data.toList = true ∧ goL (getL us) rows (6 - (hp + 1)) NB.data.toList = ANS) := by
          unfold Hid; rw [HNB.out, hj2 h5]; exact ⟨HQ3.out, HNE2.out⟩
        have g5 : ¬ (hp : Int) = 5 := by omega
        clear HNE2 hj5 hj2 HQ3 HNB
        go_wp2_with fail
        go_roundw
        case rel => exact ⟨hp + 1, NB, by omega, by go_num, rfl, HG2.out, HB4.out⟩
        case measure => (show 6 - ((hp : Int) + 1).toNat < 6 - ((hp : Int)).toNat); omega
    · have i1 : (D.size : Int) = 41 := by omega
      have i2 : (40 : Int) < (D.size : Int) := by omega
      obtain ⟨cc, hcc⟩ : ∃ cc, D[40] = cc := ⟨_, rfl⟩
      have hby : ¬ (cc.toNat : Int) = 10 := by rw [← hcc]; omega
      clear hx40 HIDX h1 h2
      obtain ⟨Q1, hq1⟩ : ∃ Q1, Lib.hasPrefix D.data.toList leadL = Q1 := ⟨_, rfl⟩
      rw [hq1] at HB5
      have HQ1 := hidM hq1
      clear hq1
      go_wp2_with fail
      refine (HB5.out _).mono ?_
      rintro _ w3 ⟨rfl, rfl⟩
      clear HB5 i1 i2 hby hcc h40
      cases Q1 with
      | false =>
        have HF := hidM (HERR.out (by rw [HQ1.out]; rintro ⟨h, _⟩; cases h))
        clear HERR HNEXT HNX HE5 HQ1 HLL HMID
        go_wp2_with fail
        go_ret2
        exact ⟨by rw [HF.out]; rfl, HB2.out⟩
      | true =>
      obtain ⟨Q2, hq2⟩ : ∃ Q2, Lib.hasSuffix D.data.toList [10] = Q2 := ⟨_, rfl⟩
      rw [hq2] at HE5
      have HQ2 := hidM hq2
      clear hq2
      go_wp2_with fail
      refine (HE5.out _).mono ?_
      rintro _ w3 ⟨rfl, rfl⟩
      clear HE5
      cases Q2 with
      | false =>
        have HF := hidM (HERR.out (by rw [HQ2.out]; rintro ⟨_, h, _⟩; cases h))
        clear HERR HNEXT HNX HQ1 HQ2 HLL HMID
        go_wp2_with fail
        go_ret2
        exact ⟨by rw [HF.out]; rfl, HB2.out⟩
      | true =>
      have hl6 := HLL.out HQ1.out HQ2.out
      obtain ⟨z, hz⟩ : ∃ z, z = D.size - 1 := ⟨_, rfl⟩
      have hmid := HMID.out
      rw [← hz] at hmid
      have z1 : (D.size : Int) - 1 = (z : Int) := by rw [sl_len] at hl6; omega
      have z2 : (5 : Int) ≤ (z : Int) := by rw [sl_len] at hl6; omega
      have z3 : (z : Int) ≤ (D.size : Int) := by omega
      obtain ⟨Q3, hq3⟩ : ∃ Q3, nameL (D.data.toList.dropLast.drop 5) = Q3 := ⟨_, rfl⟩
      rw [hq3] at HNX
      have HQ3 := hidM hq3
      have HNB := hidM (mkB_list (D.data.toList.dropLast.drop 5))
      clear hq3 hz hl6 HLL HMID
      generalize mkB (D.data.toList.dropLast.drop 5) = NB at *
      go_wp2_with fail
      refine (HNX.out _).mono ?_
      rintro _ w4 ⟨rfl, hb4⟩
      have HB4 := hidM (HB2.out.trans (hb4.mono HB2.out.size))
      clear hb4 HNX HB2
      cases Q3 with
      | false =>
        have HF := hidM (HERR.out (by rw [HQ3.out]; rintro ⟨_,_, h⟩; cases h))
        clear HERR HNEXT HQ1 HQ2 HQ3 HNB
        go_wp2_with fail
        go_ret2
        exact ⟨by rw [HF.out]; rfl, HB4.out⟩
      | true =>
      have HNE2 := hidM (HNEXT.out HQ1.out HQ2.out HQ3.out)
      clear HNEXT HERR HQ1 HQ2
      by_cases h5 : hp = 5
      · have HF : Hid (ANS = (9, [])) := by unfold Hid; rw [← HNE2.out, hj5.1 h5]; rfl
        subst h5
        clear HNE2 hj5 hj2 HQ3 HNB
        go_wp2_with fail
        go_ret2
        exact ⟨by rw [HF.out]; rfl, HB4.out⟩
      · have HG2 : Hid (nameL NB.data.toList = true ∧ goL (getL us) rows (6 - (hp + 1)) NB.data.toList = ANS) := by
          unfold Hid; rw [HNB.out, hj2 h5]; exact ⟨HQ3.out, HNE2.out⟩
        have g5 : ¬ (hp : Int) = 5 := by omega
        clear HNE2 hj5 hj2 HQ3 HNB
        go_wp2_with fail
        go_roundw
        case rel => exact ⟨hp + 1, NB, by omega, by go_num, rfl, HG2.out, HB4.out⟩
        case measure => (show 6 - ((hp : Int) + 1).toNat < 6 - ((hp : Int)).toNat); omega
    · have i1 : (D.size : Int) = 41 := by omega
      have i2 : (40 : Int) < (D.size : Int) := by omega
      have i3 : (40 : Int) ≤ (D.size : Int) := by omega
      obtain ⟨cc, hcc⟩ : ∃ cc, D[40] = cc := ⟨_, rfl⟩
      have hby : (cc.toNat : Int) = 10 := by rw [← hcc]; omega
      rw [h3] at HIDX
      clear h1 h2 h3
      generalize mkB (D.data.toList.take 40) = IB at *
      obtain ⟨Q1, hq1⟩ : ∃ Q1, Lib.hasPrefix D.data.toList leadL = Q1 := ⟨_, rfl⟩
      rw [hq1] at HB5
      have HQ1 := hidM hq1
      clear hq1
      go_wp2_with fail
      refine (HIDX.out _).mono ?_
      rintro _ w3 ⟨rfl, rfl⟩
      go_wp2_with fail
      refine (HB5.out _).mono ?_
      rintro _ w3 ⟨rfl, rfl⟩
      clear HB5 i1 i2 i3 hby hcc h40
      cases Q1 with
      | false =>
        have HF := hidM (HERR.out (by rw [HQ1.out]; rintro ⟨h, _⟩; cases h))
        clear HERR HNEXT HNX HE5 HQ1 HLL HMID
        go_wp2_with fail
        go_ret2
        exact ⟨by rw [HF.out]; rfl, HB2.out⟩
      | true =>
      obtain ⟨Q2, hq2⟩ : ∃ Q2, Lib.hasSuffix D.data.toList [10] = Q2 := ⟨_, rfl⟩
      rw [hq2] at HE5
      have HQ2 := hidM hq2
      clear hq2
      go_wp2_with fail
      refine (HE5.out _).mono ?_
      rintro _ w3 ⟨rfl, rfl⟩
      clear HE5
      cases Q2 with
      | false =>
        have HF := hidM (HERR.out (by rw [HQ2.out]; rintro ⟨_, h, _⟩; cases h))
        clear HERR HNEXT HNX HQ1 HQ2 HLL HMID
        go_wp2_with fail
        go_ret2
        exact ⟨by rw [HF.out]; rfl, HB2.out⟩
      | true =>
      have hl6 := HLL.out HQ1.out HQ2.out
      obtain ⟨z, hz⟩ : ∃ z, z = D.size - 1 := ⟨_, rfl⟩
      have hmid := HMID.out
      rw [← hz] at hmid
      have z1 : (D.size : Int) - 1 = (z : Int) := by rw [sl_len] at hl6; omega
      have z2 : (5 : Int) ≤ (z : Int) := by rw [sl_len] at hl6; omega
      have z3 : (z : Int) ≤ (D.size : Int) := by omega
      obtain ⟨Q3, hq3⟩ : ∃ Q3, nameL (D.data.toList.dropLast.drop 5) = Q3 := ⟨_, rfl⟩
      rw [hq3] at HNX
      have HQ3 := hidM hq3
      have HNB := hidM (mkB_list (D.data.toList.dropLast.drop 5))
      clear hq3 hz hl6 HLL HMID
      generalize mkB (D.data.toList.dropLast.drop 5) = NB at *
      go_wp2_with fail
      refine (HNX.out _).mono ?_
      rintro _ w4 ⟨rfl, hb4⟩
      have HB4 := hidM (HB2.out.trans (hb4.mono HB2.out.size))
      clear hb4 HNX HB2
      cases Q3 with
      | false =>
        have HF := hidM (HERR.out (by rw [HQ3.out]; rintro ⟨_,_, h⟩; cases h))
        clear HERR HNEXT HQ1 HQ2 HQ3 HNB
        go_wp2_with fail
        go_ret2
        exact ⟨by rw [HF.out]; rfl, HB4.out⟩
      | true =>
      have HNE2 := hidM (HNEXT.out HQ1.out HQ2.out HQ3.out)
      clear HNEXT HERR HQ1 HQ2
      by_cases h5 : hp = 5
      · have HF : Hid (ANS = (9, [])) := by unfold Hid; rw [← HNE2.out, hj5.1 h5]; rfl
        subst h5
        clear HNE2 hj5 hj2 HQ3 HNB
        go_wp2_with fail
        go_ret2
        exact ⟨by rw [HF.out]; rfl, HB4.out⟩
      · have HG2 : Hid (nameL NB.data.toList = true ∧ goL (getL us) rows (6 - (hp + 1)) NB.data.toList = ANS) := by
          unfold Hid; rw [HNB.out, hj2 h5]; exact ⟨HQ3.out, HNE2.out⟩
        have g5 : ¬ (hp : Int) = 5 := by omega
        clear HNE2 hj5 hj2 HQ3 HNB
        go_wp2_with fail
        go_roundw
        case rel => exact ⟨hp + 1, NB, by omega, by go_num, rfl, HG2.out, HB4.out⟩
        case measure => (show 6 - ((hp : Int) + 1).toNat < 6 - ((hp : Int)).toNat); omega
end Go.Proofs.YtjoomlpocpdonaaGreatDoor
