/-
  Walks of the document's semver: Parse.
  Walks of the document's semver: Parse, of what may be a version.
  Walks of the document's semver: Parse of any text, Canonical; the law SemverParses.
-/
import Derived.Test.YtmhjdahmmdfbcaaGreatDoorJRefC
namespace Go.Proofs.YtmhjdahmmdfbcaaGreatDoor
open Go.RowKit
theorem idx_cut (c : UInt8) (l : List UInt8) : (Lib.indexByte l c = -1 ∧ cutR c l = (l, [], false)) ∨ ∃ k, k < l.length ∧ Lib.indexByte l c = (k : Int) ∧ cutR c l = (l.take k, l.drop (k + 1), true) := by
  unfold cutR
  cases h : splitC c l with
  | none => exact Or.inl ⟨(split_none h).1, rfl⟩
  | some x =>
    obtain ⟨p, q⟩ := x
    obtain ⟨h1, h2, h3⟩ := split_some h
    refine Or.inr ⟨p.length, by rw [h2]; simp, h1, ?_⟩
    show (p, q, true) = _
    rw [h2, List.take_left, List.drop_append]
    simp
theorem size26 : (Tryz.prog.info? 37).map (·.size) = some 6 := by kernel_rfl
/-- the two boxes of the document's Parse: what it answers, and v -/
structure PR (w : World) (cs : Array Value) (V : World) : Prop where
  bel : Below w.heap.size w V
  z : V.heap[w.heap.size]? = some (.cells zero23 37)
  v : V.heap[w.heap.size + 1]? = some (.cells cs 37)
theorem PR.next {w V V' : World} {cs : Array Value} (H : PR w cs V) (hb : Below V.heap.size V V') : PR w cs V' := ⟨H.bel.trans (hb.mono H.bel.size), box_kept H.z hb, box_kept H.v hb⟩
theorem PR.set {w V : World} {cs : Array Value} (H : PR w cs V) (i : Nat) (x : Value) : PR w (cs.setIfInBounds i x) (V.setCell ⟨w.heap.size + 1, i, none⟩ x) := by
  refine ⟨H.bel.trans ⟨rfl, rfl, rfl, by simp, fun k hk => Below.heap_setCell V ⟨w.heap.size + 1, i, none⟩ x k (by simp; omega)⟩, ?_, ?_⟩
  · rw [← H.z]; exact Below.heap_setCell V ⟨w.heap.size + 1, i, none⟩ x w.heap.size (by simp)
  · rw [setCell_eq_setRow V _ i cs 37 (0, 0) x H.v]
    exact setRow_heap V _ cs _ 37 (0, 0) H.v
theorem PR.cell {w V : World} {cs : Array Value} (H : PR w cs V) (i : Nat) : V.cell? ⟨w.heap.size + 1, i, none⟩ = cs[i]? := cell_of_row _ _ _ _ 37 (0, 0) H.v
theorem PR.free {w V : World} {cs : Array Value} (H : PR w cs V) (i : Nat) : V.frozen? ⟨w.heap.size + 1, i, none⟩ = false := by simp [World.frozen?, H.v]
theorem PR.start (w : World) : PR w zero23 ((w.alloc (.cells zero23 37)).alloc (.cells zero23 37)) :=
  ⟨((Below.refl _ w).alloc (Nat.le_refl _) _).alloc (by simp) _, heap_alloc2_old _ _ _, heap_alloc2_new _ _ _⟩
theorem PR.grow {w V V' : World} {cs : Array Value} (H : PR w cs V) (hb : Below (w.heap.size + 2) V V') : PR w cs V' :=
  ⟨H.bel.trans (hb.mono (by omega)), by rw [hb.block _ (by omega)]; exact H.z, by rw [hb.block _ (by omega)]; exact H.v⟩
theorem head_bad {s : ByteArray} (h : s.size < 2 ∨ 100 < s.size ∨ s.data.toList.getD 0 0 ≠ 118) : parseR s = none := by
  unfold parseR
  by_cases h1 : 100 < s.size
  · rw [decide_eq_false (by omega)]; rfl
  · have hk : okC (cutsOf s) = false := by
      cases hl : s.data.toList with
      | nil =>
        unfold okC cutsOf
        rw [hl]
        rfl
      | cons x l =>
        by_cases hx : x = 118
        · have hl0 : l = [] := by
            rcases h with h | h | h
            · rw [← size_len, hl] at h
              exact List.length_eq_zero_iff.1 (by simp at h; omega)
            · exact absurd h h1
            · rw [hl] at h; exact absurd hx h
          subst hl0 hx
          unfold okC cutsOf
          rw [hl]
          decide +kernel
        · have hm : (cutsOf s).marked = false := by
            unfold cutsOf
            rw [hl]
            simp [vCut, hx]
          unfold okC
          rw [hm]; rfl
    rw [hk, Bool.and_false]; rfl
theorem head_good {s : ByteArray} {l : List UInt8} (hl : s.data.toList = 118 :: l) (hs : s.size ≤ 100) : parseR s = (let b := cutR 43 l
    let p := cutR 45 b.1
    if okC ⟨true, strOf p.1, strOf p.2.1, strOf b.2.1, p.2.2, b.2.2⟩ then some (verC ⟨true, strOf p.1, strOf p.2.1, strOf b.2.1, p.2.2, b.2.2⟩) else none) := by
  unfold parseR
  rw [decide_eq_true hs, Bool.true_and]
  have e : cutsOf s = ⟨true, strOf (cutR 45 (cutR 43 l).1).1, strOf (cutR 45 (cutR 43 l).1).2.1, strOf (cutR 43 l).2.1, (cutR 45 (cutR 43 l).1).2.2, (cutR 43 l).2.2⟩ := by
    unfold cutsOf
    rw [hl]
    simp [vCut]
  rw [e]
set_option maxHeartbeats 2000000 in
set_option maxRecDepth 100000 in
theorem rparse_head (s : ByteArray) (w : World) (hm : s.size ≤ 9223372036854775807) (h : s.size < 2 ∨ 100 < s.size ∨ s.data.toList.getD 0 0 ≠ 118) :
    Calls Tryz.prog 14 #[.string s] w fun x w' => x = .returned (verV (parseR s)) ∧ Below w.heap.size w w' := by
  have HR := hidM (head_bad h)
  have HZ : Hid ((w.alloc (.cells zero23 37)).heap[w.heap.size]? = some (.cells zero23 37)) := _root_.Go.heap_alloc_new _ _
  have HB : Hid (Below w.heap.size w (w.alloc (.cells zero23 37))) := (Below.refl _ w).alloc (Nat.le_refl _) _
  unfold zero23 at HZ HB
  by_cases h1 : s.size < 2
  · have b1 : decide ((s.size : Int) < 2) = true := decide_eq_true (by omega)
    clear h
    go_enter Tryz.func14, Tryz.ntmps14
    go_wp2
    exact bodyPost_ret (results_box rfl _ _ w.heap.size _ rfl (run_loadVar_row _ w.heap.size 37 37 _ (0, 0) _ HZ.out Tryz.underlying37 rfl size26)) rfl ⟨by rw [HR.out]; rfl, HB.out⟩
  · have b1 : decide ((s.size : Int) < 2) = false := decide_eq_false (by omega)
    by_cases h2 : 100 < s.size
    · have b2 : decide ((100 : Int) < (s.size : Int)) = true := decide_eq_true (by omega)
      clear h
      go_enter Tryz.func14, Tryz.ntmps14
      go_wp2
      exact bodyPost_ret (results_box rfl _ _ w.heap.size _ rfl (run_loadVar_row _ w.heap.size 37 37 _ (0, 0) _ HZ.out Tryz.underlying37 rfl size26)) rfl ⟨by rw [HR.out]; rfl, HB.out⟩
    · have b2 : decide ((100 : Int) < (s.size : Int)) = false := decide_eq_false (by omega)
      have p0 : 0 < s.size := by omega
      have h3 : s[0] ≠ 118 := by
        rcases h with h | h | h
        · exact absurd h h1
        · exact absurd h h2
        · rw [List.getD_eq_getElem?_getD, ba_list s 0 p0] at h; exact h
      have h3n : ¬ (s[0].toNat : Int) = 118 := fun e => h3 (by rw [← UInt8.toNat_inj]; show s[0].toNat = 118; omega)
      have b3 : ((s[0].toNat : Int) != 118) = true := by simpa using h3n
      have b4 : ((s[0].toNat : Int) == 118) = false := by simpa using h3n
      have p1 : (0 : Int) < (s.size : Int) := by omega
      clear h h3
      go_enter Tryz.func14, Tryz.ntmps14
      go_wp2
      exact bodyPost_ret (results_box rfl _ _ w.heap.size _ rfl (run_loadVar_row _ w.heap.size 37 37 _ (0, 0) _ HZ.out Tryz.underlying37 rfl size26)) rfl ⟨by rw [HR.out]; rfl, HB.out⟩
end Go.Proofs.YtmhjdahmmdfbcaaGreatDoor
namespace Go.Proofs.YtmhjdahmmdfbcaaGreatDoor
open Go.RowKit
theorem StrsAt.set {w : World} {g b : Nat} {l : List ByteArray} (h : StrsAt w g l) (hne : g ≠ b) (i : Nat) (v : Value) : StrsAt (w.setCell ⟨b, i, none⟩ v) g l := fun j hj => by
  rw [World.cell?_setCell_other _ _ _ _ (by intro e; simp only [Addr.mk.injEq] at e; exact hne e.1.symm)]
  exact h j hj
theorem ext_cut (c : UInt8) (t : ByteArray) : (Lib.indexByte t.data.toList c = -1 ∧ strOf (cutR c t.data.toList).1 = t ∧ strOf (cutR c t.data.toList).2.1 = ⟨#[]⟩ ∧ (cutR c t.data.toList).2.2 = false) ∨
    ∃ k, k < t.size ∧ Lib.indexByte t.data.toList c = (k : Int) ∧ t.extract 0 k = strOf (cutR c t.data.toList).1 ∧ t.extract (k + 1) t.size = strOf (cutR c t.data.toList).2.1 ∧ (cutR c t.data.toList).2.2 = true := by
  rcases idx_cut c t.data.toList with ⟨h1, h2⟩ | ⟨k, hk, h1, h2⟩
  · refine Or.inl ⟨h1, ?_, ?_, ?_⟩
    · rw [h2]; exact bytes_ext rfl
    · rw [h2]; rfl
    · rw [h2]
  · rw [size_len] at hk
    refine Or.inr ⟨k, hk, h1, ?_, ?_, ?_⟩
    · rw [h2]; exact bytes_ext (by rw [ext_head]; rfl)
    · rw [h2]; exact bytes_ext (by rw [ext_tail]; rfl)
    · rw [h2]
set_option maxHeartbeats 8000000 in
set_option maxRecDepth 100000 in
theorem rparse_good (s : ByteArray) (w : World) (h2 : 2 ≤ s.size) (hs : s.size ≤ 100) (h0 : s.data.toList.getD 0 0 = 118) :
    Calls Tryz.prog 14 #[.string s] w fun x w' => x = .returned (verV (parseR s)) ∧ Below w.heap.size w w' := by
  have p0 : 0 < s.size := by omega
  have hs0 : s[0] = 118 := by rw [List.getD_eq_getElem?_getD, ba_list s 0 p0] at h0; exact h0
  obtain ⟨t, ht⟩ : ∃ t, s.extract 1 s.size = t := ⟨_, rfl⟩
  have htl : s.data.toList = 118 :: t.data.toList := by
    rw [← ht, ext_tail]
    have hl : 0 < s.data.toList.length := by rw [size_len]; omega
    have := List.drop_eq_getElem_cons hl
    rw [List.drop_zero] at this
    rw [this]
    congr 1
  have hts : t.size ≤ 99 := by
    have := congrArg List.length htl
    rw [List.length_cons, size_len, size_len] at this
    omega
  have HR := hidM (head_good htl hs)
  have HI := hidM (ext_cut 43 t)
  have HF := hidM (fun V => find_any t 43 V (by omega))
  have hz2 : (strOf (cutR 43 t.data.toList).1).size ≤ 99 := by
    rw [strOf_size]; have := (cutR_len 43 t.data.toList).1; rw [size_len] at this; omega
  have hzb : (strOf (cutR 43 t.data.toList).2.1).size ≤ 99 := by
    rw [strOf_size]; have := (cutR_len 43 t.data.toList).2; rw [size_len] at this; omega
  have HJ := hidM (ext_cut 45 (strOf (cutR 43 t.data.toList).1))
  have HG := hidM (fun V => find_any (strOf (cutR 43 t.data.toList).1) 45 V (by omega))
  have hz3 : (strOf (cutR 45 (cutR 43 t.data.toList).1).1).size ≤ 99 := by
    rw [strOf_size]; have := (cutR_len 45 (cutR 43 t.data.toList).1).1; rw [strOf_size] at hz2; omega
  have hzp : (strOf (cutR 45 (cutR 43 t.data.toList).1).2.1).size ≤ 99 := by
    rw [strOf_size]; have := (cutR_len 45 (cutR 43 t.data.toList).1).2; rw [strOf_size] at hz2; omega
  simp only at HR
  change Hid ((Lib.indexByte (strOf (cutR 43 t.data.toList).1).data.toList 45 = -1 ∧ strOf (cutR 45 (cutR 43 t.data.toList).1).1 = strOf (cutR 43 t.data.toList).1 ∧ strOf (cutR 45 (cutR 43 t.data.toList).1).2.1 = ⟨#[]⟩ ∧ (cutR 45 (cutR 43 t.data.toList).1).2.2 = false) ∨
    ∃ k, k < (strOf (cutR 43 t.data.toList).1).size ∧ Lib.indexByte (strOf (cutR 43 t.data.toList).1).data.toList 45 = (k : Int) ∧ (strOf (cutR 43 t.data.toList).1).extract 0 k = strOf (cutR 45 (cutR 43 t.data.toList).1).1 ∧ (strOf (cutR 43 t.data.toList).1).extract (k + 1) (strOf (cutR 43 t.data.toList).1).size = strOf (cutR 45 (cutR 43 t.data.toList).1).2.1 ∧ (cutR 45 (cutR 43 t.data.toList).1).2.2 = true) at HJ
  generalize (cutR 45 (cutR 43 t.data.toList).1).2.2 = hp at *
  generalize strOf (cutR 45 (cutR 43 t.data.toList).1).2.1 = pr at *
  generalize strOf (cutR 45 (cutR 43 t.data.toList).1).1 = s3 at *
  generalize strOf (cutR 43 t.data.toList).1 = s2 at *
  generalize strOf (cutR 43 t.data.toList).2.1 = bu at *
  generalize (cutR 43 t.data.toList).2.2 = hb at *
  generalize Lib.indexByte t.data.toList 43 = i43 at *
  generalize Lib.indexByte s2.data.toList 45 = i45 at *
  have q43 : decide ((0 : Int) ≤ i43) = hb := by
    rcases HI.out with ⟨h, _, _, h'⟩ | ⟨k, _, h, _, _, h'⟩
    · rw [h, h']; rfl
    · rw [h, h']; exact decide_eq_true (by omega)
  have q45 : decide ((0 : Int) ≤ i45) = hp := by
    rcases HJ.out with ⟨h, _, _, h'⟩ | ⟨k, _, h, _, _, h'⟩
    · rw [h, h']; rfl
    · rw [h, h']; exact decide_eq_true (by omega)
  have HWB := hidM (fun V => words_any bu false V (by omega))
  have HWP := hidM (fun V => words_any pr true V (by omega))
  have HCU := hidM (fun V => rcut_any s3 46 V (by omega))
  rw [cutB_parts] at HCU
  have HNS : Hid (∀ x ∈ partsB s3, x.size ≤ 99) := fun x hx => by have := parts_size hx; omega
  have hnl : (partsB s3).length ≤ 100 := by have := parts_len s3; omega
  have HNE : Hid (partsB s3 ≠ []) := by rw [parts_eq]; intro h; exact cutL_ne _ _ (List.map_eq_nil_iff.1 h)
  unfold okC verC at HR
  simp only [Bool.true_and] at HR
  unfold wdL at HWB HWP
  simp only [Bool.false_eq_true, if_false, if_true] at HWB HWP
  generalize partsB s3 = ps at *
  generalize ((partsB pr).all fun x => preL x.data.toList) = ap at *
  generalize ((partsB bu).all fun x => wordL x.data.toList) = aw at *
  have HP := hidM (PR.start w)
  unfold zero23 at HP
  have HZE : Hid ((⟨#[]⟩ : ByteArray) = ByteArray.empty) := rfl
  have b1 : decide ((s.size : Int) < 2) = false := decide_eq_false (by omega)
  have b2 : decide ((100 : Int) < (s.size : Int)) = false := decide_eq_false (by omega)
  have b3 : ((s[0].toNat : Int) != 118) = false := by rw [hs0]; rfl
  have b4 : ((s[0].toNat : Int) == 118) = true := by rw [hs0]; rfl
  have p1 : (0 : Int) < (s.size : Int) := by omega
  have p2 : (1 : Int) ≤ (s.size : Int) := by omega
  clear h0 hs0 htl
  go_enter Tryz.func14, Tryz.ntmps14
  go_wp2_with fail
  generalize ((w.alloc (.cells #[.string ⟨#[]⟩, .string ⟨#[]⟩, .string ⟨#[]⟩, .string ⟨#[]⟩, .string ⟨#[]⟩, .int .i64 0] 37)).alloc (.cells #[.string ⟨#[]⟩, .string ⟨#[]⟩, .string ⟨#[]⟩, .string ⟨#[]⟩, .string ⟨#[]⟩, .int .i64 0] 37)) = W0 at *
  refine (HF.out W0).mono ?_
  rintro _ w1 ⟨rfl, hw1⟩
  rw [hw1]
  clear hw1 w1 b1 b2 b3 b4 p1 p2
  have HRI : Hid (∀ V, PR w #[.string ⟨#[]⟩, .string ⟨#[]⟩, .string ⟨#[]⟩, .string ⟨#[]⟩, .string ⟨#[]⟩, .int .i64 0] V → (⟨#[]⟩ : ByteArray) = bu → PR w #[.string ⟨#[]⟩, .string ⟨#[]⟩, .string ⟨#[]⟩, .string ⟨#[]⟩, .string bu, .int .i64 0] V) := fun V h e => by rw [← e]; exact h
  go_upto_if 32 with fail
  go_cut [0] (fun v0 wx => v0 = .string s2 ∧ PR w #[.string ⟨#[]⟩, .string ⟨#[]⟩, .string ⟨#[]⟩, .string ⟨#[]⟩, .string bu, .int .i64 0] wx ∧ (hb = true → aw = true))
  case first =>
    rcases HI.out with ⟨e1, e2, e3, e4⟩ | ⟨k, hk, e1, e2, e3, e4⟩
    · subst e1 e2 e4
      have HPX := hidM (HRI.out _ HP.out e3.symm)
      go_wp2_with fail
      go_meet
      case rel => exact ⟨rfl, HPX.out, fun h => by cases h⟩
    · subst e1 e4
      have c4 : W0.cell? ⟨w.heap.size + 1, 4, none⟩ = some (.string ⟨#[]⟩) := HP.out.cell 4
      have f4 := HP.out.free 4
      have j1 : (k : Int) + 1 = ((k + 1 : Nat) : Int) := by omega
      have j2 : ((k + 1 : Nat) : Int) ≤ (t.size : Int) := by omega
      have j3 : (k : Int) ≤ (t.size : Int) := by omega
      have HP1 : Hid (PR w #[.string ⟨#[]⟩, .string ⟨#[]⟩, .string ⟨#[]⟩, .string ⟨#[]⟩, .string bu, .int .i64 0] (W0.setCell ⟨w.heap.size + 1, 4, none⟩ (.string bu))) := HP.out.set 4 (.string bu)
      generalize k + 1 = k1 at *
      clear HP
      go_wp2_with fail
      have HP1' := HP1
      generalize W0.setCell ⟨w.heap.size + 1, 4, none⟩ (.string bu) = W1 at *
      clear HP1' c4 f4
      have c4 : W1.cell? ⟨w.heap.size + 1, 4, none⟩ = some (.string bu) := HP1.out.cell 4
      go_wp2_with fail
      refine (HWB.out _).mono ?_
      rintro _ w2 ⟨rfl, hb2⟩
      have HP2 := hidM (HP1.out.next hb2)
      clear hb2 HP1 c4
      cases aw with
      | false =>
        have HN : Hid (parseR s = none) := by unfold Hid; rw [HR.out]; simp
        go_wp2_with (refine wpList_store_row rfl 37 (.tmp 2) (.tmp 45) rfl w.heap.size #[.string ⟨#[]⟩, .string ⟨#[]⟩, .string ⟨#[]⟩, .string ⟨#[]⟩, .string ⟨#[]⟩, .int .i64 0] rfl rfl 37 #[.string ⟨#[]⟩, .string ⟨#[]⟩, .string ⟨#[]⟩, .string ⟨#[]⟩, .string ⟨#[]⟩, .int .i64 0] HP2.out.z size26 rfl ones23 ?_)
        go_wp2
        exact bodyPost_ret (results_box rfl _ _ w.heap.size #[.string ⟨#[]⟩, .string ⟨#[]⟩, .string ⟨#[]⟩, .string ⟨#[]⟩, .string ⟨#[]⟩, .int .i64 0] rfl (run_loadVar_row _ w.heap.size 37 37 #[.string ⟨#[]⟩, .string ⟨#[]⟩, .string ⟨#[]⟩, .string ⟨#[]⟩, .string ⟨#[]⟩, .int .i64 0] (0, 0) _ (setRow_heap _ _ _ _ 37 _ HP2.out.z) Tryz.underlying37 rfl size26)) rfl ⟨by rw [HN.out]; rfl, below_setRow HP2.out.bel (Nat.le_refl _)⟩
      | true =>
        go_wp2_with fail
        go_meet
        case rel => exact ⟨rfl, HP2.out, fun _ => by first | rfl | trivial⟩
  case rest =>
    obtain ⟨hv0, hpr, hba⟩ := hcut
    subst hv0
    have HP := hidM hpr
    have HBA := hidM hba
    clear hpr hba
    go_wp2_with fail
    refine (HG.out _).mono ?_
    rintro _ w1 ⟨rfl, hw1⟩
    rw [hw1]
    clear hw1 w1 HF HG HI q43
    go_upto_if 49 with fail
    go_cut [0, 6] (fun v0 v6 wx => v0 = .string s3 ∧ v6 = .bool (hp || hb) ∧ PR w #[.string ⟨#[]⟩, .string ⟨#[]⟩, .string ⟨#[]⟩, .string pr, .string bu, .int .i64 0] wx ∧ (hp = true → ap = true))
    case first =>
      rcases HJ.out with ⟨e1, e2, e3, e4⟩ | ⟨k, hk, e1, e2, e3, e4⟩
      · subst e1 e2 e3 e4
        go_wp2_with fail
        go_meet
        case rel => exact ⟨rfl, by simp, HP.out, fun h => by cases h⟩
      · subst e1 e4
        have c3 : wc.cell? ⟨w.heap.size + 1, 3, none⟩ = some (.string ⟨#[]⟩) := HP.out.cell 3
        have f3 := HP.out.free 3
        have j1 : (k : Int) + 1 = ((k + 1 : Nat) : Int) := by omega
        have j2 : ((k + 1 : Nat) : Int) ≤ (s2.size : Int) := by omega
        have j3 : (k : Int) ≤ (s2.size : Int) := by omega
        have HP1 : Hid (PR w #[.string ⟨#[]⟩, .string ⟨#[]⟩, .string ⟨#[]⟩, .string pr, .string bu, .int .i64 0] (wc.setCell ⟨w.heap.size + 1, 3, none⟩ (.string pr))) := HP.out.set 3 (.string pr)
        generalize k + 1 = k1 at *
        clear HP
        go_wp2_with fail
        have HP1' := HP1
        generalize wc.setCell ⟨w.heap.size + 1, 3, none⟩ (.string pr) = W1 at *
        clear HP1' c3 f3
        have c3 : W1.cell? ⟨w.heap.size + 1, 3, none⟩ = some (.string pr) := HP1.out.cell 3
        go_wp2_with fail
        refine (HWP.out _).mono ?_
        rintro _ w2 ⟨rfl, hb2⟩
        have HP2 := hidM (HP1.out.next hb2)
        clear hb2 HP1 c3
        cases ap with
        | false =>
          have HN : Hid (parseR s = none) := by unfold Hid; rw [HR.out]; simp
          go_wp2_with (refine wpList_store_row rfl 37 (.tmp 2) (.tmp 62) rfl w.heap.size #[.string ⟨#[]⟩, .string ⟨#[]⟩, .string ⟨#[]⟩, .string ⟨#[]⟩, .string ⟨#[]⟩, .int .i64 0] rfl rfl 37 #[.string ⟨#[]⟩, .string ⟨#[]⟩, .string ⟨#[]⟩, .string ⟨#[]⟩, .string ⟨#[]⟩, .int .i64 0] HP2.out.z size26 rfl ones23 ?_)
          go_wp2
          exact bodyPost_ret (results_box rfl _ _ w.heap.size #[.string ⟨#[]⟩, .string ⟨#[]⟩, .string ⟨#[]⟩, .string ⟨#[]⟩, .string ⟨#[]⟩, .int .i64 0] rfl (run_loadVar_row _ w.heap.size 37 37 #[.string ⟨#[]⟩, .string ⟨#[]⟩, .string ⟨#[]⟩, .string ⟨#[]⟩, .string ⟨#[]⟩, .int .i64 0] (0, 0) _ (setRow_heap _ _ _ _ 37 _ HP2.out.z) Tryz.underlying37 rfl size26)) rfl ⟨by rw [HN.out]; rfl, below_setRow HP2.out.bel (Nat.le_refl _)⟩
        | true =>
          go_wp2_with fail
          go_meet
          case rel => exact ⟨rfl, by simp, HP2.out, fun _ => by first | rfl | trivial⟩
    case rest =>
      obtain ⟨hv0, hv6, hpr, hba⟩ := hcut
      subst hv0 hv6
      have HP := hidM hpr
      have HPA := hidM hba
      clear hpr hba HJ q45 HWP HWB
      have HR2 : Hid (parseR s = if decide (ps.length ≤ 3) && !(decide (ps.length < 3) && (hp || hb)) && (ps.all fun x => numL x.data.toList) then some ⟨(ps ++ [nought, nought]).getD 0 nought, (ps ++ [nought, nought]).getD 1 nought, (ps ++ [nought, nought]).getD 2 nought, pr, bu, 3 - ps.length⟩ else none) := by
        unfold Hid
        rw [HR.out]
        have x1 : !(hp && !ap) := by cases hp <;> cases ap <;> first | rfl | exact absurd (HPA.out rfl) (by decide)
        have x2 : !(hb && !aw) := by cases hb <;> cases aw <;> first | rfl | exact absurd (HBA.out rfl) (by decide)
        rw [x1, x2, Bool.and_true, Bool.and_true]
      clear HR HPA HBA
      generalize (hp || hb) = sm at *
      go_wp2_with fail
      refine (HCU.out _).mono ?_
      rintro _ w5 ⟨⟨v, hown, rfl⟩, hb5⟩
      obtain ⟨g, cp, rfl, hsh⟩ := hown.shape
      obtain ⟨g, rfl, hg1, hg2, hst⟩ := hsh HNE.out
      have HP5 := hidM (HP.out.next hb5)
      have HOW := hidM hown
      have HST := hidM hst
      have hlw : (⟨w.heap.size + 1, 5, none⟩ : Addr).block < wc.heap.size := (Array.getElem?_eq_some_iff.1 HP.out.v).1
      have HWC : Hid (w.heap.size + 2 ≤ wc.heap.size) := hlw
      have HLE : Hid (wc.heap.size ≤ w5.heap.size) := hb5.size
      have hgw : w.heap.size + 2 ≤ g := by
        have := (Array.getElem?_eq_some_iff.1 HP.out.v).1
        omega
      clear hown hst hb5 hsh HP HCU
      have c5 : w5.cell? ⟨w.heap.size + 1, 5, none⟩ = some (.int .i64 0) := HP5.out.cell 5
      have f5 := HP5.out.free 5
      obtain ⟨j, hj⟩ : ∃ j : Int, (3 : Int) - (ps.length : Int) = j := ⟨_, rfl⟩
      have HJ := hidM hj
      have HP6 : Hid (PR w #[.string ⟨#[]⟩, .string ⟨#[]⟩, .string ⟨#[]⟩, .string pr, .string bu, .int .i64 j] (w5.setCell ⟨w.heap.size + 1, 5, none⟩ (.int .i64 j))) := HP5.out.set 5 (.int .i64 j)
      have HOW6 : Hid ((w5.setCell ⟨w.heap.size + 1, 5, none⟩ (.int .i64 j)).ownsRow wc.heap.size 9 1 (.slice (some ⟨g, 0, none⟩) ps.length cp) ps.length (strsV ps)) := ownsRow_setCell_below HOW.out hlw _
      go_upto_region 21 with fail
      generalize w5.setCell ⟨w.heap.size + 1, 5, none⟩ (.int .i64 j) = w6 at *
      clear HP5 HOW HST c5 f5 hj
      have c5 : w6.cell? ⟨w.heap.size + 1, 5, none⟩ = some (.int .i64 j) := HP6.out.cell 5
      by_cases hn3 : ps.length ≤ 3
      · have k1 : decide (j < (0 : Int)) = false := decide_eq_false (by have := HJ.out; omega)
        have HGO : Hid ((sm = true ∧ ps.length < 3) ∨ (sm && decide ((0 : Int) < j)) = false) := by
          by_cases h : sm = true ∧ ps.length < 3
          · exact Or.inl h
          · refine Or.inr ?_
            cases sm with
            | false => rfl
            | true =>
              have h3 : ¬ ps.length < 3 := fun h3 => h ⟨rfl, h3⟩
              rw [decide_eq_false (by have := HJ.out; omega)]; rfl
        rcases HGO.out with ⟨rfl, hlt3⟩ | hgo
        · have k2 : decide ((0 : Int) < j) = true := decide_eq_true (by have := HJ.out; omega)
          have HN : Hid (parseR s = none) := by unfold Hid; rw [HR2.out]; simp; try omega
          go_wp2_with (refine wpList_store_row rfl 37 (.tmp 2) (.tmp 80) rfl w.heap.size #[.string ⟨#[]⟩, .string ⟨#[]⟩, .string ⟨#[]⟩, .string ⟨#[]⟩, .string ⟨#[]⟩, .int .i64 0] rfl rfl 37 #[.string ⟨#[]⟩, .string ⟨#[]⟩, .string ⟨#[]⟩, .string ⟨#[]⟩, .string ⟨#[]⟩, .int .i64 0] HP6.out.z size26 rfl ones23 ?_)
          go_wp2
          exact bodyPost_ret (results_box rfl _ _ w.heap.size #[.string ⟨#[]⟩, .string ⟨#[]⟩, .string ⟨#[]⟩, .string ⟨#[]⟩, .string ⟨#[]⟩, .int .i64 0] rfl (run_loadVar_row _ w.heap.size 37 37 #[.string ⟨#[]⟩, .string ⟨#[]⟩, .string ⟨#[]⟩, .string ⟨#[]⟩, .string ⟨#[]⟩, .int .i64 0] (0, 0) _ (setRow_heap _ _ _ _ 37 _ HP6.out.z) Tryz.underlying37 rfl size26)) rfl ⟨by rw [HN.out]; rfl, below_setRow HP6.out.bel (Nat.le_refl _)⟩
        · have HC2 : Hid (decide (ps.length ≤ 3) && !(decide (ps.length < 3) && sm)) := by
            unfold Hid
            rw [decide_eq_true hn3, Bool.true_and]
            cases sm with
            | false => simp
            | true =>
              have : ¬ (0 : Int) < j := by simpa using hgo
              rw [decide_eq_false (by have := HJ.out; omega)]; rfl
          go_upto_region 21 with fail
          have HOWX := HOW6
          cases sm with
          | false =>
            as_aux_lemma =>
              skip
              have HRS : Hid (parseR s = if (ps.all fun x => numL x.data.toList) then some ⟨(ps ++ [nought, nought]).getD 0 nought, (ps ++ [nought, nought]).getD 1 nought, (ps ++ [nought, nought]).getD 2 nought, pr, bu, 3 - ps.length⟩ else none) := by
                unfold Hid
                rw [HR2.out, HC2.out, Bool.true_and]
              clear HR2 HC2 HGO hgo
              obtain ⟨gg, cc, hv, hsh⟩ := OwnS.shape (l := ps) HOW6.out
              obtain ⟨g', hg', _, hgz, hst⟩ := hsh HNE.out
              obtain ⟨rfl, rfl⟩ : g = g' ∧ cp = cc := by
                subst hg'
                simp only [Value.slice.injEq, Option.some.injEq, Addr.mk.injEq, and_true, true_and] at hv
                exact hv
              clear hsh hv hg'
              have HST := hidM hst
              have HNU : Hid (∀ (x : ByteArray) (V : World), x ∈ ps → Calls Tryz.prog 31 #[.string x] V fun e w' => e = .returned (.bool (numL x.data.toList)) ∧ w' = V) := fun x V hx => rnumber_any x V (by have := HNS.out x hx; omega)
              clear hst
              go_wp2
              go_loopw [10, 83] (fun _ iv wr => ∃ k : Nat, k ≤ ps.length ∧ iv = .int .i64 (k : Int) ∧ (∀ j (hj : j < ps.length), j < k → numL ps[j].data.toList = true) ∧ w6 = wr) (fun _ i _ => ps.length - (intOf i).toNat)
              case atStart => exact ⟨0, Nat.zero_le _, rfl, fun j _ hj => by omega, rfl⟩
              case round =>
                obtain ⟨k, hk, rfl, hno, hwr⟩ := hrel
                subst hwr
                have HNO := hidM hno
                clear hno
                by_cases hlt : k < ps.length
                · have gk : (k : Int) < (ps.length : Int) := by omega
                  have ck := HST.out k hlt
                  have HFK := hidM (HNU.out ps[k] w6 (List.getElem_mem hlt))
                  cases hd : numL ps[k].data.toList with
                  | false =>
                    have HN : Hid (parseR s = none) := by
                      have : (ps.all fun x => numL x.data.toList) = false := by
                        rw [List.all_eq_false]
                        exact ⟨ps[k], List.getElem_mem hlt, by rw [hd]; exact Bool.false_ne_true⟩
                      unfold Hid
                      rw [HRS.out, this]; rfl
                    rw [hd] at HFK
                    clear hd HRS HOWX HOW6
                    generalize ps[k] = x at *
                    go_wp2_with fail
                    refine HFK.out.mono ?_
                    rintro _ w1 ⟨rfl, h1⟩
                    rw [h1]
                    go_wp2_with (refine wpList_store_row rfl 37 (.tmp 2) (.tmp 90) rfl w.heap.size #[.string ⟨#[]⟩, .string ⟨#[]⟩, .string ⟨#[]⟩, .string ⟨#[]⟩, .string ⟨#[]⟩, .int .i64 0] rfl rfl 37 #[.string ⟨#[]⟩, .string ⟨#[]⟩, .string ⟨#[]⟩, .string ⟨#[]⟩, .string ⟨#[]⟩, .int .i64 0] HP6.out.z size26 rfl ones23 ?_)
                    go_wp2
                    exact bodyPost_ret (results_box rfl _ _ w.heap.size #[.string ⟨#[]⟩, .string ⟨#[]⟩, .string ⟨#[]⟩, .string ⟨#[]⟩, .string ⟨#[]⟩, .int .i64 0] rfl (run_loadVar_row _ w.heap.size 37 37 #[.string ⟨#[]⟩, .string ⟨#[]⟩, .string ⟨#[]⟩, .string ⟨#[]⟩, .string ⟨#[]⟩, .int .i64 0] (0, 0) _ (setRow_heap _ _ _ _ 37 _ HP6.out.z) Tryz.underlying37 rfl size26)) rfl ⟨by rw [HN.out]; rfl, below_setRow HP6.out.bel (Nat.le_refl _)⟩
                  | true =>
                    have HNX : Hid (∀ j (hj : j < ps.length), j < k + 1 → numL ps[j].data.toList = true) := fun j hj hjk => by
                      rcases Nat.lt_or_ge j k with h | h
                      · exact HNO.out j hj h
                      · obtain rfl : j = k := by omega
                        exact hd
                    rw [hd] at HFK
                    clear hd
                    generalize ps[k] = x at *
                    go_wp2_with fail
                    refine HFK.out.mono ?_
                    rintro _ w1 ⟨rfl, h1⟩
                    rw [h1]
                    clear h1
                    go_wp2
                    go_roundw
                    case rel => exact ⟨k + 1, by omega, by go_num, HNX.out, by first | rfl | trivial⟩
                    case measure => simp [intOf]; omega
                · have gk : ¬ (k : Int) < (ps.length : Int) := by omega
                  have HRF : Hid (parseR s = some ⟨(ps ++ [nought, nought]).getD 0 nought, (ps ++ [nought, nought]).getD 1 nought, (ps ++ [nought, nought]).getD 2 nought, pr, bu, 3 - ps.length⟩) := by
                    have : (ps.all fun x => numL x.data.toList) = true := by
                      rw [List.all_eq_true]
                      intro x hx
                      obtain ⟨j, hj, rfl⟩ := List.getElem_of_mem hx
                      exact HNO.out j hj (by omega)
                    unfold Hid
                    rw [HRS.out, this]; rfl
                  clear HNO HRS HNU HOWX
                  obtain ⟨i0, hi, hz0, hz1, hz2⟩ := info_parts info9
                  have HOWA : Hid ((w6.alloc (.cells #[.string ⟨#[48]⟩, .string ⟨#[48]⟩] 9)).ownsRow wc.heap.size 9 1 (.slice (some ⟨g, 0, none⟩) ps.length cp) ps.length (strsV ps)) := World.ownsRow.alloc HOW6.out _
                  have HPA : Hid (PR w #[.string ⟨#[]⟩, .string ⟨#[]⟩, .string ⟨#[]⟩, .string pr, .string bu, .int .i64 j] (w6.alloc (.cells #[.string ⟨#[48]⟩, .string ⟨#[48]⟩] 9))) := HP6.out.next ((Below.refl _ _).alloc (Nat.le_refl _) _)
                  have HZS : Hid (wc.heap.size ≤ (w6.alloc (.cells #[.string ⟨#[48]⟩, .string ⟨#[48]⟩] 9)).heap.size) := by unfold Hid; simp; omega
                  have hpl : 0 < ps.length := List.length_pos_iff.2 HNE.out
                  go_wp2_with (at_builtin; refine wpList_append_own _ rfl _ _ 47 rfl wc.heap.size 9 i0 (.string ByteArray.empty) 1 16 Tryz.underlying47 hi hz0 hz1 hz2 rfl (by decide) _ ps.length (strsV ps) rfl HOWA.out ⟨w6.heap.size, 0, none⟩ 2 2 [.string ⟨#[48]⟩, .string ⟨#[48]⟩] rfl rfl ?qc2a ?qc3a (by unfold maxLen; omega) (by omega) HZS.out ?_)
                  case qc3a => rfl
                  intro v' w7 hown' hgrow _
                  have HO7 : Hid (OwnS w7 wc.heap.size v' (ps ++ [nought, nought])) := by
                    unfold Hid OwnS strsV
                    rw [List.map_append, List.length_append]
                    exact hown'
                  have HB7 : Hid (Below (w.heap.size + 2) (w6.alloc (.cells #[.string ⟨#[48]⟩, .string ⟨#[48]⟩] 9)) w7) := Below.refl_grown (Nat.le_trans HWC.out HZS.out) hgrow (fun k hk => by
                    have hk' : some g = some k := hk
                    cases hk'
                    exact hgw)
                  have HP7 := hidM (HPA.out.grow HB7.out)
                  clear hown' hgrow HB7 HPA HOWA HZS HOW6 HP6 c5 HST
                  obtain ⟨a7, c7, rfl, hsh7⟩ := HO7.out.shape
                  obtain ⟨g7, rfl, hg71, hg72, hst7⟩ := hsh7 (by simp)
                  have hln : (ps ++ [nought, nought]).length = ps.length + 2 := by simp
                  have HS7 := hidM hst7
                  have HJN : Hid (((3 - ps.length : Nat) : Int) = j) := by unfold Hid; rw [← HJ.out]; omega
                  generalize ps ++ [nought, nought] = L at *
                  have n0 : 0 < L.length := by omega
                  have n1 : 1 < L.length := by omega
                  have n2 : 2 < L.length := by omega
                  have hx0 : L.getD 0 nought = L[0] := by rw [List.getD_eq_getElem?_getD, List.getElem?_eq_getElem n0]; rfl
                  have hx1 : L.getD 1 nought = L[1] := by rw [List.getD_eq_getElem?_getD, List.getElem?_eq_getElem n1]; rfl
                  have hx2 : L.getD 2 nought = L[2] := by rw [List.getD_eq_getElem?_getD, List.getElem?_eq_getElem n2]; rfl
                  rw [hx0, hx1, hx2] at HRF
                  have HD : Hid (∀ V, StrsAt V g7 L → V.cell? ⟨g7, 0, none⟩ = some (.string L[0]) ∧ V.cell? ⟨g7, 1, none⟩ = some (.string L[1]) ∧ V.cell? ⟨g7, 2, none⟩ = some (.string L[2])) := fun V h => ⟨h 0 n0, h 1 n1, h 2 n2⟩
                  have m0 : (0 : Int) < (L.length : Int) := by omega
                  have m1 : (1 : Int) < (L.length : Int) := by omega
                  have m2 : (2 : Int) < (L.length : Int) := by omega
                  generalize L[0] = x0 at *
                  generalize L[1] = x1 at *
                  generalize L[2] = x2 at *
                  have hne : g7 ≠ w.heap.size + 1 := by have := HWC.out; omega
                  clear hx0 hx1 hx2 hln hst7 hsh7 HO7 n0 n1 n2
                  have d0 := (HD.out _ HS7.out).1
                  have c0 : w7.cell? ⟨w.heap.size + 1, 0, none⟩ = some (.string ⟨#[]⟩) := HP7.out.cell 0
                  have f0 := HP7.out.free 0
                  have HP8 : Hid (PR w #[.string x0, .string ⟨#[]⟩, .string ⟨#[]⟩, .string pr, .string bu, .int .i64 j] (w7.setCell ⟨w.heap.size + 1, 0, none⟩ (.string x0))) := HP7.out.set 0 (.string x0)
                  have HS8 := hidM (HS7.out.set hne 0 (.string x0))
                  go_upto_region 31 with fail
                  generalize w7.setCell ⟨w.heap.size + 1, 0, none⟩ (.string x0) = w8 at *
                  clear d0 c0 f0 HP7 HS7
                  have d1 := (HD.out _ HS8.out).2.1
                  have c1 : w8.cell? ⟨w.heap.size + 1, 1, none⟩ = some (.string ⟨#[]⟩) := HP8.out.cell 1
                  have f1 := HP8.out.free 1
                  have HP9 : Hid (PR w #[.string x0, .string x1, .string ⟨#[]⟩, .string pr, .string bu, .int .i64 j] (w8.setCell ⟨w.heap.size + 1, 1, none⟩ (.string x1))) := HP8.out.set 1 (.string x1)
                  have HS9 := hidM (HS8.out.set hne 1 (.string x1))
                  go_upto_region 32 with fail
                  generalize w8.setCell ⟨w.heap.size + 1, 1, none⟩ (.string x1) = w9 at *
                  clear d1 c1 f1 HP8 HS8
                  have d2 := (HD.out _ HS9.out).2.2
                  have c2 : w9.cell? ⟨w.heap.size + 1, 2, none⟩ = some (.string ⟨#[]⟩) := HP9.out.cell 2
                  have f2 := HP9.out.free 2
                  have HPF : Hid (PR w #[.string x0, .string x1, .string x2, .string pr, .string bu, .int .i64 j] (w9.setCell ⟨w.heap.size + 1, 2, none⟩ (.string x2))) := HP9.out.set 2 (.string x2)
                  go_upto_region 33 with fail
                  generalize w9.setCell ⟨w.heap.size + 1, 2, none⟩ (.string x2) = wf at *
                  clear d2 c2 f2 HP9 HS9 HD
                  have e0 : wf.cell? ⟨w.heap.size + 1, 0, none⟩ = some (.string x0) := HPF.out.cell 0
                  have e1 : wf.cell? ⟨w.heap.size + 1, 1, none⟩ = some (.string x1) := HPF.out.cell 1
                  have e2 : wf.cell? ⟨w.heap.size + 1, 2, none⟩ = some (.string x2) := HPF.out.cell 2
                  have e3 : wf.cell? ⟨w.heap.size + 1, 3, none⟩ = some (.string pr) := HPF.out.cell 3
                  have e4 : wf.cell? ⟨w.heap.size + 1, 4, none⟩ = some (.string bu) := HPF.out.cell 4
                  have e5 : wf.cell? ⟨w.heap.size + 1, 5, none⟩ = some (.int .i64 j) := HPF.out.cell 5
                  go_wp2_with (refine wpList_store_row rfl 37 (.tmp 2) (.tmp 107) rfl w.heap.size #[.string x0, .string x1, .string x2, .string pr, .string bu, .int .i64 j] rfl rfl 37 #[.string ⟨#[]⟩, .string ⟨#[]⟩, .string ⟨#[]⟩, .string ⟨#[]⟩, .string ⟨#[]⟩, .int .i64 0] HPF.out.z size26 rfl (ones23v _ _ _ _ _ _) ?_)
                  exact bodyPost_ret (results_box rfl _ _ w.heap.size #[.string x0, .string x1, .string x2, .string pr, .string bu, .int .i64 j] rfl (run_loadVar_row _ w.heap.size 37 37 #[.string x0, .string x1, .string x2, .string pr, .string bu, .int .i64 j] (0, 0) _ (setRow_heap _ _ _ _ 37 _ HPF.out.z) Tryz.underlying37 rfl size26)) rfl ⟨by rw [HRF.out, ← HJN.out]; rfl, below_setRow HPF.out.bel (Nat.le_refl _)⟩
          | true =>
            as_aux_lemma =>
              have k2 : decide ((0 : Int) < j) = false := by simpa using hgo
              have HRS : Hid (parseR s = if (ps.all fun x => numL x.data.toList) then some ⟨(ps ++ [nought, nought]).getD 0 nought, (ps ++ [nought, nought]).getD 1 nought, (ps ++ [nought, nought]).getD 2 nought, pr, bu, 3 - ps.length⟩ else none) := by
                unfold Hid
                rw [HR2.out, HC2.out, Bool.true_and]
              clear HR2 HC2 HGO hgo
              obtain ⟨gg, cc, hv, hsh⟩ := OwnS.shape (l := ps) HOW6.out
              obtain ⟨g', hg', _, hgz, hst⟩ := hsh HNE.out
              obtain ⟨rfl, rfl⟩ : g = g' ∧ cp = cc := by
                subst hg'
                simp only [Value.slice.injEq, Option.some.injEq, Addr.mk.injEq, and_true, true_and] at hv
                exact hv
              clear hsh hv hg'
              have HST := hidM hst
              have HNU : Hid (∀ (x : ByteArray) (V : World), x ∈ ps → Calls Tryz.prog 31 #[.string x] V fun e w' => e = .returned (.bool (numL x.data.toList)) ∧ w' = V) := fun x V hx => rnumber_any x V (by have := HNS.out x hx; omega)
              clear hst
              go_wp2
              go_loopw [10, 83] (fun _ iv wr => ∃ k : Nat, k ≤ ps.length ∧ iv = .int .i64 (k : Int) ∧ (∀ j (hj : j < ps.length), j < k → numL ps[j].data.toList = true) ∧ w6 = wr) (fun _ i _ => ps.length - (intOf i).toNat)
              case atStart => exact ⟨0, Nat.zero_le _, rfl, fun j _ hj => by omega, rfl⟩
              case round =>
                obtain ⟨k, hk, rfl, hno, hwr⟩ := hrel
                subst hwr
                have HNO := hidM hno
                clear hno
                by_cases hlt : k < ps.length
                · have gk : (k : Int) < (ps.length : Int) := by omega
                  have ck := HST.out k hlt
                  have HFK := hidM (HNU.out ps[k] w6 (List.getElem_mem hlt))
                  cases hd : numL ps[k].data.toList with
                  | false =>
                    have HN : Hid (parseR s = none) := by
                      have : (ps.all fun x => numL x.data.toList) = false := by
                        rw [List.all_eq_false]
                        exact ⟨ps[k], List.getElem_mem hlt, by rw [hd]; exact Bool.false_ne_true⟩
                      unfold Hid
                      rw [HRS.out, this]; rfl
                    rw [hd] at HFK
                    clear hd HRS HOWX HOW6
                    generalize ps[k] = x at *
                    go_wp2_with fail
                    refine HFK.out.mono ?_
                    rintro _ w1 ⟨rfl, h1⟩
                    rw [h1]
                    go_wp2_with (refine wpList_store_row rfl 37 (.tmp 2) (.tmp 90) rfl w.heap.size #[.string ⟨#[]⟩, .string ⟨#[]⟩, .string ⟨#[]⟩, .string ⟨#[]⟩, .string ⟨#[]⟩, .int .i64 0] rfl rfl 37 #[.string ⟨#[]⟩, .string ⟨#[]⟩, .string ⟨#[]⟩, .string ⟨#[]⟩, .string ⟨#[]⟩, .int .i64 0] HP6.out.z size26 rfl ones23 ?_)
                    go_wp2
                    exact bodyPost_ret (results_box rfl _ _ w.heap.size #[.string ⟨#[]⟩, .string ⟨#[]⟩, .string ⟨#[]⟩, .string ⟨#[]⟩, .string ⟨#[]⟩, .int .i64 0] rfl (run_loadVar_row _ w.heap.size 37 37 #[.string ⟨#[]⟩, .string ⟨#[]⟩, .string ⟨#[]⟩, .string ⟨#[]⟩, .string ⟨#[]⟩, .int .i64 0] (0, 0) _ (setRow_heap _ _ _ _ 37 _ HP6.out.z) Tryz.underlying37 rfl size26)) rfl ⟨by rw [HN.out]; rfl, below_setRow HP6.out.bel (Nat.le_refl _)⟩
                  | true =>
                    have HNX : Hid (∀ j (hj : j < ps.length), j < k + 1 → numL ps[j].data.toList = true) := fun j hj hjk => by
                      rcases Nat.lt_or_ge j k with h | h
                      · exact HNO.out j hj h
                      · obtain rfl : j = k := by omega
                        exact hd
                    rw [hd] at HFK
                    clear hd
                    generalize ps[k] = x at *
                    go_wp2_with fail
                    refine HFK.out.mono ?_
                    rintro _ w1 ⟨rfl, h1⟩
                    rw [h1]
                    clear h1
                    go_wp2
                    go_roundw
                    case rel => exact ⟨k + 1, by omega, by go_num, HNX.out, by first | rfl | trivial⟩
                    case measure => simp [intOf]; omega
                · have gk : ¬ (k : Int) < (ps.length : Int) := by omega
                  have HRF : Hid (parseR s = some ⟨(ps ++ [nought, nought]).getD 0 nought, (ps ++ [nought, nought]).getD 1 nought, (ps ++ [nought, nought]).getD 2 nought, pr, bu, 3 - ps.length⟩) := by
                    have : (ps.all fun x => numL x.data.toList) = true := by
                      rw [List.all_eq_true]
                      intro x hx
                      obtain ⟨j, hj, rfl⟩ := List.getElem_of_mem hx
                      exact HNO.out j hj (by omega)
                    unfold Hid
                    rw [HRS.out, this]; rfl
                  clear HNO HRS HNU HOWX
                  obtain ⟨i0, hi, hz0, hz1, hz2⟩ := info_parts info9
                  have HOWA : Hid ((w6.alloc (.cells #[.string ⟨#[48]⟩, .string ⟨#[48]⟩] 9)).ownsRow wc.heap.size 9 1 (.slice (some ⟨g, 0, none⟩) ps.length cp) ps.length (strsV ps)) := World.ownsRow.alloc HOW6.out _
                  have HPA : Hid (PR w #[.string ⟨#[]⟩, .string ⟨#[]⟩, .string ⟨#[]⟩, .string pr, .string bu, .int .i64 j] (w6.alloc (.cells #[.string ⟨#[48]⟩, .string ⟨#[48]⟩] 9))) := HP6.out.next ((Below.refl _ _).alloc (Nat.le_refl _) _)
                  have HZS : Hid (wc.heap.size ≤ (w6.alloc (.cells #[.string ⟨#[48]⟩, .string ⟨#[48]⟩] 9)).heap.size) := by unfold Hid; simp; omega
                  have hpl : 0 < ps.length := List.length_pos_iff.2 HNE.out
                  go_wp2_with (at_builtin; refine wpList_append_own _ rfl _ _ 47 rfl wc.heap.size 9 i0 (.string ByteArray.empty) 1 16 Tryz.underlying47 hi hz0 hz1 hz2 rfl (by decide) _ ps.length (strsV ps) rfl HOWA.out ⟨w6.heap.size, 0, none⟩ 2 2 [.string ⟨#[48]⟩, .string ⟨#[48]⟩] rfl rfl ?qc2b ?qc3b (by unfold maxLen; omega) (by omega) HZS.out ?_)
                  case qc3b => rfl
                  intro v' w7 hown' hgrow _
                  have HO7 : Hid (OwnS w7 wc.heap.size v' (ps ++ [nought, nought])) := by
                    unfold Hid OwnS strsV
                    rw [List.map_append, List.length_append]
                    exact hown'
                  have HB7 : Hid (Below (w.heap.size + 2) (w6.alloc (.cells #[.string ⟨#[48]⟩, .string ⟨#[48]⟩] 9)) w7) := Below.refl_grown (Nat.le_trans HWC.out HZS.out) hgrow (fun k hk => by
                    have hk' : some g = some k := hk
                    cases hk'
                    exact hgw)
                  have HP7 := hidM (HPA.out.grow HB7.out)
                  clear hown' hgrow HB7 HPA HOWA HZS HOW6 HP6 c5 HST
                  obtain ⟨a7, c7, rfl, hsh7⟩ := HO7.out.shape
                  obtain ⟨g7, rfl, hg71, hg72, hst7⟩ := hsh7 (by simp)
                  have hln : (ps ++ [nought, nought]).length = ps.length + 2 := by simp
                  have HS7 := hidM hst7
                  have HJN : Hid (((3 - ps.length : Nat) : Int) = j) := by unfold Hid; rw [← HJ.out]; omega
                  generalize ps ++ [nought, nought] = L at *
                  have n0 : 0 < L.length := by omega
                  have n1 : 1 < L.length := by omega
                  have n2 : 2 < L.length := by omega
                  have hx0 : L.getD 0 nought = L[0] := by rw [List.getD_eq_getElem?_getD, List.getElem?_eq_getElem n0]; rfl
                  have hx1 : L.getD 1 nought = L[1] := by rw [List.getD_eq_getElem?_getD, List.getElem?_eq_getElem n1]; rfl
                  have hx2 : L.getD 2 nought = L[2] := by rw [List.getD_eq_getElem?_getD, List.getElem?_eq_getElem n2]; rfl
                  rw [hx0, hx1, hx2] at HRF
                  have HD : Hid (∀ V, StrsAt V g7 L → V.cell? ⟨g7, 0, none⟩ = some (.string L[0]) ∧ V.cell? ⟨g7, 1, none⟩ = some (.string L[1]) ∧ V.cell? ⟨g7, 2, none⟩ = some (.string L[2])) := fun V h => ⟨h 0 n0, h 1 n1, h 2 n2⟩
                  have m0 : (0 : Int) < (L.length : Int) := by omega
                  have m1 : (1 : Int) < (L.length : Int) := by omega
                  have m2 : (2 : Int) < (L.length : Int) := by omega
                  generalize L[0] = x0 at *
                  generalize L[1] = x1 at *
                  generalize L[2] = x2 at *
                  have hne : g7 ≠ w.heap.size + 1 := by have := HWC.out; omega
                  clear hx0 hx1 hx2 hln hst7 hsh7 HO7 n0 n1 n2
                  have d0 := (HD.out _ HS7.out).1
                  have c0 : w7.cell? ⟨w.heap.size + 1, 0, none⟩ = some (.string ⟨#[]⟩) := HP7.out.cell 0
                  have f0 := HP7.out.free 0
                  have HP8 : Hid (PR w #[.string x0, .string ⟨#[]⟩, .string ⟨#[]⟩, .string pr, .string bu, .int .i64 j] (w7.setCell ⟨w.heap.size + 1, 0, none⟩ (.string x0))) := HP7.out.set 0 (.string x0)
                  have HS8 := hidM (HS7.out.set hne 0 (.string x0))
                  go_upto_region 31 with fail
                  generalize w7.setCell ⟨w.heap.size + 1, 0, none⟩ (.string x0) = w8 at *
                  clear d0 c0 f0 HP7 HS7
                  have d1 := (HD.out _ HS8.out).2.1
                  have c1 : w8.cell? ⟨w.heap.size + 1, 1, none⟩ = some (.string ⟨#[]⟩) := HP8.out.cell 1
                  have f1 := HP8.out.free 1
                  have HP9 : Hid (PR w #[.string x0, .string x1, .string ⟨#[]⟩, .string pr, .string bu, .int .i64 j] (w8.setCell ⟨w.heap.size + 1, 1, none⟩ (.string x1))) := HP8.out.set 1 (.string x1)
                  have HS9 := hidM (HS8.out.set hne 1 (.string x1))
                  go_upto_region 32 with fail
                  generalize w8.setCell ⟨w.heap.size + 1, 1, none⟩ (.string x1) = w9 at *
                  clear d1 c1 f1 HP8 HS8
                  have d2 := (HD.out _ HS9.out).2.2
                  have c2 : w9.cell? ⟨w.heap.size + 1, 2, none⟩ = some (.string ⟨#[]⟩) := HP9.out.cell 2
                  have f2 := HP9.out.free 2
                  have HPF : Hid (PR w #[.string x0, .string x1, .string x2, .string pr, .string bu, .int .i64 j] (w9.setCell ⟨w.heap.size + 1, 2, none⟩ (.string x2))) := HP9.out.set 2 (.string x2)
                  go_upto_region 33 with fail
                  generalize w9.setCell ⟨w.heap.size + 1, 2, none⟩ (.string x2) = wf at *
                  clear d2 c2 f2 HP9 HS9 HD
                  have e0 : wf.cell? ⟨w.heap.size + 1, 0, none⟩ = some (.string x0) := HPF.out.cell 0
                  have e1 : wf.cell? ⟨w.heap.size + 1, 1, none⟩ = some (.string x1) := HPF.out.cell 1
                  have e2 : wf.cell? ⟨w.heap.size + 1, 2, none⟩ = some (.string x2) := HPF.out.cell 2
                  have e3 : wf.cell? ⟨w.heap.size + 1, 3, none⟩ = some (.string pr) := HPF.out.cell 3
                  have e4 : wf.cell? ⟨w.heap.size + 1, 4, none⟩ = some (.string bu) := HPF.out.cell 4
                  have e5 : wf.cell? ⟨w.heap.size + 1, 5, none⟩ = some (.int .i64 j) := HPF.out.cell 5
                  go_wp2_with (refine wpList_store_row rfl 37 (.tmp 2) (.tmp 107) rfl w.heap.size #[.string x0, .string x1, .string x2, .string pr, .string bu, .int .i64 j] rfl rfl 37 #[.string ⟨#[]⟩, .string ⟨#[]⟩, .string ⟨#[]⟩, .string ⟨#[]⟩, .string ⟨#[]⟩, .int .i64 0] HPF.out.z size26 rfl (ones23v _ _ _ _ _ _) ?_)
                  exact bodyPost_ret (results_box rfl _ _ w.heap.size #[.string x0, .string x1, .string x2, .string pr, .string bu, .int .i64 j] rfl (run_loadVar_row _ w.heap.size 37 37 #[.string x0, .string x1, .string x2, .string pr, .string bu, .int .i64 j] (0, 0) _ (setRow_heap _ _ _ _ 37 _ HPF.out.z) Tryz.underlying37 rfl size26)) rfl ⟨by rw [HRF.out, ← HJN.out]; rfl, below_setRow HPF.out.bel (Nat.le_refl _)⟩
      · have k1 : decide (j < (0 : Int)) = true := decide_eq_true (by have := HJ.out; omega)
        have HN : Hid (parseR s = none) := by unfold Hid; rw [HR2.out]; simp; omega
        go_wp2_with (refine wpList_store_row rfl 37 (.tmp 2) (.tmp 80) rfl w.heap.size #[.string ⟨#[]⟩, .string ⟨#[]⟩, .string ⟨#[]⟩, .string ⟨#[]⟩, .string ⟨#[]⟩, .int .i64 0] rfl rfl 37 #[.string ⟨#[]⟩, .string ⟨#[]⟩, .string ⟨#[]⟩, .string ⟨#[]⟩, .string ⟨#[]⟩, .int .i64 0] HP6.out.z size26 rfl ones23 ?_)
        go_wp2
        exact bodyPost_ret (results_box rfl _ _ w.heap.size #[.string ⟨#[]⟩, .string ⟨#[]⟩, .string ⟨#[]⟩, .string ⟨#[]⟩, .string ⟨#[]⟩, .int .i64 0] rfl (run_loadVar_row _ w.heap.size 37 37 #[.string ⟨#[]⟩, .string ⟨#[]⟩, .string ⟨#[]⟩, .string ⟨#[]⟩, .string ⟨#[]⟩, .int .i64 0] (0, 0) _ (setRow_heap _ _ _ _ 37 _ HP6.out.z) Tryz.underlying37 rfl size26)) rfl ⟨by rw [HN.out]; rfl, below_setRow HP6.out.bel (Nat.le_refl _)⟩
end Go.Proofs.YtmhjdahmmdfbcaaGreatDoor
namespace Go.Proofs.YtmhjdahmmdfbcaaGreatDoor
open Go.RowKit
theorem rparse_any (s : ByteArray) (w : World) (hm : s.size ≤ 9223372036854775807) : Calls Tryz.prog 14 #[.string s] w fun x w' => x = .returned (.tuple #[.agg #[.string ((parseR s).getD noVer).major, .string ((parseR s).getD noVer).minor, .string ((parseR s).getD noVer).patch, .string ((parseR s).getD noVer).pre, .string ((parseR s).getD noVer).build, .int .i64 (((parseR s).getD noVer).short : Int)], .bool (parseR s).isSome]) ∧ Below w.heap.size w w' := by
  rw [← verV_eq]
  by_cases h : s.size < 2 ∨ 100 < s.size ∨ s.data.toList.getD 0 0 ≠ 118
  · exact rparse_head s w hm h
  · refine rparse_good s w ?_ ?_ ?_
    · exact Nat.le_of_not_lt fun h1 => h (Or.inl h1)
    · exact Nat.le_of_not_lt fun h1 => h (Or.inr (Or.inl h1))
    · exact Classical.byContradiction fun h1 => h (Or.inr (Or.inr h1))
end Go.Proofs.YtmhjdahmmdfbcaaGreatDoor
