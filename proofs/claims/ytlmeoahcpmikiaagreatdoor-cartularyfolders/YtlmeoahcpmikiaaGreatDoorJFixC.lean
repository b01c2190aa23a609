/-
  Taken over from another program: FixB.
  Taken over from another program: FixC.
-/
import Derived.Test.YtlmeoahcpmikiaaGreatDoorJInfR
import Derived.Test.YtlmeoahcpmikiaaGreatDoorJInfX
import Derived.Laws.Rows
namespace Go.Proofs.YtlmeoahcpmikiaaGreatDoor
open Go.RowKit
theorem fixLit_fit : Fit fixLit.ln fixLit.L := .inl (by decide +kernel)
theorem fixDist_fit : Fit fixDist.ln fixDist.L := .inl (by decide +kernel)
theorem size50 : (Tryz.prog.info? 234).map (·.size) = some 2 := by kernel_rfl
def fixList (k : Nat) : List Nat := (List.range k).map fixL
theorem fixList_next (k : Nat) : fixList (k + 1) = fixList k ++ [fixL k] := by unfold fixList; rw [List.range_succ, List.map_append]; rfl
theorem fixList_len (k : Nat) : (fixList k).length = k := by unfold fixList; simp
theorem fixList_ints {w : World} {B : Nat} {v : Value} (h : OwnN w B v (fixList 288)) : ∃ a c, v = .slice a 288 c ∧ IntsAt w a fixLit.L .i64 (fun i => (fixL i : Int)) := by
  obtain ⟨a, c, hv, hs⟩ := h.shape
  rw [fixList_len] at hv
  obtain ⟨g, rfl, _,_, hc⟩ := hs (by rw [fixList_len]; decide)
  refine ⟨_,_, hv, by unfold maxLen; decide, fun i => ?_, .inr ⟨g, 0, rfl, fun i hi => ?_⟩⟩
  · have h9 : fixL i ≤ 9 := by
      unfold fixL
      repeat' split
      all_goals omega
    show (Lit.int .i64 (fixL i : Int)).wf = true
    exact WalkArith.wf_i64 ⟨by omega, by omega⟩
  · rw [Nat.zero_add, hc i (by rw [fixList_len]; exact hi)]
    unfold fixList
    simp
theorem fives_ints {w : World} {g : Nat} (h : Fives w g 32) : IntsAt w (some ⟨g, 0, none⟩) fixDist.L .i64 (fun _ => 5) := by
  obtain ⟨cur, hc, hl, h5⟩ := h
  refine ⟨by unfold maxLen; decide, fun i => rfl, .inr ⟨g, 0, rfl, fun i hi => ?_⟩⟩
  rw [Nat.zero_add, cell_of_row w g i _ 3 (0, 0) hc, List.getElem?_toArray]
  exact h5 i hi
theorem TabS.same {w w' : World} {b L B E : Nat} {ln : Nat → Nat} (h : TabS w b ln L B E) (hk : ∀ k, B ≤ k → k < E → w'.heap[k]? = w.heap[k]?) : TabS w' b ln L B E := by
  obtain ⟨g, gs, gc, gg, M, hg, h2, h3, h4, h5, h6, q1, q2, q3, q4⟩ := h
  obtain ⟨hs, hs1, hs2⟩ := hg.sym
  obtain ⟨hc, hc1, hc2⟩ := hg.cod
  obtain ⟨hv, hv1, hv2⟩ := hg.giv
  exact ⟨g, gs, gc, gg, M, ⟨hg.tab.same (hk b q1.1 q1.2), ⟨hs, hs1.same (hk gs q2.1 q2.2), hs2⟩, ⟨hc, hc1.same (hk gc q3.1 q3.2), hc2⟩, ⟨hv, hv1.same (hk gg q4.1 q4.2), hv2⟩⟩, h2, h3, h4, h5, h6, q1, q2, q3, q4⟩
theorem TabS.lower {w : World} {b L B B' E : Nat} {ln : Nat → Nat} (h : TabS w b ln L B E) (hB : B' ≤ B) : TabS w b ln L B' E := by
  obtain ⟨g, gs, gc, gg, M, hg, h2, h3, h4, h5, h6, q1, q2, q3, q4⟩ := h
  exact ⟨g, gs, gc, gg, M, hg, h2, h3, h4, h5, h6, ⟨by omega, q1.2⟩, ⟨by omega, q2.2⟩, ⟨by omega, q3.2⟩, ⟨by omega, q4.2⟩⟩
/-- two cells -/
def Two (w : World) (b : Nat) (v0 v1 : Value) : Prop := w.heap[b]? = some (.cells #[v0, v1] 234 (0, 0))
theorem Two.c0 {w : World} {b : Nat} {v0 v1 : Value} (h : Two w b v0 v1) : w.cell? ⟨b, 0, none⟩ = some v0 := by rw [cell_of_row w b _ _ 234 (0, 0) h]; rfl
theorem Two.c1 {w : World} {b : Nat} {v0 v1 : Value} (h : Two w b v0 v1) : w.cell? ⟨b, 1, none⟩ = some v1 := by rw [cell_of_row w b _ _ 234 (0, 0) h]; rfl
theorem Two.fz {w : World} {b : Nat} {v0 v1 : Value} (h : Two w b v0 v1) (j : Nat) : w.frozen? ⟨b, j, none⟩ = false := frozen_of_row w b j _ 234 h
theorem Two.both {w : World} {b : Nat} {v0 v1 : Value} (h : Two w b v0 v1) (u0 u1 : Value) : Two ((w.setCell ⟨b, 0, none⟩ u0).setCell ⟨b, 1, none⟩ u1) b u0 u1 := by
  have h1 : Two (w.setCell ⟨b, 0, none⟩ u0) b u0 v1 := by unfold Two; rw [heap_setCell_same w b _ _ 234 _ h]; rfl
  unfold Two
  rw [heap_setCell_same _ b _ _ 234 _ h1]
  rfl
/-- what fixedCodes answers: tables of both sets -/
def FixPost (w : World) (e : Ending) (w' : World) : Prop :=
  ∃ t1 t2 E1 E2, e = .returned (.agg #[.pointer (some ⟨t1, 0, none⟩), .pointer (some ⟨t2, 0, none⟩)]) ∧ TabS w' t1 fixLit.ln fixLit.L w.heap.size E1 ∧ E1 ≤ w'.heap.size ∧ TabS w' t2 fixDist.ln fixDist.L w.heap.size E2 ∧ E2 ≤ w'.heap.size
set_option maxHeartbeats 2000000 in
set_option maxRecDepth 100000 in
theorem fixedCodes_any (w : World) : Calls Tryz.prog 171 #[] w fun e w' => FixPost w e w' ∧ Below w.heap.size w w' := by
  obtain ⟨i0, hi, hz0, hz1, hz2⟩ := info3_parts
  have HBX : Hid ((w.alloc (.cells #[.pointer none, .pointer none] 234)).heap[w.heap.size]? = some (.cells #[.pointer none, .pointer none] 234 (0, 0))) := heap_alloc_new _ _
  have HBA : Hid (Below w.heap.size w (w.alloc (.cells #[.pointer none, .pointer none] 234))) := (Below.refl _ _).alloc (Nat.le_refl _) _
  have HSA : Hid (w.heap.size < (w.alloc (.cells #[.pointer none, .pointer none] 234)).heap.size) := by unfold Hid; simp
  go_enter Tryz.func171, Tryz.ntmps171
  go_wp2
  go_loopw [1, 7] (fun v iv wr => ∃ k : Nat, k ≤ 288 ∧ iv = .int .i64 k ∧ OwnN wr (w.heap.size + 1) v (fixList k) ∧ wr.heap[w.heap.size]? = some (.cells #[.pointer none, .pointer none] 234 (0, 0)) ∧ w.heap.size < wr.heap.size ∧ Below w.heap.size w wr) (fun _ i _ => 288 - (intOf i).toNat)
  case atStart => exact ⟨0, by decide, rfl, ⟨rfl, .inl ⟨rfl, rfl⟩⟩, HBX.out, HSA.out, HBA.out⟩
  case round =>
    obtain ⟨k, hk, rfl, hown, hbox, hlt, hbel⟩ := hrel
    have HO := hidM hown
    have HBX1 := hidM hbox
    have HB := hidM hbel
    have HLT := hidM hlt
    clear hown hbox hbel HBX HBA HSA hlt
    by_cases hk2 : k < 288
    · have kk : (k : Int) < 288 := by omega
      have HNE := hidM (fixList_next k)
      have HLE := hidM (fixList_len k)
      obtain ⟨a9, c9, rfl, _⟩ := HO.out.shape
      go_wp2_with fail
      refine (fixedLength_any k wr hk2).mono ?_
      rintro _ w9 ⟨rfl, h9⟩
      rw [h9]
      clear h9 w9
      generalize fixList k = lj at *
      generalize fixL k = z at *
      have HLT2 := HLT.out
      go_wp2_with (first
        | (at_builtin; go_loud (refine wpList_append_own_at _ rfl _ _ 135 rfl (w.heap.size + 1) 3 i0 (.int .i64 0) 1 8 Tryz.underlying135 hi hz0 hz1 hz2 rfl (by decide) (.slice a9 lj.length c9) lj.length (natsV lj) rfl (World.ownsRow.alloc HO.out _) ⟨wr.heap.size, 0, none⟩ 1 1 [.int .i64 (z : Int)] ?f0 rfl ?f1 ?f2 ?f3 ?f4 ?f5 ?_)))
      try (case f0 => rfl)
      case f1 => exact World.news_of_block (heap_alloc_new _ _)
      case f2 => first | rfl | (intro u hu; simp at hu; subst hu; rfl)
      case f3 => have := HLE.out; first | (unfold maxLen; omega) | (simp [maxLen]; omega)
      case f4 => have := HLE.out; first | omega | (simp; omega)
      case f5 => first | omega | (simp; omega)
      intro v' w6 hown' hgrow _ _
      have HO6 : Hid (OwnN w6 (w.heap.size + 1) v' (lj ++ [z])) := by
        unfold Hid OwnN
        rw [natsV_app, List.length_append]
        exact hown'
      have hnb : some w.heap.size ≠ Value.ownBlock (.slice a9 lj.length c9) := fun e => by have := (World.ownsRow.lt HO.out _ e.symm).1; omega
      have HX6 : Hid (w6.heap[w.heap.size]? = some (.cells #[.pointer none, .pointer none] 234 (0, 0))) := (hgrow.block w.heap.size (by simp; omega) hnb).trans ((Below.heap_alloc wr _ w.heap.size HLT2).trans HBX1.out)
      have HB6 : Hid (Below w.heap.size w w6) := (HB.out.alloc (Nat.le_of_lt HLT2) _).grown hgrow (by simp; omega) (fun k hk => by have := (World.ownsRow.lt HO.out _ hk).1; omega)
      have HL6 : Hid (w.heap.size < w6.heap.size) := by have := hgrow.size; simp at this; unfold Hid; omega
      clear hown' hgrow
      go_wp2
      go_roundw
      case rel => exact ⟨k + 1, by omega, by go_num, by rw [HNE.out]; exact HO6.out, HX6.out, HL6.out, HB6.out⟩
      case measure => (show 288 - ((k : Int) + 1).toNat < 288 - ((k : Int)).toNat); omega
    · obtain rfl : k = 288 := by omega
      obtain ⟨a9, c9, rfl, hints⟩ := fixList_ints HO.out
      have HN := hidM (new_tab fixLit a9 c9 _ wr hints (by decide) (fun i hi => ⟨by
        show (fixL i : Int) = (fixLit.ln i : Int)
        have : fixLit.ln i = fixL i := by
          unfold fixLit fixL
          simp only
          rw [if_pos (show i < 288 from hi)]
        rw [this], fixLit_ok.short i⟩))
      have HLT2 := HLT.out
      clear hints
      go_wp2_with fail
      refine HN.out.mono ?_
      rintro _ w1 ⟨hq1, hb1⟩
      rcases hq1 with ⟨hno, _⟩ | ⟨_, t1, rfl, ht1⟩
      · exact absurd fixLit_fit hno
      have HB1 := hidM hb1
      have HT1 := hidM ht1
      have hw1 := hb1.size
      clear hb1 ht1 HN
      have h5 : (w1.alloc (.cells #[.int .i64 5] 3)).cell? ⟨w1.heap.size, 0, none⟩ = some (.int .i64 5) := by rw [cell_of_row _ _ 0 _ 3 (0, 0) (heap_alloc_new _ _)]; rfl
      have HR := hidM (repeat5_any w1.heap.size 1 (w1.alloc (.cells #[.int .i64 5] 3)) h5 (by simp))
      clear h5
      go_wp2_with fail
      refine HR.out.mono ?_
      rintro _ w2 ⟨g, rfl, hf, hb2⟩
      have HB2 : Hid (Below w1.heap.size w1 w2) := ((Below.refl _ w1).alloc (Nat.le_refl _) _).trans (hb2.mono (by simp))
      have HN2 := hidM (new_tab fixDist (some ⟨g, 0, none⟩) 32 _ w2 (fives_ints hf) (by decide) (fun i hi => ⟨by
        show (5 : Int) = (fixDist.ln i : Int)
        have : fixDist.ln i = 5 := by
          unfold fixDist
          simp only
          rw [if_pos (show i < 32 from hi)]
        rw [this]; rfl, fixDist_ok.short i⟩))
      have hw2 := HB2.out.size
      clear hb2 hf HR
      go_wp2_with fail
      refine HN2.out.mono ?_
      rintro _ w3 ⟨hq2, hb3⟩
      rcases hq2 with ⟨hno, _⟩ | ⟨_, t2, rfl, ht2⟩
      · exact absurd fixDist_fit hno
      have HB3 := hidM hb3
      have HT2 := hidM ht2
      have hw3 := hb3.size
      clear hb3 ht2 HN2
      have HTW : Hid (Two w3 w.heap.size (.pointer none) (.pointer none)) := ((HB3.out.block _ (by omega)).trans ((HB2.out.block _ (by omega)).trans (HB1.out.block _ HLT2))).trans HBX1.out
      have c0 := HTW.out.c0
      have c1 := HTW.out.c1
      have f0 := HTW.out.fz 0
      have f1 := HTW.out.fz 1
      have HTF := hidM (HTW.out.both (.pointer (some ⟨t1, 0, none⟩)) (.pointer (some ⟨t2, 0, none⟩)))
      have HSAME : Hid (∀ u0 u1 k, k ≠ w.heap.size → ((w3.setCell ⟨w.heap.size, 0, none⟩ u0).setCell ⟨w.heap.size, 1, none⟩ u1).heap[k]? = w3.heap[k]?) := fun u0 u1 k hk =>
        (Below.heap_setCell _ ⟨w.heap.size, 1, none⟩ u1 k hk).trans (Below.heap_setCell w3 ⟨w.heap.size, 0, none⟩ u0 k hk)
      have HSZ : Hid (∀ u0 u1, ((w3.setCell ⟨w.heap.size, 0, none⟩ u0).setCell ⟨w.heap.size, 1, none⟩ u1).heap.size = w3.heap.size) := fun u0 u1 => by simp
      have HB03 : Hid (Below w.heap.size w w3) := HB.out.trans ((HB1.out.mono (by omega)).trans ((HB2.out.mono (by omega)).trans (HB3.out.mono (by omega))))
      go_wp2_with fail
      refine bodyPost_ret (results_cell_row rfl _ _ w.heap.size 234 #[.pointer (some ⟨t1, 0, none⟩), .pointer (some ⟨t2, 0, none⟩)] (0, 0) _ rfl HTF.out Tryz.underlying234 rfl size50) rfl ?_
      refine ⟨⟨t1, t2, w1.heap.size, w3.heap.size, rfl, ?_, ?_, ?_, ?_⟩, ?_⟩
      · refine (HT1.out.same fun k h1 h2 => ?_).lower (by omega)
        rw [HSAME.out _ _ k (by omega), HB3.out.block k (by omega), HB2.out.block k (by omega)]
      · rw [HSZ.out]; omega
      · refine (HT2.out.same fun k h1 h2 => ?_).lower (by omega)
        rw [HSAME.out _ _ k (by omega)]
      · rw [HSZ.out]; omega
      · exact below_set (below_set HB03.out (Nat.le_refl _)) (Nat.le_refl _)
end Go.Proofs.YtlmeoahcpmikiaaGreatDoor
namespace Go.Proofs.YtlmeoahcpmikiaaGreatDoor
open Go.RowKit
/-- the fixed sets of a stream: not made yet, or made -/
def FixedQ (w : World) (B : Nat) (p3 p4 : Value) : Prop := (p3 = .pointer none ∧ p4 = .pointer none) ∨ (TabQ w B p3 fixLit ∧ TabQ w B p4 fixDist)
theorem FixedQ.kept {w w' : World} {B : Nat} {p3 p4 : Value} (h : FixedQ w B p3 p4) (hk : Kept B w w') : FixedQ w' B p3 p4 := by
  rcases h with h | ⟨h1, h2⟩
  · exact .inl h
  · exact .inr ⟨h1.kept hk, h2.kept hk⟩
theorem SBox.set6 {w : World} {db rb most : Nat} {v p1 p2 p3 p4 : Value} {last : Bool} (h : SBox w db rb v most last p1 p2 p3 p4) (u : Value) : SBox (w.setCell ⟨db, 6, none⟩ u) db rb v most last p1 p2 u p4 := by unfold SBox; rw [heap_setCell_same w db _ _ 338 _ h]; rfl
theorem SBox.set7 {w : World} {db rb most : Nat} {v p1 p2 p3 p4 : Value} {last : Bool} (h : SBox w db rb v most last p1 p2 p3 p4) (u : Value) : SBox (w.setCell ⟨db, 7, none⟩ u) db rb v most last p1 p2 p3 u := by unfold SBox; rw [heap_setCell_same w db _ _ 338 _ h]; rfl
theorem StS.tab6 {w : World} {B : Nat} {X : ByteArray} {t most : Nat} {last : Bool} {v : Value} {o : List UInt8} {p1 p2 p3 p4 : Value} (h : StS w B X t most last v o p1 p2 p3 p4) (u : Value) : StS (w.setCell ⟨B + 1, 6, none⟩ u) B X t most last v o p1 p2 u p4 :=
  ⟨h.rd.same (Below.heap_setCell w ⟨B + 1, 6, none⟩ u B (by show B ≠ B + 1; omega)), h.box.set6 u, ownsRow_setCell_below h.own (show B + 1 < B + 2 by omega) u⟩
theorem StS.tab7 {w : World} {B : Nat} {X : ByteArray} {t most : Nat} {last : Bool} {v : Value} {o : List UInt8} {p1 p2 p3 p4 : Value} (h : StS w B X t most last v o p1 p2 p3 p4) (u : Value) : StS (w.setCell ⟨B + 1, 7, none⟩ u) B X t most last v o p1 p2 p3 u :=
  ⟨h.rd.same (Below.heap_setCell w ⟨B + 1, 7, none⟩ u B (by show B ≠ B + 1; omega)), h.box.set7 u, ownsRow_setCell_below h.own (show B + 1 < B + 2 by omega) u⟩
/-- what useFixed leaves -/
def UseFPost (B : Nat) (X : ByteArray) (t most : Nat) (last : Bool) (v : Value) (o : List UInt8) (w w' : World) : Prop :=
  ∃ q1 q2, StS w' B X t most last v o q1 q2 q1 q2 ∧ TabQ w' B q1 fixLit ∧ TabQ w' B q2 fixDist ∧ Kept B w w'
set_option maxHeartbeats 2000000 in
set_option maxRecDepth 100000 in
theorem useFixed_any (B : Nat) (X : ByteArray) (t most : Nat) (last : Bool) (v : Value) (o : List UInt8) (p1 p2 p3 p4 : Value) (w : World) (hS : StS w B X t most last v o p1 p2 p3 p4) (hF : FixedQ w B p3 p4) :
    Calls Tryz.prog 285 #[.pointer (some ⟨B + 1, 0, none⟩)] w fun e w' => e = .returned (.tuple #[]) ∧ UseFPost B X t most last v o w w' := by
  have HS := hidM hS
  have hBs := hS.box.lt
  have c6 := hS.box.c6
  go_enter Tryz.func285, Tryz.ntmps285
  rcases hF with ⟨rfl, rfl⟩ | ⟨h3, h4⟩
  · clear hS
    go_wp2_with fail
    refine (fixedCodes_any w).mono ?_
    rintro _ w1 ⟨⟨t1, t2, E1, E2, rfl, hT1, hE1, hT2, hE2⟩, hb⟩
    have HS1 := hidM (HS.out.later hb)
    have HK1 : Hid (Kept B w w1) := kept_of_below hb (by omega)
    have HT1 : Hid (TabQ w1 B (.pointer (some ⟨t1, 0, none⟩)) fixLit) := ⟨t1, E1, rfl, hT1.lower (by omega), hE1⟩
    have HT2 : Hid (TabQ w1 B (.pointer (some ⟨t2, 0, none⟩)) fixDist) := ⟨t2, E2, rfl, hT2.lower (by omega), hE2⟩
    clear hT1 hT2 hE1 hE2 hb c6
    have d6 := HS1.out.box.c6
    have d7 := HS1.out.box.c7
    have f6 := HS1.out.box.fz 6
    have f7 := HS1.out.box.fz 7
    have d4 := HS1.out.box.c4
    have d5 := HS1.out.box.c5
    have f4 := HS1.out.box.fz 4
    have f5 := HS1.out.box.fz 5
    have HS2 := hidM ((((HS1.out.tab6 (.pointer (some ⟨t1, 0, none⟩))).tab7 (.pointer (some ⟨t2, 0, none⟩))).tab4 (.pointer (some ⟨t1, 0, none⟩))).tab5 (.pointer (some ⟨t2, 0, none⟩)))
    have HK2 : Hid (Kept B w1 ((((w1.setCell ⟨B + 1, 6, none⟩ (.pointer (some ⟨t1, 0, none⟩))).setCell ⟨B + 1, 7, none⟩ (.pointer (some ⟨t2, 0, none⟩))).setCell ⟨B + 1, 4, none⟩ (.pointer (some ⟨t1, 0, none⟩))).setCell ⟨B + 1, 5, none⟩ (.pointer (some ⟨t2, 0, none⟩)))) := (((kept_set _).trans (kept_set _)).trans (kept_set _)).trans (kept_set _)
    go_wp2_with fail
    refine bodyPost_end (results_none rfl _ _ _) rfl ?_
    exact ⟨rfl, _,_, HS2.out, HT1.out.kept HK2.out, HT2.out.kept HK2.out, HK1.out.trans HK2.out⟩
  · obtain ⟨t1, E1, rfl, hT1, hE1⟩ := h3
    obtain ⟨t2, E2, rfl, hT2, hE2⟩ := h4
    have HT1 : Hid (TabQ w B (.pointer (some ⟨t1, 0, none⟩)) fixLit) := ⟨t1, E1, rfl, hT1, hE1⟩
    have HT2 : Hid (TabQ w B (.pointer (some ⟨t2, 0, none⟩)) fixDist) := ⟨t2, E2, rfl, hT2, hE2⟩
    clear hT1 hT2 hE1 hE2 hS
    have c7 := HS.out.box.c7
    have c4 := HS.out.box.c4
    have c5 := HS.out.box.c5
    have f4 := HS.out.box.fz 4
    have f5 := HS.out.box.fz 5
    have HS2 := hidM ((HS.out.tab4 (.pointer (some ⟨t1, 0, none⟩))).tab5 (.pointer (some ⟨t2, 0, none⟩)))
    have HK2 : Hid (Kept B w ((w.setCell ⟨B + 1, 4, none⟩ (.pointer (some ⟨t1, 0, none⟩))).setCell ⟨B + 1, 5, none⟩ (.pointer (some ⟨t2, 0, none⟩)))) := (kept_set _).trans (kept_set _)
    go_wp2_with fail
    refine bodyPost_end (results_none rfl _ _ _) rfl ?_
    exact ⟨rfl, _,_, HS2.out, HT1.out.kept HK2.out, HT2.out.kept HK2.out, HK2.out⟩
end Go.Proofs.YtlmeoahcpmikiaaGreatDoor
