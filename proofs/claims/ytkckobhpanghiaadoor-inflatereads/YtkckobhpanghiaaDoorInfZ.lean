/-
  Walks of inflate: a dynamic block's sets are taken.
-/
import Derived.Test.YtkckobhpanghiaaDoorInfY
namespace Go.Proofs.YtkckobhpanghiaaDoor
open Go.RowKit

theorem IntsAt.setOther {w : World} {a : Option Addr} {len : Nat} {k : IntKind} {f : Nat → Int} (h : IntsAt w a len k f) (p : Addr) (u : Value) (hne : ∀ bb o, a = some ⟨bb, o, none⟩ → bb ≠ p.block) : IntsAt (w.setCell p u) a len k f := by
  refine ⟨h.1, h.2.1, ?_⟩
  rcases h.2.2 with h0 | ⟨b, off, ha, hc⟩
  · exact .inl h0
  · exact .inr ⟨b, off, ha, fun i hi => (World.cell?_setCell_other _ _ _ _ (fun e => hne b off ha (by rw [e]))).trans (hc i hi)⟩
/-- what useLengths answers -/
def UsePost (B : Nat) (X : ByteArray) (t most : Nat) (last : Bool) (v : Value) (o : List UInt8) (p3 p4 : Value) (cl cd : Cd) (w : World) (e : Ending) (w' : World) : Prop :=
  (¬ (cl.ln 256 ≠ 0 ∧ Fit cl.ln cl.L ∧ Fit cd.ln cd.L) ∧ e = .returned (.int .i64 3) ∧ Below B w w') ∨
  ((cl.ln 256 ≠ 0 ∧ Fit cl.ln cl.L ∧ Fit cd.ln cd.L) ∧ e = .returned (.int .i64 0) ∧ ∃ q1 q2, StS w' B X t most last v o q1 q2 p3 p4 ∧ TabQ w' B q1 cl ∧ TabQ w' B q2 cd ∧ Kept B w w')
theorem StS.later {w w' : World} {B : Nat} {X : ByteArray} {t most : Nat} {last : Bool} {v : Value} {o : List UInt8} {p1 p2 p3 p4 : Value} (h : StS w B X t most last v o p1 p2 p3 p4) (hb : Below w.heap.size w w') : StS w' B X t most last v o p1 p2 p3 p4 :=
  ⟨h.rd.below hb, h.box.same (hb.block _ h.box.lt), h.own.same fun g hg => hb.block g (h.own.ge hg).2⟩
theorem StS.tab4 {w : World} {B : Nat} {X : ByteArray} {t most : Nat} {last : Bool} {v : Value} {o : List UInt8} {p1 p2 p3 p4 : Value} (h : StS w B X t most last v o p1 p2 p3 p4) (u : Value) : StS (w.setCell ⟨B + 1, 4, none⟩ u) B X t most last v o u p2 p3 p4 :=
  ⟨h.rd.same (Below.heap_setCell w ⟨B + 1, 4, none⟩ u B (by show B ≠ B + 1; omega)), h.box.set4 u, ownsRow_setCell_below h.own (show B + 1 < B + 2 by omega) u⟩
theorem StS.tab5 {w : World} {B : Nat} {X : ByteArray} {t most : Nat} {last : Bool} {v : Value} {o : List UInt8} {p1 p2 p3 p4 : Value} (h : StS w B X t most last v o p1 p2 p3 p4) (u : Value) : StS (w.setCell ⟨B + 1, 5, none⟩ u) B X t most last v o p1 u p3 p4 :=
  ⟨h.rd.same (Below.heap_setCell w ⟨B + 1, 5, none⟩ u B (by show B ≠ B + 1; omega)), h.box.set5 u, ownsRow_setCell_below h.own (show B + 1 < B + 2 by omega) u⟩
theorem kept_set {B j : Nat} {w : World} (u : Value) : Kept B w (w.setCell ⟨B + 1, j, none⟩ u) :=
  ((Only.refl B w).two (b := B + 1)).set u |>.kept
theorem tabQ_of {w w' : World} {B tb : Nat} {c : Cd} (h : TabS w' tb c.ln c.L w.heap.size w'.heap.size) (hB : B + 2 ≤ w.heap.size) : TabQ w' B (.pointer (some ⟨tb, 0, none⟩)) c := by
  obtain ⟨g, gs, gc, gg, M, h1, h2, h3, h4, h5, h6, q1, q2, q3, q4⟩ := h
  exact ⟨tb, w'.heap.size, rfl, ⟨g, gs, gc, gg, M, h1, h2, h3, h4, h5, h6, ⟨by omega, q1.2⟩, ⟨by omega, q2.2⟩, ⟨by omega, q3.2⟩, ⟨by omega, q4.2⟩⟩, Nat.le_refl _⟩
set_option maxHeartbeats 2000000 in
set_option maxRecDepth 100000 in
theorem useLengths_any (B : Nat) (X : ByteArray) (t most : Nat) (last : Bool) (v : Value) (o : List UInt8) (p1 p2 p3 p4 : Value) (cl cd : Cd) (a1 a2 : Option Addr) (c1 c2 : Nat) (w : World) (hS : StS w B X t most last v o p1 p2 p3 p4)
    (hf1 : IntsAt w a1 cl.L .i64 (fun i => (cl.ln i : Int))) (hf2 : IntsAt w a2 cd.L .i64 (fun i => (cd.ln i : Int))) (h257 : 257 ≤ cl.L) (hl1 : cl.L ≤ 320) (hl2 : cd.L ≤ 320) (h15 : ∀ i, cl.ln i ≤ 15) (h15' : ∀ i, cd.ln i ≤ 15) (hne : ∀ bb oo, a2 = some ⟨bb, oo, none⟩ → bb ≠ B + 1) :
    Calls Tryd.prog 81 #[.pointer (some ⟨B + 1, 0, none⟩), .slice a1 cl.L c1, .slice a2 cd.L c2] w fun e w' => UsePost B X t most last v o p3 p4 cl cd w e w' := by
  have HS := hidM hS
  have hBs : B + 1 < w.heap.size := hS.box.lt
  obtain ⟨b1, off1, rfl, cc⟩ := hf1.get 256 (by omega)
  have kk : (256 : Int) < (cl.L : Int) := by omega
  have HN1 := hidM (new_tab cl (some ⟨b1, off1, none⟩) c1 _ w hf1 hl1 (fun i _ => ⟨rfl, h15 i⟩))
  have HF2 := hidM hf2
  clear hS hf1 hf2
  go_enter Tryd.func81, Tryd.ntmps81
  obtain ⟨z, hz⟩ : ∃ z, z = cl.ln 256 := ⟨_, rfl⟩
  have HZ := hidM hz
  rw [← hz] at cc
  clear hz
  by_cases hz0 : z = 0
  · have e0 : ((z : Int) == 0) = true := by simp; omega
    have HNO : Hid (¬ (cl.ln 256 ≠ 0 ∧ Fit cl.ln cl.L ∧ Fit cd.ln cd.L)) := fun h => h.1 (by rw [← HZ.out]; exact hz0)
    clear hz0
    go_wp2
    go_ret
    exact .inl ⟨HNO.out, rfl, Below.refl _ _⟩
  · have e0 : ((z : Int) == 0) = false := by simp; omega
    have HZ0 : Hid (cl.ln 256 ≠ 0) := by unfold Hid; rw [← HZ.out]; exact hz0
    clear hz0 HZ
    go_wp2_with fail
    refine HN1.out.mono ?_
    rintro _ w1 ⟨hq1, hb1⟩
    have HB1 := hidM hb1
    have HS1 := hidM (HS.out.later hb1)
    have HF21 := hidM (HF2.out.below hb1)
    have k4 := HS1.out.box.c4
    have f4 := HS1.out.box.fz 4
    clear hb1 HN1
    rcases hq1 with ⟨hno1, rfl⟩ | ⟨hfit1, tb1, rfl, ht1⟩
    · have HS2 := hidM (HS1.out.tab4 (.pointer none))
      have HK2 : Hid (Kept B w (w1.setCell ⟨B + 1, 4, none⟩ (.pointer none))) := (kept_of_below HB1.out (by omega)).trans (kept_set _)
      have HK21 : Hid (Kept B w1 (w1.setCell ⟨B + 1, 4, none⟩ (.pointer none))) := kept_set _
      have HF22 := hidM (HF21.out.setOther ⟨B + 1, 4, none⟩ (.pointer none) hne)
      have HSZ2 : Hid (B + 2 ≤ (w1.setCell ⟨B + 1, 4, none⟩ (.pointer none)).heap.size) := by have := HS2.out.box.lt; unfold Hid; omega
      go_wp2_with fail
      generalize w1.setCell ⟨B + 1, 4, none⟩ (.pointer none) = w2 at *
      refine (new_tab cd a2 c2 _ w2 HF22.out hl2 (fun i _ => ⟨rfl, h15' i⟩)).mono ?_
      rintro _ w4 ⟨hq2, hb4⟩
      have HS4 := hidM (HS2.out.later hb4)
      have HK4 : Hid (Kept B w w4) := HK2.out.trans (kept_of_below hb4 (by have := HSZ2.out; omega))
      have HK41 : Hid (Kept B w1 w4) := HK21.out.trans (kept_of_below hb4 (by have := HSZ2.out; omega))
      clear hb4 k4 f4
      rcases hq2 with ⟨hno2, rfl⟩ | ⟨hfit2, tb2, rfl, ht2⟩
      · have HS5 := hidM (HS4.out.tab5 (.pointer none))
        have HK5 : Hid (Kept B w (w4.setCell ⟨B + 1, 5, none⟩ (.pointer none))) := HK4.out.trans (kept_set _)
        have HNO : Hid (¬ (cl.ln 256 ≠ 0 ∧ Fit cl.ln cl.L ∧ Fit cd.ln cd.L)) := fun h => hno1 h.2.1
        have k5 := HS4.out.box.c5
        have f5 := HS4.out.box.fz 5
        go_wp2
        go_ret
        exact .inl ⟨HNO.out, rfl, HK5.out.below⟩
      · have HS5 := hidM (HS4.out.tab5 (.pointer (some ⟨tb2, 0, none⟩)))
        have HK5 : Hid (Kept B w (w4.setCell ⟨B + 1, 5, none⟩ (.pointer (some ⟨tb2, 0, none⟩)))) := HK4.out.trans (kept_set _)
        have HNO : Hid (¬ (cl.ln 256 ≠ 0 ∧ Fit cl.ln cl.L ∧ Fit cd.ln cd.L)) := fun h => hno1 h.2.1
        clear ht2
        have k5 := HS4.out.box.c5
        have f5 := HS4.out.box.fz 5
        go_wp2
        go_ret
        exact .inl ⟨HNO.out, rfl, HK5.out.below⟩
    · have HT1 : Hid (TabQ w1 B (.pointer (some ⟨tb1, 0, none⟩)) cl) := tabQ_of ht1 (by omega)
      clear ht1
      have HS2 := hidM (HS1.out.tab4 (.pointer (some ⟨tb1, 0, none⟩)))
      have HK2 : Hid (Kept B w (w1.setCell ⟨B + 1, 4, none⟩ (.pointer (some ⟨tb1, 0, none⟩)))) := (kept_of_below HB1.out (by omega)).trans (kept_set _)
      have HK21 : Hid (Kept B w1 (w1.setCell ⟨B + 1, 4, none⟩ (.pointer (some ⟨tb1, 0, none⟩)))) := kept_set _
      have HF22 := hidM (HF21.out.setOther ⟨B + 1, 4, none⟩ (.pointer (some ⟨tb1, 0, none⟩)) hne)
      have HSZ2 : Hid (B + 2 ≤ (w1.setCell ⟨B + 1, 4, none⟩ (.pointer (some ⟨tb1, 0, none⟩))).heap.size) := by have := HS2.out.box.lt; unfold Hid; omega
      go_wp2_with fail
      generalize w1.setCell ⟨B + 1, 4, none⟩ (.pointer (some ⟨tb1, 0, none⟩)) = w2 at *
      refine (new_tab cd a2 c2 _ w2 HF22.out hl2 (fun i _ => ⟨rfl, h15' i⟩)).mono ?_
      rintro _ w4 ⟨hq2, hb4⟩
      have HS4 := hidM (HS2.out.later hb4)
      have HK4 : Hid (Kept B w w4) := HK2.out.trans (kept_of_below hb4 (by have := HSZ2.out; omega))
      have HK41 : Hid (Kept B w1 w4) := HK21.out.trans (kept_of_below hb4 (by have := HSZ2.out; omega))
      clear hb4 k4 f4
      rcases hq2 with ⟨hno2, rfl⟩ | ⟨hfit2, tb2, rfl, ht2⟩
      · have HS5 := hidM (HS4.out.tab5 (.pointer none))
        have HK5 : Hid (Kept B w (w4.setCell ⟨B + 1, 5, none⟩ (.pointer none))) := HK4.out.trans (kept_set _)
        have HNO : Hid (¬ (cl.ln 256 ≠ 0 ∧ Fit cl.ln cl.L ∧ Fit cd.ln cd.L)) := fun h => hno2 h.2.2
        have k5 := HS4.out.box.c5
        have f5 := HS4.out.box.fz 5
        go_wp2
        go_ret
        exact .inl ⟨HNO.out, rfl, HK5.out.below⟩
      · have HS5 := hidM (HS4.out.tab5 (.pointer (some ⟨tb2, 0, none⟩)))
        have HK5 : Hid (Kept B w (w4.setCell ⟨B + 1, 5, none⟩ (.pointer (some ⟨tb2, 0, none⟩)))) := HK4.out.trans (kept_set _)
        have HT5 : Hid (TabQ (w4.setCell ⟨B + 1, 5, none⟩ (.pointer (some ⟨tb2, 0, none⟩))) B (.pointer (some ⟨tb1, 0, none⟩)) cl) := (HT1.out.kept (HK41.out)).kept (kept_set _)
        have HU5 : Hid (TabQ (w4.setCell ⟨B + 1, 5, none⟩ (.pointer (some ⟨tb2, 0, none⟩))) B (.pointer (some ⟨tb2, 0, none⟩)) cd) := (tabQ_of ht2 (by have := HSZ2.out; omega)).kept (kept_set _)
        have HY : Hid (cl.ln 256 ≠ 0 ∧ Fit cl.ln cl.L ∧ Fit cd.ln cd.L) := ⟨HZ0.out, hfit1, hfit2⟩
        clear ht2
        have k5 := HS4.out.box.c5
        have f5 := HS4.out.box.fz 5
        go_wp2
        go_ret
        exact .inr ⟨HY.out, rfl, _, _, HS5.out, HT5.out, HU5.out, HK5.out⟩
end Go.Proofs.YtkckobhpanghiaaDoor
