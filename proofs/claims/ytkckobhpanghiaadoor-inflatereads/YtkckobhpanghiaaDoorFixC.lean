/-
  Walks of inflate: a fixed block's sets are taken.
-/
import Derived.Test.YtkckobhpanghiaaDoorFixB
namespace Go.Proofs.YtkckobhpanghiaaDoor
open Go.RowKit

/-- the fixed sets of a stream: not made yet, or made -/
def FixedQ (w : World) (B : Nat) (p3 p4 : Value) : Prop := (p3 = .pointer none ∧ p4 = .pointer none) ∨ (TabQ w B p3 fixLit ∧ TabQ w B p4 fixDist)
theorem FixedQ.kept {w w' : World} {B : Nat} {p3 p4 : Value} (h : FixedQ w B p3 p4) (hk : Kept B w w') : FixedQ w' B p3 p4 := by
  rcases h with h | ⟨h1, h2⟩
  · exact .inl h
  · exact .inr ⟨h1.kept hk, h2.kept hk⟩
theorem SBox.set6 {w : World} {db rb most : Nat} {v p1 p2 p3 p4 : Value} {last : Bool} (h : SBox w db rb v most last p1 p2 p3 p4) (u : Value) : SBox (w.setCell ⟨db, 6, none⟩ u) db rb v most last p1 p2 u p4 := by unfold SBox; rw [heap_setCell_same w db _ _ 52 _ h]; rfl
theorem SBox.set7 {w : World} {db rb most : Nat} {v p1 p2 p3 p4 : Value} {last : Bool} (h : SBox w db rb v most last p1 p2 p3 p4) (u : Value) : SBox (w.setCell ⟨db, 7, none⟩ u) db rb v most last p1 p2 p3 u := by unfold SBox; rw [heap_setCell_same w db _ _ 52 _ h]; rfl
theorem StS.tab6 {w : World} {B : Nat} {X : ByteArray} {t most : Nat} {last : Bool} {v : Value} {o : List UInt8} {p1 p2 p3 p4 : Value} (h : StS w B X t most last v o p1 p2 p3 p4) (u : Value) : StS (w.setCell ⟨B + 1, 6, none⟩ u) B X t most last v o p1 p2 u p4 :=
  ⟨h.rd.same (Below.heap_setCell w ⟨B + 1, 6, none⟩ u B (by show B ≠ B + 1; omega)), h.box.set6 u, ownsRow_setCell_below h.own (show B + 1 < B + 2 by omega) u⟩
theorem StS.tab7 {w : World} {B : Nat} {X : ByteArray} {t most : Nat} {last : Bool} {v : Value} {o : List UInt8} {p1 p2 p3 p4 : Value} (h : StS w B X t most last v o p1 p2 p3 p4) (u : Value) : StS (w.setCell ⟨B + 1, 7, none⟩ u) B X t most last v o p1 p2 p3 u :=
  ⟨h.rd.same (Below.heap_setCell w ⟨B + 1, 7, none⟩ u B (by show B ≠ B + 1; omega)), h.box.set7 u, ownsRow_setCell_below h.own (show B + 1 < B + 2 by omega) u⟩
/-- what useFixed leaves -/
def UseFPost (B : Nat) (X : ByteArray) (t most : Nat) (last : Bool) (v : Value) (o : List UInt8) (w w' : World) : Prop :=
  ∃ q1 q2, StS w' B X t most last v o q1 q2 q1 q2 ∧ TabQ w' B q1 fixLit ∧ TabQ w' B q2 fixDist ∧ Kept B w w'
set_option maxHeartbeats 2000000 in
set_option maxRecDepth 100000 in
theorem useFixed_any (B : Nat) (X : ByteArray) (t most : Nat) (last : Bool) (v : Value) (o : List UInt8) (p1 p2 p3 p4 : Value) (w : World) (hS : StS w B X t most last v o p1 p2 p3 p4) (hF : FixedQ w B p3 p4) :
    Calls Tryd.prog 48 #[.pointer (some ⟨B + 1, 0, none⟩)] w fun e w' => e = .returned (.tuple #[]) ∧ UseFPost B X t most last v o w w' := by
  have HS := hidM hS
  have hBs := hS.box.lt
  have c6 := hS.box.c6
  go_enter Tryd.func48, Tryd.ntmps48
  rcases hF with ⟨rfl, rfl⟩ | ⟨h3, h4⟩
  · clear hS
    go_wp2_with fail
    refine (fixedCodes_any w).mono ?_
    rintro _ w1 ⟨⟨t1, t2, E1, E2, rfl, hT1, hE1, hT2, hE2⟩, hb⟩
    have HS1 := hidM (HS.out.later hb)
    have HK1 : Hid (Kept B w w1) := kept_of_below hb (by omega)
    have HT1 : Hid (TabQ w1 B (.pointer (some ⟨t1, 0, none⟩)) fixLit) := ⟨t1, E1, rfl, hT1.lower (by omega), hE1⟩
    have HT2 : Hid (TabQ w1 B (.pointer (some ⟨t2, 0, none⟩)) fixDist) := ⟨t2, E2, rfl, hT2.lower (by omega), hE2⟩
    clear hT1 hT2 hE1 hE2 hb c6
    have d6 := HS1.out.box.c6
    have d7 := HS1.out.box.c7
    have f6 := HS1.out.box.fz 6
    have f7 := HS1.out.box.fz 7
    have d4 := HS1.out.box.c4
    have d5 := HS1.out.box.c5
    have f4 := HS1.out.box.fz 4
    have f5 := HS1.out.box.fz 5
    have HS2 := hidM ((((HS1.out.tab6 (.pointer (some ⟨t1, 0, none⟩))).tab7 (.pointer (some ⟨t2, 0, none⟩))).tab4 (.pointer (some ⟨t1, 0, none⟩))).tab5 (.pointer (some ⟨t2, 0, none⟩)))
    have HK2 : Hid (Kept B w1 ((((w1.setCell ⟨B + 1, 6, none⟩ (.pointer (some ⟨t1, 0, none⟩))).setCell ⟨B + 1, 7, none⟩ (.pointer (some ⟨t2, 0, none⟩))).setCell ⟨B + 1, 4, none⟩ (.pointer (some ⟨t1, 0, none⟩))).setCell ⟨B + 1, 5, none⟩ (.pointer (some ⟨t2, 0, none⟩)))) := (((kept_set _).trans (kept_set _)).trans (kept_set _)).trans (kept_set _)
    go_wp2_with fail
    refine bodyPost_end (results_none rfl _ _ _) rfl ?_
    exact ⟨rfl, _, _, HS2.out, HT1.out.kept HK2.out, HT2.out.kept HK2.out, HK1.out.trans HK2.out⟩
  · obtain ⟨t1, E1, rfl, hT1, hE1⟩ := h3
    obtain ⟨t2, E2, rfl, hT2, hE2⟩ := h4
    have HT1 : Hid (TabQ w B (.pointer (some ⟨t1, 0, none⟩)) fixLit) := ⟨t1, E1, rfl, hT1, hE1⟩
    have HT2 : Hid (TabQ w B (.pointer (some ⟨t2, 0, none⟩)) fixDist) := ⟨t2, E2, rfl, hT2, hE2⟩
    clear hT1 hT2 hE1 hE2 hS
    have c7 := HS.out.box.c7
    have c4 := HS.out.box.c4
    have c5 := HS.out.box.c5
    have f4 := HS.out.box.fz 4
    have f5 := HS.out.box.fz 5
    have HS2 := hidM ((HS.out.tab4 (.pointer (some ⟨t1, 0, none⟩))).tab5 (.pointer (some ⟨t2, 0, none⟩)))
    have HK2 : Hid (Kept B w ((w.setCell ⟨B + 1, 4, none⟩ (.pointer (some ⟨t1, 0, none⟩))).setCell ⟨B + 1, 5, none⟩ (.pointer (some ⟨t2, 0, none⟩)))) := (kept_set _).trans (kept_set _)
    go_wp2_with fail
    refine bodyPost_end (results_none rfl _ _ _) rfl ?_
    exact ⟨rfl, _, _, HS2.out, HT1.out.kept HK2.out, HT2.out.kept HK2.out, HK2.out⟩
end Go.Proofs.YtkckobhpanghiaaDoor
