/-
  Taken over from another program: InfT.
  Taken over from another program: InfY.
  Taken over from another program: InfZ.
  Taken over from another program: InfU.
  Taken over from another program: InfW.
  Taken over from another program: InfX.
-/
import Derived.Test.YtlmeoahcpmikiaaGreatDoorJInfR
import Derived.Test.YtlmeoahcpmikiaaGreatDoorJBitZ
import Derived.Deep.RegionHeld3
namespace Go.Proofs.YtlmeoahcpmikiaaGreatDoor
open Go.RowKit
/-- a set of codes at a pointer, in blocks behind the stream's box -/
def TabQ (w : World) (B : Nat) (p : Value) (c : Cd) : Prop := ∃ tb E, p = .pointer (some ⟨tb, 0, none⟩) ∧ TabS w tb c.ln c.L (B + 2) E ∧ E ≤ w.heap.size
theorem TabQ.kept {w w' : World} {B : Nat} {p : Value} {c : Cd} (h : TabQ w B p c) (hk : Kept B w w') : TabQ w' B p c := by
  obtain ⟨tb, E, hp, ht, hE⟩ := h
  refine ⟨tb, E, hp, ?_, Nat.le_trans hE hk.below.size⟩
  obtain ⟨g, gs, gc, gg, M, hg, h2, h3, h4, h5, h6, q1, q2, q3, q4⟩ := ht
  obtain ⟨hs, hs1, hs2⟩ := hg.sym
  obtain ⟨hc, hc1, hc2⟩ := hg.cod
  obtain ⟨hv, hv1, hv2⟩ := hg.giv
  have k1 := hk.keep tb q1.1 (by omega) (fun cur fr e => by have := hg.tab; unfold TBox at this; rw [this] at e; simp at e)
  have k2 := hk.keep gs q2.1 (by omega) (fun cur fr e => by have := hs1; unfold ABox at this; rw [this] at e; simp at e)
  have k3 := hk.keep gc q3.1 (by omega) (fun cur fr e => by have := hc1; unfold ABox at this; rw [this] at e; simp at e)
  have k4 := hk.keep gg q4.1 (by omega) (fun cur fr e => by have := hv1; unfold ABox at this; rw [this] at e; simp at e)
  exact ⟨g, gs, gc, gg, M, ⟨hg.tab.same k1, ⟨hs, hs1.same k2, hs2⟩, ⟨hc, hc1.same k3, hc2⟩, ⟨hv, hv1.same k4, hv2⟩⟩, h2, h3, h4, h5, h6, q1, q2, q3, q4⟩
/-- what a reading of a symbol answers: symbol s, error n -/
def SymPost (c : Cd) (X : ByteArray) (t rb s n : Nat) (w' : World) : Prop :=
  (∃ t', n = 0 ∧ SymR c X.data.toList t (.inr (s, t')) ∧ RBox w' rb X t') ∨ (n ≠ 0 ∧ SymR c X.data.toList t (.inl n) ∧ s = 0)
theorem sym_of_read {c : Cd} {X : ByteArray} {t l rb : Nat} {e : Ending} {d : Nat} {w' : World} (hl : t + l = 8 * X.size) (h : ReadPost c.ln c.L (le X.data.toList / 2 ^ t) l e d) (hr : RBox w' rb X (t + d)) :
    ∃ s n : Nat, e = .returned (.tuple #[.int .i64 (s : Int), .int .i64 (n : Int)]) ∧ Hid (SymPost c X t rb s n w') := by
  have no : (∀ j, 1 ≤ j → j ≤ l → ¬ Hit c.ln c.L (le X.data.toList / 2 ^ t) j) → ∀ s, ¬ Next c X.data.toList t s := fun hh s hn => by
    obtain ⟨h1, h2, h3, h4⟩ := hn
    rw [total_size] at h3
    exact hh (c.ln s) (by omega) (by omega) (hit_of c.ln c.L _ s h1 h2 h4)
  rcases h with ⟨s, h1, h2, h3, h4, rfl, rfl⟩ | ⟨h1, h2, rfl, rfl⟩ | ⟨h1, h2, rfl, rfl⟩
  · exact ⟨s, 0, rfl, .inl ⟨_, rfl, .hit s ⟨h1, h2, by rw [total_size]; omega, h4⟩, hr⟩⟩
  · exact ⟨0, 6, rfl, .inr ⟨by decide, .short (no h2) (by rw [total_size]; omega), rfl⟩⟩
  · refine ⟨0, 3, rfl, .inr ⟨by decide, .none (fun s hn => ?_) (by rw [total_size]; omega), rfl⟩⟩
    obtain ⟨g1, g2, g3, g4⟩ := hn
    have := lgs_ge c.ln c.L s g1
    exact h2 (c.ln s) (by omega) this (hit_of c.ln c.L _ s g1 g2 g4)
theorem sread_any (B : Nat) (c : Cd) (p : Value) (X : ByteArray) (t l : Nat) (w : World) (hc : c.Ok) (hT : TabQ w B p c) (hr : RBox w B X t) (hX : X.size ≤ 1000000) (hl : t + l = 8 * X.size) :
    Calls Tryz.prog 287 #[p, .pointer (some ⟨B, 0, none⟩)] w fun e w' => (∃ s n : Nat, e = .returned (.tuple #[.int .i64 (s : Int), .int .i64 (n : Int)]) ∧ Hid (SymPost c X t B s n w')) ∧ Only B w w' := by
  have hT2 := hT
  obtain ⟨tb, E, rfl, ht, hE⟩ := hT
  refine (read_sep tb B c.ln c.L X t l w ht.tab (fun w' ho => ?_) hr hX hl hc.few hc.short hc.fits).mono ?_
  · obtain ⟨tb', E', hp, ht', _⟩ := hT2.kept ho.kept
    obtain rfl : tb = tb' := by simpa using hp
    exact ht'.tab
  · rintro e w' ⟨⟨d, hd, hrd⟩, ho⟩
    exact ⟨sym_of_read hl hd hrd, ho⟩
/-- what readLength answers -/
def LenPost (X : ByteArray) (t s rb : Nat) (e : Ending) (w' : World) : Prop :=
  (285 < s ∧ e = .returned (.tuple #[.int .i64 0, .int .i64 3])) ∨
  (s ≤ 285 ∧ num X.data.toList t (lenOf s).2 = none ∧ ∃ y : Int, e = .returned (.tuple #[.int .i64 y, .int .i64 6])) ∨
  (s ≤ 285 ∧ ∃ x, num X.data.toList t (lenOf s).2 = some x ∧ x < 32 ∧ e = .returned (.tuple #[.int .i64 (((lenOf s).1 + x : Nat) : Int), .int .i64 0]) ∧ RBox w' rb X (t + (lenOf s).2))
set_option maxHeartbeats 1000000 in
set_option maxRecDepth 100000 in
theorem readLength_any (db rb : Nat) (X : ByteArray) (t l s : Nat) (w : World) (hS : w.cell? ⟨db, 0, none⟩ = some (.pointer (some ⟨rb, 0, none⟩))) (hr : RBox w rb X t) (hX : X.size ≤ 100000000000) (hl : t + l = 8 * X.size) (hs : 257 ≤ s) (hs2 : s ≤ 320) :
    Calls Tryz.prog 309 #[.pointer (some ⟨db, 0, none⟩), .int .i64 (s : Int)] w fun e w' => LenPost X t s rb e w' ∧ Only rb w w' := by
  go_enter Tryz.func309, Tryz.ntmps309
  by_cases h : s ≤ 285
  · have e0 : ¬ (285 : Int) < (s : Int) := by omega
    have HL := hidM (lengthOf_any s w hs h)
    have hle := lenOf_le hs h
    have HB := hidM (sbits_any db rb X t l (lenOf s).2 w hS hr hX hl (by omega))
    have HR : Hid (∀ e w', ((∃ x, num X.data.toList t (lenOf s).2 = some x ∧ x < 32 ∧ e = Ending.returned (.tuple #[.int .i64 (((lenOf s).1 + x : Nat) : Int), .int .i64 0]) ∧ RBox w' rb X (t + (lenOf s).2)) ∨ (num X.data.toList t (lenOf s).2 = none ∧ ∃ y : Int, e = Ending.returned (.tuple #[.int .i64 y, .int .i64 6]))) → LenPost X t s rb e w') := fun e w' hh => by
      rcases hh with ⟨x, h1, h2, h3, h4⟩ | ⟨h1, h2⟩
      · exact .inr (.inr ⟨h, x, h1, h2, h3, h4⟩)
      · exact .inr (.inl ⟨h, h1, h2⟩)
    clear hr hl
    generalize (lenOf s).1 = A at *
    generalize (lenOf s).2 = K at *
    go_wp2_with fail
    refine HL.out.mono ?_
    rintro _ _ ⟨rfl, rfl⟩
    go_wp2_with fail
    refine HB.out.mono ?_
    rintro _ w1 ⟨hp, ho⟩
    have HO := hidM ho
    clear ho
    rcases hp with ⟨x, h1, h2, rfl, h3⟩ | ⟨h1, rfl, h3⟩
    · have hx : x < 32 := Nat.lt_of_lt_of_le h2 (by have : 2 ^ K ≤ 2 ^ 5 := Nat.pow_le_pow_right (by decide) hle.2.2; omega)
      have H1 := hidM h1
      have H3 := hidM h3
      clear h1 h2 h3
      go_wp2
      go_ret2
      exact ⟨HR.out _ _ (.inl ⟨x, H1.out, hx, by simp, H3.out⟩), HO.out⟩
    · have H1 := hidM h1
      clear h1 h3
      go_wp2
      go_ret2
      exact ⟨HR.out _ _ (.inr ⟨H1.out, _, rfl⟩), HO.out⟩
  · have e0 : (285 : Int) < (s : Int) := by omega
    go_wp2
    go_ret2
    exact ⟨.inl ⟨by omega, rfl⟩, Only.refl _ _⟩
end Go.Proofs.YtlmeoahcpmikiaaGreatDoor
namespace Go.Proofs.YtlmeoahcpmikiaaGreatDoor
open Go.RowKit
theorem cnt_congr {ln lm : Nat → Nat} {L : Nat} (h : ∀ i, i < L → ln i = lm i) (n : Nat) : cnt ln n L = cnt lm n L := by
  induction L with
  | zero => rfl
  | succ L ih => rw [cnt, cnt, ih (fun i hi => h i (by omega)), h L (by omega)]
theorem kr_congr {ln lm : Nat → Nat} {L : Nat} (h : ∀ i, i < L → ln i = lm i) (n : Nat) : kr ln L n = kr lm L n := by
  induction n with
  | zero => rfl
  | succ n ih => rw [kr, kr, ih, cnt_congr h]
theorem lgs_congr {ln lm : Nat → Nat} {L : Nat} (h : ∀ i, i < L → ln i = lm i) : lgs ln L = lgs lm L := by
  induction L with
  | zero => rfl
  | succ L ih => rw [lgs, lgs, ih (fun i hi => h i (by omega)), h L (by omega)]
theorem fstC_congr {ln lm : Nat → Nat} {L : Nat} (h : ∀ i, i < L → ln i = lm i) (n : Nat) : fstC ln L n = fstC lm L n := by
  induction n with
  | zero => rfl
  | succ n ih => rw [fstC, fstC, ih, cnt_congr h]
theorem atC_congr {ln lm : Nat → Nat} {L : Nat} (h : ∀ i, i < L → ln i = lm i) (n : Nat) : atC ln L n = atC lm L n := by
  induction n with
  | zero => rfl
  | succ n ih => rw [atC, atC, ih, cnt_congr h]
theorem codeC_congr {ln lm : Nat → Nat} {L : Nat} (h : ∀ i, i < L → ln i = lm i) {s : Nat} (hs : s < L) : codeC ln L s = codeC lm L s := by
  unfold codeC
  rw [h s hs, fstC_congr h, cnt_congr (L := s) (fun i hi => h i (by omega))]
theorem Fit.congr {ln lm : Nat → Nat} {L : Nat} (h : ∀ i, i < L → ln i = lm i) : Fit ln L ↔ Fit lm L := by
  unfold Fit
  rw [kr_congr h, lgs_congr h, cnt_congr h]
theorem TabS.congr {w : World} {b : Nat} {ln lm : Nat → Nat} {L B E : Nat} (h : ∀ i, i < L → ln i = lm i) (ht : TabS w b ln L B E) : TabS w b lm L B E := by
  obtain ⟨g, gs, gc, gg, M, hg, h2, h3, h4, h5, h6, q⟩ := ht
  have e1 : fstC ln L = fstC lm L := funext fun n => fstC_congr h n
  have e2 : (fun n => cnt ln n L) = fun n => cnt lm n L := funext fun n => cnt_congr h n
  have e3 : atC ln L = atC lm L := funext fun n => atC_congr h n
  have e4 := lgs_congr h
  obtain ⟨hs, hs1, hs2⟩ := hg.sym
  obtain ⟨hc, hc1, hc2, hc3⟩ := hg.cod
  obtain ⟨hv, hv1, hv2⟩ := hg.giv
  refine ⟨g, gs, gc, gg, M, ⟨hg.tab, ⟨hs, hs1, fun s h0 hp => ?_⟩, ⟨hc, hc1, fun s h0 => ?_, hc3⟩, ⟨hv, hv1, fun n hn => ?_⟩⟩, ?_, ?_, ?_, h5, h6, q⟩
  · have := hs2 s h0 (by rw [h s h0]; exact hp)
    rw [e3, h s h0, cnt_congr (L := s) (fun i hi => h i (by omega))] at this
    exact this
  · have := hc2 s h0
    rw [codeC_congr h h0, h s h0] at this
    exact this
  · have := hv2 n hn
    rw [cnt_congr h] at this
    exact this
  · rw [← e1, ← e2, ← e3]; exact h2
  · rw [← e3, ← cnt_congr h]; exact h3
  · rw [← e4]; exact h4
/-- what New answers of lengths that are right: a table, or 4 -/
def NewQ (c : Cd) (w : World) (e : Ending) (w' : World) : Prop :=
  (¬ Fit c.ln c.L ∧ e = .returned (.tuple #[.pointer none, .int .i64 4])) ∨
  (Fit c.ln c.L ∧ ∃ tb, e = .returned (.tuple #[.pointer (some ⟨tb, 0, none⟩), .int .i64 0]) ∧ TabS w' tb c.ln c.L w.heap.size w'.heap.size)
theorem new_tab (c : Cd) (a : Option Addr) (cap : Nat) (f : Nat → Int) (w : World) (hf : IntsAt w a c.L .i64 f) (hL : c.L ≤ 320) (h15 : ∀ i, i < c.L → f i = (c.ln i : Int) ∧ c.ln i ≤ 15) :
    Calls Tryz.prog 221 #[.slice a c.L cap] w fun e w' => NewQ c w e w' ∧ Below w.heap.size w w' := by
  refine (new_sep a c.L cap f w hf).mono ?_
  rintro e w' ⟨hp, hb⟩
  refine ⟨?_, hb⟩
  rcases hp with ⟨h1, _⟩ | ⟨_, ⟨i, hi, h2⟩, _⟩ | ⟨_, ln, hln, _, hr⟩
  · omega
  · have := h15 i hi; omega
  · have hag : ∀ i, i < c.L → ln i = c.ln i := fun i hi => by
      have h1 := hln i hi
      have h2 := (h15 i hi).1
      omega
    rcases hr with ⟨hn, rfl⟩ | ⟨hft, tb, rfl, ht⟩
    · exact .inl ⟨fun h => hn ((Fit.congr hag).2 h), rfl⟩
    · exact .inr ⟨(Fit.congr hag).1 hft, tb, rfl, ht.congr hag⟩
end Go.Proofs.YtlmeoahcpmikiaaGreatDoor
namespace Go.Proofs.YtlmeoahcpmikiaaGreatDoor
open Go.RowKit
theorem IntsAt.setOther {w : World} {a : Option Addr} {len : Nat} {k : IntKind} {f : Nat → Int} (h : IntsAt w a len k f) (p : Addr) (u : Value) (hne : ∀ bb o, a = some ⟨bb, o, none⟩ → bb ≠ p.block) : IntsAt (w.setCell p u) a len k f := by
  refine ⟨h.1, h.2.1, ?_⟩
  rcases h.2.2 with h0 | ⟨b, off, ha, hc⟩
  · exact .inl h0
  · exact .inr ⟨b, off, ha, fun i hi => (World.cell?_setCell_other _ _ _ _ (fun e => hne b off ha (by rw [e]))).trans (hc i hi)⟩
/-- what useLengths answers -/
def UsePost (B : Nat) (X : ByteArray) (t most : Nat) (last : Bool) (v : Value) (o : List UInt8) (p3 p4 : Value) (cl cd : Cd) (w : World) (e : Ending) (w' : World) : Prop :=
  (¬ (cl.ln 256 ≠ 0 ∧ Fit cl.ln cl.L ∧ Fit cd.ln cd.L) ∧ e = .returned (.int .i64 3) ∧ Below B w w') ∨
  ((cl.ln 256 ≠ 0 ∧ Fit cl.ln cl.L ∧ Fit cd.ln cd.L) ∧ e = .returned (.int .i64 0) ∧ ∃ q1 q2, StS w' B X t most last v o q1 q2 p3 p4 ∧ TabQ w' B q1 cl ∧ TabQ w' B q2 cd ∧ Kept B w w')
theorem StS.later {w w' : World} {B : Nat} {X : ByteArray} {t most : Nat} {last : Bool} {v : Value} {o : List UInt8} {p1 p2 p3 p4 : Value} (h : StS w B X t most last v o p1 p2 p3 p4) (hb : Below w.heap.size w w') : StS w' B X t most last v o p1 p2 p3 p4 :=
  ⟨h.rd.below hb, h.box.same (hb.block _ h.box.lt), h.own.same fun g hg => hb.block g (h.own.ge hg).2⟩
theorem StS.tab4 {w : World} {B : Nat} {X : ByteArray} {t most : Nat} {last : Bool} {v : Value} {o : List UInt8} {p1 p2 p3 p4 : Value} (h : StS w B X t most last v o p1 p2 p3 p4) (u : Value) : StS (w.setCell ⟨B + 1, 4, none⟩ u) B X t most last v o u p2 p3 p4 :=
  ⟨h.rd.same (Below.heap_setCell w ⟨B + 1, 4, none⟩ u B (by show B ≠ B + 1; omega)), h.box.set4 u, ownsRow_setCell_below h.own (show B + 1 < B + 2 by omega) u⟩
theorem StS.tab5 {w : World} {B : Nat} {X : ByteArray} {t most : Nat} {last : Bool} {v : Value} {o : List UInt8} {p1 p2 p3 p4 : Value} (h : StS w B X t most last v o p1 p2 p3 p4) (u : Value) : StS (w.setCell ⟨B + 1, 5, none⟩ u) B X t most last v o p1 u p3 p4 :=
  ⟨h.rd.same (Below.heap_setCell w ⟨B + 1, 5, none⟩ u B (by show B ≠ B + 1; omega)), h.box.set5 u, ownsRow_setCell_below h.own (show B + 1 < B + 2 by omega) u⟩
theorem kept_set {B j : Nat} {w : World} (u : Value) : Kept B w (w.setCell ⟨B + 1, j, none⟩ u) :=
  ((Only.refl B w).two (b := B + 1)).set u |>.kept
theorem tabQ_of {w w' : World} {B tb : Nat} {c : Cd} (h : TabS w' tb c.ln c.L w.heap.size w'.heap.size) (hB : B + 2 ≤ w.heap.size) : TabQ w' B (.pointer (some ⟨tb, 0, none⟩)) c := by
  obtain ⟨g, gs, gc, gg, M, h1, h2, h3, h4, h5, h6, q1, q2, q3, q4⟩ := h
  exact ⟨tb, w'.heap.size, rfl, ⟨g, gs, gc, gg, M, h1, h2, h3, h4, h5, h6, ⟨by omega, q1.2⟩, ⟨by omega, q2.2⟩, ⟨by omega, q3.2⟩, ⟨by omega, q4.2⟩⟩, Nat.le_refl _⟩
set_option maxHeartbeats 2000000 in
set_option maxRecDepth 100000 in
theorem useLengths_any (B : Nat) (X : ByteArray) (t most : Nat) (last : Bool) (v : Value) (o : List UInt8) (p1 p2 p3 p4 : Value) (cl cd : Cd) (a1 a2 : Option Addr) (c1 c2 : Nat) (w : World) (hS : StS w B X t most last v o p1 p2 p3 p4)
    (hf1 : IntsAt w a1 cl.L .i64 (fun i => (cl.ln i : Int))) (hf2 : IntsAt w a2 cd.L .i64 (fun i => (cd.ln i : Int))) (h257 : 257 ≤ cl.L) (hl1 : cl.L ≤ 320) (hl2 : cd.L ≤ 320) (h15 : ∀ i, cl.ln i ≤ 15) (h15' : ∀ i, cd.ln i ≤ 15) (hne : ∀ bb oo, a2 = some ⟨bb, oo, none⟩ → bb ≠ B + 1) :
    Calls Tryz.prog 306 #[.pointer (some ⟨B + 1, 0, none⟩), .slice a1 cl.L c1, .slice a2 cd.L c2] w fun e w' => UsePost B X t most last v o p3 p4 cl cd w e w' := by
  have HS := hidM hS
  have hBs : B + 1 < w.heap.size := hS.box.lt
  obtain ⟨b1, off1, rfl, cc⟩ := hf1.get 256 (by omega)
  have kk : (256 : Int) < (cl.L : Int) := by omega
  have HN1 := hidM (new_tab cl (some ⟨b1, off1, none⟩) c1 _ w hf1 hl1 (fun i _ => ⟨rfl, h15 i⟩))
  have HF2 := hidM hf2
  clear hS hf1 hf2
  go_enter Tryz.func306, Tryz.ntmps306
  obtain ⟨z, hz⟩ : ∃ z, z = cl.ln 256 := ⟨_, rfl⟩
  have HZ := hidM hz
  rw [← hz] at cc
  clear hz
  by_cases hz0 : z = 0
  · have e0 : ((z : Int) == 0) = true := by simp; omega
    have HNO : Hid (¬ (cl.ln 256 ≠ 0 ∧ Fit cl.ln cl.L ∧ Fit cd.ln cd.L)) := fun h => h.1 (by rw [← HZ.out]; exact hz0)
    clear hz0
    go_wp2
    go_ret
    exact .inl ⟨HNO.out, rfl, Below.refl _ _⟩
  · have e0 : ((z : Int) == 0) = false := by simp; omega
    have HZ0 : Hid (cl.ln 256 ≠ 0) := by unfold Hid; rw [← HZ.out]; exact hz0
    clear hz0 HZ
    go_wp2_with fail
    refine HN1.out.mono ?_
    rintro _ w1 ⟨hq1, hb1⟩
    have HB1 := hidM hb1
    have HS1 := hidM (HS.out.later hb1)
    have HF21 := hidM (HF2.out.below hb1)
    have k4 := HS1.out.box.c4
    have f4 := HS1.out.box.fz 4
    clear hb1 HN1
    rcases hq1 with ⟨hno1, rfl⟩ | ⟨hfit1, tb1, rfl, ht1⟩
    · have HS2 := hidM (HS1.out.tab4 (.pointer none))
      have HK2 : Hid (Kept B w (w1.setCell ⟨B + 1, 4, none⟩ (.pointer none))) := (kept_of_below HB1.out (by omega)).trans (kept_set _)
      have HK21 : Hid (Kept B w1 (w1.setCell ⟨B + 1, 4, none⟩ (.pointer none))) := kept_set _
      have HF22 := hidM (HF21.out.setOther ⟨B + 1, 4, none⟩ (.pointer none) hne)
      have HSZ2 : Hid (B + 2 ≤ (w1.setCell ⟨B + 1, 4, none⟩ (.pointer none)).heap.size) := by have := HS2.out.box.lt; unfold Hid; omega
      go_wp2_with fail
      generalize w1.setCell ⟨B + 1, 4, none⟩ (.pointer none) = w2 at *
      refine (new_tab cd a2 c2 _ w2 HF22.out hl2 (fun i _ => ⟨rfl, h15' i⟩)).mono ?_
      rintro _ w4 ⟨hq2, hb4⟩
      have HS4 := hidM (HS2.out.later hb4)
      have HK4 : Hid (Kept B w w4) := HK2.out.trans (kept_of_below hb4 (by have := HSZ2.out; omega))
      have HK41 : Hid (Kept B w1 w4) := HK21.out.trans (kept_of_below hb4 (by have := HSZ2.out; omega))
      clear hb4 k4 f4
      rcases hq2 with ⟨hno2, rfl⟩ | ⟨hfit2, tb2, rfl, ht2⟩
      · have HS5 := hidM (HS4.out.tab5 (.pointer none))
        have HK5 : Hid (Kept B w (w4.setCell ⟨B + 1, 5, none⟩ (.pointer none))) := HK4.out.trans (kept_set _)
        have HNO : Hid (¬ (cl.ln 256 ≠ 0 ∧ Fit cl.ln cl.L ∧ Fit cd.ln cd.L)) := fun h => hno1 h.2.1
        have k5 := HS4.out.box.c5
        have f5 := HS4.out.box.fz 5
        go_wp2
        go_ret
        exact .inl ⟨HNO.out, rfl, HK5.out.below⟩
      · have HS5 := hidM (HS4.out.tab5 (.pointer (some ⟨tb2, 0, none⟩)))
        have HK5 : Hid (Kept B w (w4.setCell ⟨B + 1, 5, none⟩ (.pointer (some ⟨tb2, 0, none⟩)))) := HK4.out.trans (kept_set _)
        have HNO : Hid (¬ (cl.ln 256 ≠ 0 ∧ Fit cl.ln cl.L ∧ Fit cd.ln cd.L)) := fun h => hno1 h.2.1
        clear ht2
        have k5 := HS4.out.box.c5
        have f5 := HS4.out.box.fz 5
        go_wp2
        go_ret
        exact .inl ⟨HNO.out, rfl, HK5.out.below⟩
    · have HT1 : Hid (TabQ w1 B (.pointer (some ⟨tb1, 0, none⟩)) cl) := tabQ_of ht1 (by omega)
      clear ht1
      have HS2 := hidM (HS1.out.tab4 (.pointer (some ⟨tb1, 0, none⟩)))
      have HK2 : Hid (Kept B w (w1.setCell ⟨B + 1, 4, none⟩ (.pointer (some ⟨tb1, 0, none⟩)))) := (kept_of_below HB1.out (by omega)).trans (kept_set _)
      have HK21 : Hid (Kept B w1 (w1.setCell ⟨B + 1, 4, none⟩ (.pointer (some ⟨tb1, 0, none⟩)))) := kept_set _
      have HF22 := hidM (HF21.out.setOther ⟨B + 1, 4, none⟩ (.pointer (some ⟨tb1, 0, none⟩)) hne)
      have HSZ2 : Hid (B + 2 ≤ (w1.setCell ⟨B + 1, 4, none⟩ (.pointer (some ⟨tb1, 0, none⟩))).heap.size) := by have := HS2.out.box.lt; unfold Hid; omega
      go_wp2_with fail
      generalize w1.setCell ⟨B + 1, 4, none⟩ (.pointer (some ⟨tb1, 0, none⟩)) = w2 at *
      refine (new_tab cd a2 c2 _ w2 HF22.out hl2 (fun i _ => ⟨rfl, h15' i⟩)).mono ?_
      rintro _ w4 ⟨hq2, hb4⟩
      have HS4 := hidM (HS2.out.later hb4)
      have HK4 : Hid (Kept B w w4) := HK2.out.trans (kept_of_below hb4 (by have := HSZ2.out; omega))
      have HK41 : Hid (Kept B w1 w4) := HK21.out.trans (kept_of_below hb4 (by have := HSZ2.out; omega))
      clear hb4 k4 f4
      rcases hq2 with ⟨hno2, rfl⟩ | ⟨hfit2, tb2, rfl, ht2⟩
      · have HS5 := hidM (HS4.out.tab5 (.pointer none))
        have HK5 : Hid (Kept B w (w4.setCell ⟨B + 1, 5, none⟩ (.pointer none))) := HK4.out.trans (kept_set _)
        have HNO : Hid (¬ (cl.ln 256 ≠ 0 ∧ Fit cl.ln cl.L ∧ Fit cd.ln cd.L)) := fun h => hno2 h.2.2
        have k5 := HS4.out.box.c5
        have f5 := HS4.out.box.fz 5
        go_wp2
        go_ret
        exact .inl ⟨HNO.out, rfl, HK5.out.below⟩
      · have HS5 := hidM (HS4.out.tab5 (.pointer (some ⟨tb2, 0, none⟩)))
        have HK5 : Hid (Kept B w (w4.setCell ⟨B + 1, 5, none⟩ (.pointer (some ⟨tb2, 0, none⟩)))) := HK4.out.trans (kept_set _)
        have HT5 : Hid (TabQ (w4.setCell ⟨B + 1, 5, none⟩ (.pointer (some ⟨tb2, 0, none⟩))) B (.pointer (some ⟨tb1, 0, none⟩)) cl) := (HT1.out.kept (HK41.out)).kept (kept_set _)
        have HU5 : Hid (TabQ (w4.setCell ⟨B + 1, 5, none⟩ (.pointer (some ⟨tb2, 0, none⟩))) B (.pointer (some ⟨tb2, 0, none⟩)) cd) := (tabQ_of ht2 (by have := HSZ2.out; omega)).kept (kept_set _)
        have HY : Hid (cl.ln 256 ≠ 0 ∧ Fit cl.ln cl.L ∧ Fit cd.ln cd.L) := ⟨HZ0.out, hfit1, hfit2⟩
        clear ht2
        have k5 := HS4.out.box.c5
        have f5 := HS4.out.box.fz 5
        go_wp2
        go_ret
        exact .inr ⟨HY.out, rfl, _,_, HS5.out, HT5.out, HU5.out, HK5.out⟩
end Go.Proofs.YtlmeoahcpmikiaaGreatDoor
namespace Go.Proofs.YtlmeoahcpmikiaaGreatDoor
open Go.RowKit
/-- V is w but for draws -/
def DrewOf (w V : World) : Prop := ∃ n, V = w.drewN n
theorem DrewOf.refl (w : World) : Hid (DrewOf w w) := ⟨0, rfl⟩
theorem DrewOf.drew {w V : World} (h : Hid (DrewOf w V)) : Hid (DrewOf w V.drew) := by
  obtain ⟨n, rfl⟩ := h
  exact ⟨n + 1, rfl⟩
theorem DrewOf.drewN {w V : World} (h : Hid (DrewOf w V)) (m : Nat) : Hid (DrewOf w (V.drewN m)) := by
  obtain ⟨n, rfl⟩ := h
  exact ⟨n + m, by simp only [World.drewN, Nat.add_assoc]⟩
/-- two cells of the box, and nothing but the reader has turned -/
def BoxS (w : World) (B j : Nat) (p : Value) (w' : World) : Prop := w'.cell? ⟨B + 1, 0, none⟩ = some (.pointer (some ⟨B, 0, none⟩)) ∧ w'.cell? ⟨B + 1, j, none⟩ = some p ∧ Hid (Only B w w')
theorem BoxS.of {w V : World} {B j : Nat} {p : Value} (h0 : w.cell? ⟨B + 1, 0, none⟩ = some (.pointer (some ⟨B, 0, none⟩))) (hj : w.cell? ⟨B + 1, j, none⟩ = some p) (h : Hid (DrewOf w V)) : BoxS w B j p V := by
  obtain ⟨n, rfl⟩ := h
  exact ⟨h0, hj, (Only.refl B w).drewN n⟩
theorem sread_box (B j : Nat) (c : Cd) (p : Value) (X : ByteArray) (t l : Nat) (w : World) (hc : c.Ok) (hT : TabQ w B p c) (hr : RBox w B X t) (hX : X.size ≤ 1000000) (hl : t + l = 8 * X.size)
    (h0 : w.cell? ⟨B + 1, 0, none⟩ = some (.pointer (some ⟨B, 0, none⟩))) (hj : w.cell? ⟨B + 1, j, none⟩ = some p) (V : World) (hV : Hid (DrewOf w V)) :
    Calls Tryz.prog 287 #[p, .pointer (some ⟨B, 0, none⟩)] V fun e w' => (∃ s n : Nat, e = .returned (.tuple #[.int .i64 (s : Int), .int .i64 (n : Int)]) ∧ Hid (SymPost c X t B s n w')) ∧ BoxS w B j p w' := by
  obtain ⟨m, rfl⟩ := hV
  have hk : Kept B w (w.drewN m) := ((Only.refl B w).drewN m).kept
  refine (sread_any B c p X t l (w.drewN m) hc (hT.kept hk) (hr.drewN m) hX hl).mono ?_
  rintro e w' ⟨h1, ho⟩
  refine ⟨h1, (World.cell?_of_block (w := w.drewN m) (a := ⟨B + 1, 0, none⟩) (ho.block (B + 1) (by omega))).trans h0, (World.cell?_of_block (w := w.drewN m) (a := ⟨B + 1, j, none⟩) (ho.block (B + 1) (by omega))).trans hj, ((Only.refl B w).drewN m).trans ho⟩
/-- what readDistance answers -/
def DistPost (cd : Cd) (X : ByteArray) (t rb : Nat) (e : Ending) (w' : World) : Prop :=
  (∃ n : Nat, SymR cd X.data.toList t (.inl n) ∧ n ≠ 0 ∧ ∃ y : Int, e = .returned (.tuple #[.int .i64 y, .int .i64 (n : Int)])) ∨
  (∃ k t2 : Nat, SymR cd X.data.toList t (.inr (k, t2)) ∧ 29 < k ∧ ∃ y : Int, e = .returned (.tuple #[.int .i64 y, .int .i64 3])) ∨
  (∃ k t2 : Nat, SymR cd X.data.toList t (.inr (k, t2)) ∧ k ≤ 29 ∧ num X.data.toList t2 (distOf k).2 = none ∧ ∃ y : Int, e = .returned (.tuple #[.int .i64 y, .int .i64 6])) ∨
  (∃ k t2 x : Nat, SymR cd X.data.toList t (.inr (k, t2)) ∧ k ≤ 29 ∧ num X.data.toList t2 (distOf k).2 = some x ∧ x < 8192 ∧ e = .returned (.tuple #[.int .i64 (((distOf k).1 + x : Nat) : Int), .int .i64 0]) ∧ RBox w' rb X (t2 + (distOf k).2))
set_option maxHeartbeats 2000000 in
set_option maxRecDepth 100000 in
theorem readDistance_any (B : Nat) (X : ByteArray) (t l most : Nat) (last : Bool) (v : Value) (o : List UInt8) (p1 p2 p3 p4 : Value) (cd : Cd) (w : World) (hS : StS w B X t most last v o p1 p2 p3 p4) (hc : cd.Ok) (hT : TabQ w B p2 cd) (hX : X.size ≤ 1000000) (hl : t + l = 8 * X.size) :
    Calls Tryz.prog 310 #[.pointer (some ⟨B + 1, 0, none⟩)] w fun e w' => DistPost cd X t B e w' ∧ Only B w w' := by
  have c0 := hS.box.c0
  have c5 := hS.box.c5
  have H50 := hidM (fun V hV => sread_box B 5 cd p2 X t l w hc hT hS.rd hX hl c0 c5 V hV)
  have HD := DrewOf.refl w
  obtain ⟨tb, E, rfl, _⟩ := hT
  have HBX := hidM (fun V hV => BoxS.of (V := V) c0 c5 hV)
  have HLL := hidM hl
  clear hS hl
  go_enter Tryz.func310, Tryz.ntmps310
  go_wp2_with fail
  go_region_held3 (fun w' => w'.cell? ⟨B + 1, 0, none⟩ = some (.pointer (some ⟨B, 0, none⟩)) ∧ w'.cell? ⟨B + 1, 5, none⟩ = some (.pointer (some ⟨tb, 0, none⟩)) ∧ Hid (Only B w w'))
    (first | exact hS50 | exact HBX.out _ (by repeat (first | exact HD | apply DrewOf.drew | apply DrewOf.drewN)))
    (first
      | (go_at_call 287; with_reducible refine (H50.out _ (by repeat (first | exact HD | apply DrewOf.drew | apply DrewOf.drewN))).mono ?_; rintro e w2 ⟨⟨s, n, rfl, HSY⟩, hS50⟩))
  have HO := hS50.2.2
  have d0 := hS50.1
  have HX8 : Hid (t + l = 8 * X.size) := HLL.out
  clear hS50 H50 HD HBX c0 c5
  rename_i hheld
  clear hheld
  rcases HSY.out with ⟨t2, hn, hsym, hrd⟩ | ⟨hn, hsym, hs0⟩
  · subst hn
    have HSM := hidM hsym
    have HRD := hidM hrd
    clear hsym hrd HSY
    have hlt := HSM.out.lt
    rw [total_size] at hlt
    have hs320 : s < 320 := Nat.lt_of_lt_of_le hlt.1 hc.few
    by_cases hk : s ≤ 29
    · have e0 : ¬ (29 : Int) < (s : Int) := by omega
      have HL := hidM (distanceOf_any s w2 hk)
      have hle := distOf_le hk
      have HB := hidM (sbits_any (B + 1) B X t2 (8 * X.size - t2) (distOf s).2 w2 d0 HRD.out (by omega) (by omega) (by omega))
      have HR : Hid (∀ e w', ((∃ x, num X.data.toList t2 (distOf s).2 = some x ∧ x < 8192 ∧ e = Ending.returned (.tuple #[.int .i64 (((distOf s).1 + x : Nat) : Int), .int .i64 0]) ∧ RBox w' B X (t2 + (distOf s).2)) ∨ (num X.data.toList t2 (distOf s).2 = none ∧ ∃ y : Int, e = Ending.returned (.tuple #[.int .i64 y, .int .i64 6]))) → DistPost cd X t B e w') := fun e w' hh => by
        rcases hh with ⟨x, h1, h2, h3, h4⟩ | ⟨h1, h2⟩
        · exact .inr (.inr (.inr ⟨s, t2, x, HSM.out, hk, h1, h2, h3, h4⟩))
        · exact .inr (.inr (.inl ⟨s, t2, HSM.out, hk, h1, h2⟩))
      generalize (distOf s).1 = A at *
      generalize (distOf s).2 = K at *
      clear HRD HX8 hlt
      go_wp2_with fail
      refine HL.out.mono ?_
      rintro _ _ ⟨rfl, rfl⟩
      go_wp2_with fail
      refine HB.out.mono ?_
      rintro _ w3 ⟨hp, ho⟩
      have HO3 : Hid (Only B w w3) := HO.out.trans ho
      clear ho
      rcases hp with ⟨x, h1, h2, rfl, h3⟩ | ⟨h1, rfl, h3⟩
      · have hx : x < 8192 := Nat.lt_of_lt_of_le h2 (by have : 2 ^ K ≤ 2 ^ 13 := Nat.pow_le_pow_right (by decide) hle.2.2; omega)
        have H1 := hidM h1
        have H3 := hidM h3
        clear h1 h2 h3
        go_wp2
        go_ret2
        exact ⟨HR.out _ _ (.inl ⟨x, H1.out, hx, by simp, H3.out⟩), HO3.out⟩
      · have H1 := hidM h1
        clear h1 h3
        go_wp2
        go_ret2
        exact ⟨HR.out _ _ (.inr ⟨H1.out, _, rfl⟩), HO3.out⟩
    · have e0 : (29 : Int) < (s : Int) := by omega
      clear HRD HX8 hlt
      go_wp2
      go_ret2
      exact ⟨.inr (.inl ⟨s, t2, HSM.out, by omega, _, rfl⟩), HO.out⟩
  · have e0 : ((n : Int) == 0) = false := by simp; omega
    have HSM := hidM hsym
    clear hsym HSY
    go_wp2
    go_ret2
    exact ⟨.inl ⟨n, HSM.out, hn, _, rfl⟩, HO.out⟩
end Go.Proofs.YtlmeoahcpmikiaaGreatDoor
namespace Go.Proofs.YtlmeoahcpmikiaaGreatDoor
open Go.RowKit
/-- what readTimes answers -/
def TimesPost (X : ByteArray) (t s rb : Nat) (e : Ending) (w' : World) : Prop :=
  (num X.data.toList t (timesOf s).2 = none ∧ ∃ y : Int, e = .returned (.tuple #[.int .i64 y, .int .i64 6])) ∨
  (∃ x, num X.data.toList t (timesOf s).2 = some x ∧ x < 128 ∧ e = .returned (.tuple #[.int .i64 (((timesOf s).1 + x : Nat) : Int), .int .i64 0]) ∧ RBox w' rb X (t + (timesOf s).2))
set_option maxHeartbeats 1000000 in
set_option maxRecDepth 100000 in
theorem readTimes_any (db rb : Nat) (X : ByteArray) (t l s : Nat) (w : World) (hS : w.cell? ⟨db, 0, none⟩ = some (.pointer (some ⟨rb, 0, none⟩))) (hr : RBox w rb X t) (hX : X.size ≤ 100000000000) (hl : t + l = 8 * X.size) (hs2 : s ≤ 320) :
    Calls Tryz.prog 318 #[.pointer (some ⟨db, 0, none⟩), .int .i64 (s : Int)] w fun e w' => TimesPost X t s rb e w' ∧ Only rb w w' := by
  have HB := hidM (fun n hn => sbits_any db rb X t l n w hS hr hX hl hn)
  clear hr hl
  by_cases h16 : s = 16
  · subst h16
    have HP : Hid (timesOf 16 = (3, 2)) := rfl
    unfold TimesPost
    rw [HP.out]
    go_enter Tryz.func318, Tryz.ntmps318
    go_wp2_with fail
    refine (HB.out 2 (by decide)).mono ?_
    rintro _ w1 ⟨hp, ho⟩
    have HO := hidM ho
    clear ho
    rcases hp with ⟨x, h1, h2, rfl, h3⟩ | ⟨h1, rfl, h3⟩
    · have hx : x < 128 := Nat.lt_of_lt_of_le h2 (by decide)
      have H1 := hidM h1
      have H3 := hidM h3
      clear h1 h2 h3
      go_wp2
      go_ret2
      exact ⟨.inr ⟨x, H1.out, hx, by simp, H3.out⟩, HO.out⟩
    · have H1 := hidM h1
      clear h1 h3
      go_wp2
      go_ret2
      exact ⟨.inl ⟨H1.out, _, rfl⟩, HO.out⟩
  · by_cases h17 : s = 17
    · subst h17
      have HP : Hid (timesOf 17 = (3, 3)) := rfl
      unfold TimesPost
      rw [HP.out]
      go_enter Tryz.func318, Tryz.ntmps318
      go_wp2_with fail
      refine (HB.out 3 (by decide)).mono ?_
      rintro _ w1 ⟨hp, ho⟩
      have HO := hidM ho
      clear ho
      rcases hp with ⟨x, h1, h2, rfl, h3⟩ | ⟨h1, rfl, h3⟩
      · have hx : x < 128 := Nat.lt_of_lt_of_le h2 (by decide)
        have H1 := hidM h1
        have H3 := hidM h3
        clear h1 h2 h3
        go_wp2
        go_ret2
        exact ⟨.inr ⟨x, H1.out, hx, by simp, H3.out⟩, HO.out⟩
      · have H1 := hidM h1
        clear h1 h3
        go_wp2
        go_ret2
        exact ⟨.inl ⟨H1.out, _, rfl⟩, HO.out⟩
    · have e1 : ((s : Int) == 16) = false := by simp; omega
      have e2 : ((s : Int) == 17) = false := by simp; omega
      have HP : Hid (timesOf s = (11, 7)) := by unfold Hid timesOf; rw [if_neg h16, if_neg h17]
      unfold TimesPost
      rw [HP.out]
      clear h16 h17
      go_enter Tryz.func318, Tryz.ntmps318
      go_wp2_with fail
      refine (HB.out 7 (by decide)).mono ?_
      rintro _ w1 ⟨hp, ho⟩
      have HO := hidM ho
      clear ho
      rcases hp with ⟨x, h1, h2, rfl, h3⟩ | ⟨h1, rfl, h3⟩
      · have hx : x < 128 := h2
        have H1 := hidM h1
        have H3 := hidM h3
        clear h1 h2 h3
        go_wp2
        go_ret2
        exact ⟨.inr ⟨x, H1.out, hx, by simp, H3.out⟩, HO.out⟩
      · have H1 := hidM h1
        clear h1 h3
        go_wp2
        go_ret2
        exact ⟨.inl ⟨H1.out, _, rfl⟩, HO.out⟩
/-- lengths in a row of the call's own -/
def natsV (l : List Nat) : List Value := l.map fun (n : Nat) => .int .i64 (n : Int)
def OwnN (w : World) (base : Nat) (v : Value) (l : List Nat) : Prop := w.ownsRow base 3 1 v l.length (natsV l)
theorem natsV_app (l m : List Nat) : natsV (l ++ m) = natsV l ++ natsV m := by unfold natsV; rw [List.map_append]
theorem natsV_at (l : List Nat) (j : Nat) (h : j < l.length) : (natsV l)[j]? = some (.int .i64 (l[j] : Int)) := by unfold natsV; simp [h]
theorem OwnN.shape {w : World} {B : Nat} {v : Value} {l : List Nat} (h : OwnN w B v l) : ∃ a c, v = .slice a l.length c ∧ (0 < l.length → ∃ g, a = some ⟨g, 0, none⟩ ∧ B ≤ g ∧ g < w.heap.size ∧ ∀ j (hj : j < l.length), w.cell? ⟨g, j, none⟩ = some (.int .i64 (l[j] : Int))) := by
  have h' := h
  rcases h.2 with ⟨h0, h1⟩ | ⟨g, cap, cur, hv, hg, hc, hr⟩
  · exact ⟨none, 0, by rw [h0, h1], fun hp => by omega⟩
  · subst hv
    refine ⟨_, cap, rfl, fun _ => ⟨g, rfl, hg, (Array.getElem?_eq_some_iff.1 hc).1, fun j hj => ?_⟩⟩
    have := World.ownsRow.cells h' (g := g) rfl j (.int .i64 (l[j] : Int)) (natsV_at l j hj)
    rw [Addr.add_lit, Nat.zero_add] at this
    exact this
set_option maxHeartbeats 1000000 in
set_option maxRecDepth 100000 in
theorem repeated_any (s : Nat) (v : Value) (B : Nat) (l : List Nat) (w : World) (h : OwnN w B v l) (hn : s = 16 → l ≠ []) (hl : l.length ≤ 1000) :
    Calls Tryz.prog 319 #[.int .i64 (s : Int), v] w fun e w' => e = .returned (.int .i64 ((if s = 16 then l.getLast?.getD 0 else 0 : Nat) : Int)) ∧ w' = w := by
  obtain ⟨a, c, rfl, hsh⟩ := h.shape
  have HSH := hidM hsh
  clear hsh h
  by_cases h16 : s = 16
  · have hne := hn h16
    have h0 : 0 < l.length := List.length_pos_iff.2 hne
    obtain ⟨g, rfl, _,_, hcell⟩ := HSH.out h0
    obtain ⟨m, hm⟩ : ∃ m, m = l.length - 1 := ⟨_, rfl⟩
    have hml : m < l.length := by omega
    have c1 := hcell m hml
    have HLast : Hid (l.getLast?.getD 0 = l[m]) := by
      unfold Hid
      rw [List.getLast?_eq_getElem?, ← hm, List.getElem?_eq_getElem hml]; rfl
    have e1 : (l.length : Int) - 1 = (m : Int) := by omega
    have e2 : (m : Int) < (l.length : Int) := by omega
    rw [if_pos h16, HLast.out]
    generalize l[m] = z at *
    subst h16
    clear hcell hn hm hne HSH HLast
    go_enter Tryz.func319, Tryz.ntmps319
    go_wp2
    go_ret
    exact ⟨rfl, rfl⟩
  · have e1 : ((s : Int) == 16) = false := by simp; omega
    rw [if_neg h16]
    clear HSH hn
    go_enter Tryz.func319, Tryz.ntmps319
    go_wp2
    go_ret
    exact ⟨rfl, rfl⟩
end Go.Proofs.YtlmeoahcpmikiaaGreatDoor
namespace Go.Proofs.YtlmeoahcpmikiaaGreatDoor
open Go.RowKit
/-- nothing elder but block B has turned -/
structure ButR (B : Nat) (w w' : World) : Prop where
  os : w'.os = w.os
  tape : w'.tape = w.tape
  output : w'.output = w.output
  size : w.heap.size ≤ w'.heap.size
  block : ∀ k, k < w.heap.size → k ≠ B → w'.heap[k]? = w.heap[k]?
theorem ButR.refl (B : Nat) (w : World) : ButR B w w := ⟨rfl, rfl, rfl, Nat.le_refl _, fun _ _ _ => rfl⟩
theorem ButR.only {B : Nat} {w w' w'' : World} (h : ButR B w w') (k : Only B w' w'') : ButR B w w'' :=
  ⟨k.os.trans h.os, k.tape.trans h.tape, k.output.trans h.output, by rw [k.size]; exact h.size, fun i h1 h2 => (k.block i h2).trans (h.block i h1 h2)⟩
theorem ButR.kept {B : Nat} {w w' : World} (h : ButR B w w') (hB : B < w.heap.size) : Kept B w w' :=
  ⟨⟨h.os, h.tape, h.output, h.size, fun k hk => h.block k (by omega) (by omega)⟩, fun k h1 h2 _ => h.block k h2 (by omega)⟩
/-- a row of the call's own grew -/
theorem ButR.grow {B : Nat} {w wr w1 : World} {v : Value} {l : List Nat} {ob : Obj} (h : ButR B w wr) (hown : OwnN wr w.heap.size v l) (hg : (wr.alloc ob).grownBy w1 v.ownBlock) : ButR B w w1 :=
  ⟨hg.os.trans h.os, hg.tape.trans h.tape, hg.output.trans h.output, by have := hg.size; have := h.size; simp at *; omega, fun k h1 h2 => by
    have hs := h.size
    refine (hg.block k (by simp; omega) (fun e => ?_)).trans ((Below.heap_alloc wr ob k (by omega)).trans (h.block k h1 h2))
    have := (World.ownsRow.lt hown k e.symm).1
    omega⟩
theorem OwnN.only {B b : Nat} {w w' : World} {v : Value} {l : List Nat} (h : OwnN w b v l) (ho : Only B w w') (hB : B < b) : OwnN w' b v l := by
  refine ⟨h.1, ?_⟩
  rcases h.2 with h0 | ⟨g, cap, cur, hv, hg, hc, hr⟩
  · exact .inl h0
  · exact .inr ⟨g, cap, cur, hv, hg, by rw [ho.block g (by omega)]; exact hc, hr⟩
def lenV : Value → Nat
  | .slice _ n _ => n
  | _ => 0
theorem info3_parts : ∃ i, Tryz.prog.info? 3 = some i ∧ i.zero = some (.int .i64 0) ∧ i.size = 1 ∧ i.bytes = 8 := by
  have h : (Tryz.prog.info? 3).map (fun i => (i.zero, i.size, i.bytes)) = some (some (.int .i64 0), 1, 8) := by kernel_rfl
  exact info_parts h
/-- what readLengths answers -/
def LensPost (c : Cd) (X : ByteArray) (n t B : Nat) (w : World) (e : Ending) (w' : World) : Prop :=
  (∃ k, k ≠ 0 ∧ Lens c X.data.toList n t [] (.inl k) ∧ e = .returned (.tuple #[.slice none 0 0, .int .i64 (k : Int)])) ∨
  (∃ t' l v, Lens c X.data.toList n t [] (.inr (t', l)) ∧ OwnN w' w.heap.size v l ∧ RBox w' B X t' ∧ e = .returned (.tuple #[v, .int .i64 0]))
set_option maxHeartbeats 4000000 in
set_option maxRecDepth 100000 in
theorem readLengths_any (B : Nat) (X : ByteArray) (t n : Nat) (p : Value) (c : Cd) (w : World) (h0 : w.cell? ⟨B + 1, 0, none⟩ = some (.pointer (some ⟨B, 0, none⟩))) (hB : B + 1 < w.heap.size) (hr : RBox w B X t) (hc : c.Ok) (hT : TabQ w B p c) (hX : X.size ≤ 1000000) (ht : t ≤ 8 * X.size) (hn : n ≤ 400) :
    Calls Tryz.prog 305 #[.pointer (some ⟨B + 1, 0, none⟩), p, .int .i64 (n : Int)] w fun e w' => LensPost c X n t B w e w' ∧ ButR B w w' := by
  obtain ⟨i0, hi, hz0, hz1, hz2⟩ := info3_parts
  have HRD := hidM hr
  have HT := hidM hT
  have HC := hidM h0
  have hp1 : p.cells.toList = [p] := by obtain ⟨tb, E, rfl, _⟩ := hT; rfl
  obtain ⟨tb, E, rfl, _⟩ := hT
  clear hr h0 hp1
  go_enter Tryz.func305, Tryz.ntmps305
  go_wp2
  go_loopw [8] (fun v wr => ∃ (l : List Nat) (t' : Nat), OwnN wr w.heap.size v l ∧ l.length ≤ n ∧ (∀ x ∈ l, x ≤ 15) ∧ RBox wr B X t' ∧ t' ≤ 8 * X.size ∧ ButR B w wr ∧ (∀ r, Lens c X.data.toList n t' l r → Lens c X.data.toList n t [] r)) (fun v _ => n - lenV v)
  case atStart => exact ⟨[], t, ⟨rfl, .inl ⟨rfl, rfl⟩⟩, Nat.zero_le _, (fun x hx => by simp at hx), HRD.out, ht, ButR.refl _ _, fun r h => h⟩
  case round =>
    obtain ⟨l, t', hown, hln, h15, hrd, ht', hbut, hlens⟩ := hrel
    obtain ⟨a8, c8, rfl, _⟩ := hown.shape
    have HO := hidM hown
    have HRW := hidM hrd
    have HBU := hidM hbut
    have HLE := hidM hlens
    have H15 := hidM h15
    clear hown hrd hbut hlens h15 HRD
    by_cases hlt : l.length < n
    · have kk : (l.length : Int) < (n : Int) := by omega
      have d0 : wr.cell? ⟨B + 1, 0, none⟩ = some (.pointer (some ⟨B, 0, none⟩)) := (World.cell?_of_block (w := w) (a := ⟨B + 1, 0, none⟩) (HBU.out.block (B + 1) hB (by omega))).trans HC.out
      have HSR := hidM (sread_any B c (.pointer (some ⟨tb, 0, none⟩)) X t' (8 * X.size - t') wr hc (HT.out.kept (HBU.out.kept (by omega))) HRW.out hX (by omega))
      go_wp2_with fail
      refine HSR.out.mono ?_
      rintro _ w1 ⟨⟨s, k, rfl, HSY⟩, ho1⟩
      have HO1 : Hid (OwnN w1 w.heap.size (.slice a8 l.length c8) l) := HO.out.only ho1 (by omega)
      have HB1 : Hid (ButR B w w1) := HBU.out.only ho1
      have d1 : w1.cell? ⟨B + 1, 0, none⟩ = some (.pointer (some ⟨B, 0, none⟩)) := (World.cell?_of_block (w := wr) (a := ⟨B + 1, 0, none⟩) (ho1.block (B + 1) (by omega))).trans d0
      clear ho1 HSR d0 HBU HO
      rcases HSY.out with ⟨t2, hk0, hsym, hrd2⟩ | ⟨hk0, hsym, hs0⟩
      · subst hk0
        have HSM := hidM hsym
        have HRD2 := hidM hrd2
        have hlt2 := hsym.lt
        rw [total_size] at hlt2
        have hs320 : s < 320 := Nat.lt_of_lt_of_le hlt2.1 hc.few
        clear hsym hrd2 HSY
        -- MAIN
        by_cases h16 : s < 16
        · have e1 : ((s : Int) == 16) = false := by simp; omega
          have e2 : ¬ (16 : Int) ≤ (s : Int) := by omega
          have e3 : decide (16 ≤ s) = false := by simp; omega
          have e4 : (s : Int) < 16 := by omega
          obtain ⟨z, hz⟩ : ∃ z, z = s := ⟨_, rfl⟩
          obtain ⟨T2, hT20⟩ : ∃ T2, T2 = t2 := ⟨_, rfl⟩
          obtain ⟨T, hT⟩ : ∃ T, T = 1 := ⟨_, rfl⟩
          have hT2 : T2 ≤ 8 * X.size := by omega
          have HMANY : Hid (n < l.length + 1 → StepL c X.data.toList n t' l (.inl 3)) := fun hm => by omega
          have HGOOD : Hid (l.length + 1 ≤ n → StepL c X.data.toList n t' l (.inr (T2, l ++ List.replicate 1 z))) := fun _ => by rw [hT20, hz]; exact .plain s t2 HSM.out h16
          have HZ15 : Hid (∀ x ∈ l ++ List.replicate 1 z, x ≤ 15) := fun y hy => by
            rcases List.mem_append.1 hy with hy | hy
            · exact H15.out y hy
            · have := (List.mem_replicate.1 hy).2
              omega
          have HOW := HO1
          have HBW := HB1
          have HRW2 : Hid (RBox w1 B X T2) := by unfold Hid; rw [hT20]; exact HRD2.out
          subst hz
          clear hT20 hT HO1 HB1 HRD2 HSM d1
          obtain ⟨rm, hrm⟩ : ∃ rm, rm = n - l.length := ⟨_, rfl⟩
          have er : (n : Int) - (l.length : Int) = (rm : Int) := by omega
          have hmany : ¬ rm < 1 := by omega
          have eg : ¬ (rm : Int) < (1 : Int) := by omega
          have eb : decide (rm < 1) = false := by simp; omega
          have HNX : Hid (∀ r, Lens c X.data.toList n T2 (l ++ List.replicate 1 z) r → Lens c X.data.toList n t [] r) := fun r h => HLE.out _ (.next _ _ _ _ _ hlt (HGOOD.out (by omega)) h)
          have hTl : l.length + 1 ≤ n := by omega
          clear hrm hmany HMANY HGOOD
          go_wp2
          go_loopw [8, 58] (fun v i wr => ∃ (j : Nat), j ≤ 1 ∧ i = .int .i64 j ∧ OwnN wr w.heap.size v (l ++ List.replicate j z) ∧ RBox wr B X T2 ∧ ButR B w wr) (fun _ i _ => 1 - (intOf i).toNat)
          case atStart => exact ⟨0, Nat.zero_le _, rfl, by simpa using HOW.out, HRW2.out, HBW.out⟩
          case round =>
            obtain ⟨j, hj, rfl, hown, hrd3, hbut3⟩ := hrel
            have HO3 := hidM hown
            have HR3 := hidM hrd3
            have HB3 := hidM hbut3
            have hsz3 := hbut3.size
            have hll : (l ++ List.replicate j z).length ≤ 700 := by simp; omega
            clear hown hrd3 hbut3 HOW HRW2 HBW
            by_cases hjT : j < 1
            · have kj : (j : Int) < (1 : Int) := by omega
              have HNE : Hid (l ++ List.replicate (j + 1) z = (l ++ List.replicate j z) ++ [z]) := by unfold Hid; rw [List.replicate_succ', List.append_assoc]
              generalize l ++ List.replicate j z = lj at *
              obtain ⟨a9, c9, rfl, _⟩ := HO3.out.shape
              go_wp2_with (first
                | (at_builtin; go_loud (refine wpList_append_own_at _ rfl _ _ 135 rfl w.heap.size 3 i0 (.int .i64 0) 1 8 Tryz.underlying135 hi hz0 hz1 hz2 rfl (by decide) (.slice a9 lj.length c9) lj.length (natsV lj) rfl (World.ownsRow.alloc HO3.out _) ⟨wr.heap.size, 0, none⟩ 1 1 [.int .i64 (z : Int)] ?f0 rfl ?f1 ?f2 ?f3 ?f4 ?f5 ?_)))
              try (case f0 => rfl)
              case f1 => exact World.news_of_block (heap_alloc_new _ _)
              case f2 => first | rfl | (intro u hu; simp at hu; subst hu; rfl)
              case f3 => first | (unfold maxLen; omega) | (simp [maxLen]; omega)
              case f4 => first | omega | (simp; omega)
              case f5 => first | omega | (simp; omega)
              intro v' w6 hown' hgrow _ _
              have HO6 : Hid (OwnN w6 w.heap.size v' (lj ++ [z])) := by
                unfold Hid OwnN
                rw [natsV_app, List.length_append]
                exact hown'
              have HB6 := hidM (HB3.out.grow HO3.out hgrow)
              have HR6 : Hid (RBox w6 B X T2) := HR3.out.same ((hgrow.block B (by simp; omega) (fun e => by have := (World.ownsRow.lt HO3.out B e.symm).1; omega)).trans (Below.heap_alloc wr _ B (by omega)))
              clear hown' hgrow
              go_wp2
              go_roundw
              case rel => exact ⟨j + 1, by omega, by go_num, by rw [HNE.out]; exact HO6.out, HR6.out, HB6.out⟩
              case measure => (show 1 - ((j : Int) + 1).toNat < 1 - ((j : Int)).toNat); omega
            · obtain rfl : j = 1 := by omega
              have kj : ¬ (1 : Int) < (1 : Int) := by omega
              obtain ⟨a9, c9, rfl, _⟩ := HO3.out.shape
              go_wp2
              go_roundw
              case rel => exact ⟨_, T2, HO3.out, by simp; omega, HZ15.out, HR3.out, hT2, HB3.out, HNX.out⟩
              case measure => (show n - (l ++ List.replicate 1 z).length < n - l.length); simp; omega
        · have h16 : 16 ≤ s := by omega
          have e2 : (16 : Int) ≤ (s : Int) := by omega
          have e3 : decide (16 ≤ s) = true := by simp; omega
          by_cases hs16 : s = 16
          · have e1 : ((s : Int) == 16) = true := by simp; omega
            by_cases hl0 : l = []
            · have HR : Hid (Lens c X.data.toList n t [] (.inl 3)) := HLE.out _ (.stop _ _ _ hlt (.first t2 (by rw [← hs16]; exact HSM.out) hl0))
              have e5 : ((l.length : Int) == 0) = true := by rw [hl0]; rfl
              clear hs16 hl0
              go_wp2
              go_ret2
              exact ⟨.inl ⟨3, by decide, HR.out, rfl⟩, HB1.out⟩
            · have hno : ¬ (s = 16 ∧ l = []) := fun h => hl0 h.2
              have hlp : 0 < l.length := List.length_pos_iff.2 hl0
              have e5 : ((l.length : Int) == 0) = false := by simp; omega
              clear hs16 hl0
              have HTM := hidM (readTimes_any (B + 1) B X t2 (8 * X.size - t2) s w1 d1 HRD2.out (by omega) (by omega) (by omega))
              go_wp2_with fail
              refine HTM.out.mono ?_
              rintro _ w2 ⟨hpt, ho2⟩
              have HOW : Hid (OwnN w2 w.heap.size (.slice a8 l.length c8) l) := HO1.out.only ho2 (by omega)
              have HBW : Hid (ButR B w w2) := HB1.out.only ho2
              clear ho2 HTM
              rcases hpt with ⟨hnone, y, rfl⟩ | ⟨x, hsome, hx, rfl, hrd3⟩
              · have HR : Hid (Lens c X.data.toList n t [] (.inl 6)) := HLE.out _ (.stop _ _ _ hlt (.times6 s t2 HSM.out h16 hno hnone))
                clear hnone
                go_wp2
                go_ret2
                exact ⟨.inl ⟨6, by decide, HR.out, rfl⟩, HBW.out⟩
              · obtain ⟨T, hT0⟩ : ∃ T, T = (timesOf s).1 + x := ⟨_, rfl⟩
                obtain ⟨T2, hT20⟩ : ∃ T2, T2 = t2 + (timesOf s).2 := ⟨_, rfl⟩
                obtain ⟨z, hz⟩ : ∃ z, z = (if s = 16 then l.getLast?.getD 0 else 0 : Nat) := ⟨_, rfl⟩
                have hT200 : T ≤ 200 := by rw [hT0]; unfold timesOf; split; (simp only; omega); split; (simp only; omega); simp only; omega
                have hTp : 1 ≤ T := by rw [hT0]; unfold timesOf; split; (simp only; omega); split; (simp only; omega); simp only; omega
                have hT2 : T2 ≤ 8 * X.size := by
                  rw [hT20]
                  have h := hsome
                  unfold num at h
                  rw [total_size] at h
                  split at h
                  · assumption
                  · cases h
                have HMANY : Hid (n < l.length + T → StepL c X.data.toList n t' l (.inl 3)) := fun hm => .many s t2 x HSM.out h16 hno hsome (by rw [← hT0]; exact hm)
                have HGOOD : Hid (l.length + T ≤ n → StepL c X.data.toList n t' l (.inr (T2, l ++ List.replicate T z))) := fun hm => by
                  rw [hT20, hT0, hz]
                  exact .good s t2 x HSM.out h16 hno hsome (by rw [← hT0]; exact hm)
                have HRP := hidM (repeated_any s (.slice a8 l.length c8) w.heap.size l w2 HOW.out (fun e hl => hno ⟨e, hl⟩) (by omega))
                have HZ15 : Hid (∀ x ∈ l ++ List.replicate T z, x ≤ 15) := fun y hy => by
                  rcases List.mem_append.1 hy with hy | hy
                  · exact H15.out y hy
                  · have := (List.mem_replicate.1 hy).2
                    subst this
                    rw [hz]
                    split
                    · cases hg : l.getLast? with
                      | none => simp
                      | some q => exact H15.out q (List.mem_of_getLast? hg)
                    · omega
                have HRW2 : Hid (RBox w2 B X T2) := by unfold Hid; rw [hT20]; exact hrd3
                rw [← hz] at HRP
                rw [← hT0]
                clear hT0 hT20 hz hsome hrd3 hx
                go_wp2_with fail
                refine HRP.out.mono ?_
                rintro _ _ ⟨rfl, rfl⟩
                obtain ⟨rm, hrm⟩ : ∃ rm, rm = n - l.length := ⟨_, rfl⟩
                have er : (n : Int) - (l.length : Int) = (rm : Int) := by omega
                by_cases hmany : rm < T
                · have eg : (rm : Int) < (T : Int) := by omega
                  have HR : Hid (Lens c X.data.toList n t [] (.inl 3)) := HLE.out _ (.stop _ _ _ hlt (HMANY.out (by omega)))
                  clear hrm
                  go_wp2
                  go_ret2
                  exact ⟨.inl ⟨3, by decide, HR.out, rfl⟩, HBW.out⟩
                · have eg : ¬ (rm : Int) < (T : Int) := by omega
                  have eb : decide (rm < T) = false := by simp; omega
                  have HNX : Hid (∀ r, Lens c X.data.toList n T2 (l ++ List.replicate T z) r → Lens c X.data.toList n t [] r) := fun r h => HLE.out _ (.next _ _ _ _ _ hlt (HGOOD.out (by omega)) h)
                  have hTl : l.length + T ≤ n := by omega
                  clear hrm hmany HMANY HGOOD
                  go_wp2
                  go_loopw [8, 58] (fun v i wr => ∃ (j : Nat), j ≤ T ∧ i = .int .i64 j ∧ OwnN wr w.heap.size v (l ++ List.replicate j z) ∧ RBox wr B X T2 ∧ ButR B w wr) (fun _ i _ => T - (intOf i).toNat)
                  case atStart => exact ⟨0, Nat.zero_le _, rfl, by simpa using HOW.out, HRW2.out, HBW.out⟩
                  case round =>
                    obtain ⟨j, hj, rfl, hown, hrd3, hbut3⟩ := hrel
                    have HO3 := hidM hown
                    have HR3 := hidM hrd3
                    have HB3 := hidM hbut3
                    have hsz3 := hbut3.size
                    have hll : (l ++ List.replicate j z).length ≤ 700 := by simp; omega
                    clear hown hrd3 hbut3 HOW HRW2 HBW
                    by_cases hjT : j < T
                    · have kj : (j : Int) < (T : Int) := by omega
                      have HNE : Hid (l ++ List.replicate (j + 1) z = (l ++ List.replicate j z) ++ [z]) := by unfold Hid; rw [List.replicate_succ', List.append_assoc]
                      generalize l ++ List.replicate j z = lj at *
                      obtain ⟨a9, c9, rfl, _⟩ := HO3.out.shape
                      go_wp2_with (first
                        | (at_builtin; go_loud (refine wpList_append_own_at _ rfl _ _ 135 rfl w.heap.size 3 i0 (.int .i64 0) 1 8 Tryz.underlying135 hi hz0 hz1 hz2 rfl (by decide) (.slice a9 lj.length c9) lj.length (natsV lj) rfl (World.ownsRow.alloc HO3.out _) ⟨wr.heap.size, 0, none⟩ 1 1 [.int .i64 (z : Int)] ?f0 rfl ?f1 ?f2 ?f3 ?f4 ?f5 ?_)))
                      try (case f0 => rfl)
                      case f1 => exact World.news_of_block (heap_alloc_new _ _)
                      case f2 => first | rfl | (intro u hu; simp at hu; subst hu; rfl)
                      case f3 => first | (unfold maxLen; omega) | (simp [maxLen]; omega)
                      case f4 => first | omega | (simp; omega)
                      case f5 => first | omega | (simp; omega)
                      intro v' w6 hown' hgrow _ _
                      have HO6 : Hid (OwnN w6 w.heap.size v' (lj ++ [z])) := by
                        unfold Hid OwnN
                        rw [natsV_app, List.length_append]
                        exact hown'
                      have HB6 := hidM (HB3.out.grow HO3.out hgrow)
                      have HR6 : Hid (RBox w6 B X T2) := HR3.out.same ((hgrow.block B (by simp; omega) (fun e => by have := (World.ownsRow.lt HO3.out B e.symm).1; omega)).trans (Below.heap_alloc wr _ B (by omega)))
                      clear hown' hgrow
                      go_wp2
                      go_roundw
                      case rel => exact ⟨j + 1, by omega, by go_num, by rw [HNE.out]; exact HO6.out, HR6.out, HB6.out⟩
                      case measure => (show T - ((j : Int) + 1).toNat < T - ((j : Int)).toNat); omega
                    · obtain rfl : j = T := by omega
                      have kj : ¬ (j : Int) < (j : Int) := by omega
                      obtain ⟨a9, c9, rfl, _⟩ := HO3.out.shape
                      go_wp2
                      go_roundw
                      case rel => exact ⟨_, T2, HO3.out, by simp; omega, HZ15.out, HR3.out, hT2, HB3.out, HNX.out⟩
                      case measure => (show n - (l ++ List.replicate j z).length < n - l.length); simp; omega
          · have hno : ¬ (s = 16 ∧ l = []) := fun h => hs16 h.1
            have e1 : ((s : Int) == 16) = false := by simp; omega
            clear hs16
            have HTM := hidM (readTimes_any (B + 1) B X t2 (8 * X.size - t2) s w1 d1 HRD2.out (by omega) (by omega) (by omega))
            go_wp2_with fail
            refine HTM.out.mono ?_
            rintro _ w2 ⟨hpt, ho2⟩
            have HOW : Hid (OwnN w2 w.heap.size (.slice a8 l.length c8) l) := HO1.out.only ho2 (by omega)
            have HBW : Hid (ButR B w w2) := HB1.out.only ho2
            clear ho2 HTM
            rcases hpt with ⟨hnone, y, rfl⟩ | ⟨x, hsome, hx, rfl, hrd3⟩
            · have HR : Hid (Lens c X.data.toList n t [] (.inl 6)) := HLE.out _ (.stop _ _ _ hlt (.times6 s t2 HSM.out h16 hno hnone))
              clear hnone
              go_wp2
              go_ret2
              exact ⟨.inl ⟨6, by decide, HR.out, rfl⟩, HBW.out⟩
            · obtain ⟨T, hT0⟩ : ∃ T, T = (timesOf s).1 + x := ⟨_, rfl⟩
              obtain ⟨T2, hT20⟩ : ∃ T2, T2 = t2 + (timesOf s).2 := ⟨_, rfl⟩
              obtain ⟨z, hz⟩ : ∃ z, z = (if s = 16 then l.getLast?.getD 0 else 0 : Nat) := ⟨_, rfl⟩
              have hT200 : T ≤ 200 := by rw [hT0]; unfold timesOf; split; (simp only; omega); split; (simp only; omega); simp only; omega
              have hTp : 1 ≤ T := by rw [hT0]; unfold timesOf; split; (simp only; omega); split; (simp only; omega); simp only; omega
              have hT2 : T2 ≤ 8 * X.size := by
                rw [hT20]
                have h := hsome
                unfold num at h
                rw [total_size] at h
                split at h
                · assumption
                · cases h
              have HMANY : Hid (n < l.length + T → StepL c X.data.toList n t' l (.inl 3)) := fun hm => .many s t2 x HSM.out h16 hno hsome (by rw [← hT0]; exact hm)
              have HGOOD : Hid (l.length + T ≤ n → StepL c X.data.toList n t' l (.inr (T2, l ++ List.replicate T z))) := fun hm => by
                rw [hT20, hT0, hz]
                exact .good s t2 x HSM.out h16 hno hsome (by rw [← hT0]; exact hm)
              have HRP := hidM (repeated_any s (.slice a8 l.length c8) w.heap.size l w2 HOW.out (fun e hl => hno ⟨e, hl⟩) (by omega))
              have HZ15 : Hid (∀ x ∈ l ++ List.replicate T z, x ≤ 15) := fun y hy => by
                rcases List.mem_append.1 hy with hy | hy
                · exact H15.out y hy
                · have := (List.mem_replicate.1 hy).2
                  subst this
                  rw [hz]
                  split
                  · cases hg : l.getLast? with
                    | none => simp
                    | some q => exact H15.out q (List.mem_of_getLast? hg)
                  · omega
              have HRW2 : Hid (RBox w2 B X T2) := by unfold Hid; rw [hT20]; exact hrd3
              rw [← hz] at HRP
              rw [← hT0]
              clear hT0 hT20 hz hsome hrd3 hx
              go_wp2_with fail
              refine HRP.out.mono ?_
              rintro _ _ ⟨rfl, rfl⟩
              obtain ⟨rm, hrm⟩ : ∃ rm, rm = n - l.length := ⟨_, rfl⟩
              have er : (n : Int) - (l.length : Int) = (rm : Int) := by omega
              by_cases hmany : rm < T
              · have eg : (rm : Int) < (T : Int) := by omega
                have HR : Hid (Lens c X.data.toList n t [] (.inl 3)) := HLE.out _ (.stop _ _ _ hlt (HMANY.out (by omega)))
                clear hrm
                go_wp2
                go_ret2
                exact ⟨.inl ⟨3, by decide, HR.out, rfl⟩, HBW.out⟩
              · have eg : ¬ (rm : Int) < (T : Int) := by omega
                have eb : decide (rm < T) = false := by simp; omega
                have HNX : Hid (∀ r, Lens c X.data.toList n T2 (l ++ List.replicate T z) r → Lens c X.data.toList n t [] r) := fun r h => HLE.out _ (.next _ _ _ _ _ hlt (HGOOD.out (by omega)) h)
                have hTl : l.length + T ≤ n := by omega
                clear hrm hmany HMANY HGOOD
                go_wp2
                go_loopw [8, 58] (fun v i wr => ∃ (j : Nat), j ≤ T ∧ i = .int .i64 j ∧ OwnN wr w.heap.size v (l ++ List.replicate j z) ∧ RBox wr B X T2 ∧ ButR B w wr) (fun _ i _ => T - (intOf i).toNat)
                case atStart => exact ⟨0, Nat.zero_le _, rfl, by simpa using HOW.out, HRW2.out, HBW.out⟩
                case round =>
                  obtain ⟨j, hj, rfl, hown, hrd3, hbut3⟩ := hrel
                  have HO3 := hidM hown
                  have HR3 := hidM hrd3
                  have HB3 := hidM hbut3
                  have hsz3 := hbut3.size
                  have hll : (l ++ List.replicate j z).length ≤ 700 := by simp; omega
                  clear hown hrd3 hbut3 HOW HRW2 HBW
                  by_cases hjT : j < T
                  · have kj : (j : Int) < (T : Int) := by omega
                    have HNE : Hid (l ++ List.replicate (j + 1) z = (l ++ List.replicate j z) ++ [z]) := by unfold Hid; rw [List.replicate_succ', List.append_assoc]
                    generalize l ++ List.replicate j z = lj at *
                    obtain ⟨a9, c9, rfl, _⟩ := HO3.out.shape
                    go_wp2_with (first
                      | (at_builtin; go_loud (refine wpList_append_own_at _ rfl _ _ 135 rfl w.heap.size 3 i0 (.int .i64 0) 1 8 Tryz.underlying135 hi hz0 hz1 hz2 rfl (by decide) (.slice a9 lj.length c9) lj.length (natsV lj) rfl (World.ownsRow.alloc HO3.out _) ⟨wr.heap.size, 0, none⟩ 1 1 [.int .i64 (z : Int)] ?f0 rfl ?f1 ?f2 ?f3 ?f4 ?f5 ?_)))
                    try (case f0 => rfl)
                    case f1 => exact World.news_of_block (heap_alloc_new _ _)
                    case f2 => first | rfl | (intro u hu; simp at hu; subst hu; rfl)
                    case f3 => first | (unfold maxLen; omega) | (simp [maxLen]; omega)
                    case f4 => first | omega | (simp; omega)
                    case f5 => first | omega | (simp; omega)
                    intro v' w6 hown' hgrow _ _
                    have HO6 : Hid (OwnN w6 w.heap.size v' (lj ++ [z])) := by
                      unfold Hid OwnN
                      rw [natsV_app, List.length_append]
                      exact hown'
                    have HB6 := hidM (HB3.out.grow HO3.out hgrow)
                    have HR6 : Hid (RBox w6 B X T2) := HR3.out.same ((hgrow.block B (by simp; omega) (fun e => by have := (World.ownsRow.lt HO3.out B e.symm).1; omega)).trans (Below.heap_alloc wr _ B (by omega)))
                    clear hown' hgrow
                    go_wp2
                    go_roundw
                    case rel => exact ⟨j + 1, by omega, by go_num, by rw [HNE.out]; exact HO6.out, HR6.out, HB6.out⟩
                    case measure => (show T - ((j : Int) + 1).toNat < T - ((j : Int)).toNat); omega
                  · obtain rfl : j = T := by omega
                    have kj : ¬ (j : Int) < (j : Int) := by omega
                    obtain ⟨a9, c9, rfl, _⟩ := HO3.out.shape
                    go_wp2
                    go_roundw
                    case rel => exact ⟨_, T2, HO3.out, by simp; omega, HZ15.out, HR3.out, hT2, HB3.out, HNX.out⟩
                    case measure => (show n - (l ++ List.replicate j z).length < n - l.length); simp; omega
        -- END
      · have HSM := hidM hsym
        have e0 : ((k : Int) == 0) = false := by simp; omega
        have HR : Hid (Lens c X.data.toList n t [] (.inl k)) := HLE.out _ (.stop _ _ _ hlt (.bad k hsym))
        clear hsym HSY
        go_wp2
        go_ret2
        exact ⟨.inl ⟨k, hk0, HR.out, rfl⟩, HB1.out⟩
    · have HR : Hid (Lens c X.data.toList n t [] (.inr (t', l))) := HLE.out _ (.done _ _ (by omega))
      have kk : ¬ (l.length : Int) < (n : Int) := by omega
      clear hlt
      go_wp2
      go_ret2
      exact ⟨.inr ⟨t', l, _, HR.out, HO.out, HRW.out, rfl⟩, HBU.out⟩
end Go.Proofs.YtlmeoahcpmikiaaGreatDoor
