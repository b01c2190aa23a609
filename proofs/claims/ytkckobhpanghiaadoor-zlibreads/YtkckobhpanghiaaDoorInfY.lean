/-
  A table hangs on the lengths of its symbols alone.
-/
import Derived.Test.YtkckobhpanghiaaDoorInfT
namespace Go.Proofs.YtkckobhpanghiaaDoor
open Go.RowKit

theorem cnt_congr {ln lm : Nat → Nat} {L : Nat} (h : ∀ i, i < L → ln i = lm i) (n : Nat) : cnt ln n L = cnt lm n L := by
  induction L with
  | zero => rfl
  | succ L ih => rw [cnt, cnt, ih (fun i hi => h i (by omega)), h L (by omega)]
theorem kr_congr {ln lm : Nat → Nat} {L : Nat} (h : ∀ i, i < L → ln i = lm i) (n : Nat) : kr ln L n = kr lm L n := by
  induction n with
  | zero => rfl
  | succ n ih => rw [kr, kr, ih, cnt_congr h]
theorem lgs_congr {ln lm : Nat → Nat} {L : Nat} (h : ∀ i, i < L → ln i = lm i) : lgs ln L = lgs lm L := by
  induction L with
  | zero => rfl
  | succ L ih => rw [lgs, lgs, ih (fun i hi => h i (by omega)), h L (by omega)]
theorem fstC_congr {ln lm : Nat → Nat} {L : Nat} (h : ∀ i, i < L → ln i = lm i) (n : Nat) : fstC ln L n = fstC lm L n := by
  induction n with
  | zero => rfl
  | succ n ih => rw [fstC, fstC, ih, cnt_congr h]
theorem atC_congr {ln lm : Nat → Nat} {L : Nat} (h : ∀ i, i < L → ln i = lm i) (n : Nat) : atC ln L n = atC lm L n := by
  induction n with
  | zero => rfl
  | succ n ih => rw [atC, atC, ih, cnt_congr h]
theorem codeC_congr {ln lm : Nat → Nat} {L : Nat} (h : ∀ i, i < L → ln i = lm i) {s : Nat} (hs : s < L) : codeC ln L s = codeC lm L s := by
  unfold codeC
  rw [h s hs, fstC_congr h, cnt_congr (L := s) (fun i hi => h i (by omega))]
theorem Fit.congr {ln lm : Nat → Nat} {L : Nat} (h : ∀ i, i < L → ln i = lm i) : Fit ln L ↔ Fit lm L := by
  unfold Fit
  rw [kr_congr h, lgs_congr h, cnt_congr h]
theorem TabS.congr {w : World} {b : Nat} {ln lm : Nat → Nat} {L B E : Nat} (h : ∀ i, i < L → ln i = lm i) (ht : TabS w b ln L B E) : TabS w b lm L B E := by
  obtain ⟨g, gs, gc, gg, M, hg, h2, h3, h4, h5, h6, q⟩ := ht
  have e1 : fstC ln L = fstC lm L := funext fun n => fstC_congr h n
  have e2 : (fun n => cnt ln n L) = fun n => cnt lm n L := funext fun n => cnt_congr h n
  have e3 : atC ln L = atC lm L := funext fun n => atC_congr h n
  have e4 := lgs_congr h
  obtain ⟨hs, hs1, hs2⟩ := hg.sym
  obtain ⟨hc, hc1, hc2, hc3⟩ := hg.cod
  obtain ⟨hv, hv1, hv2⟩ := hg.giv
  refine ⟨g, gs, gc, gg, M, ⟨hg.tab, ⟨hs, hs1, fun s h0 hp => ?_⟩, ⟨hc, hc1, fun s h0 => ?_, hc3⟩, ⟨hv, hv1, fun n hn => ?_⟩⟩, ?_, ?_, ?_, h5, h6, q⟩
  · have := hs2 s h0 (by rw [h s h0]; exact hp)
    rw [e3, h s h0, cnt_congr (L := s) (fun i hi => h i (by omega))] at this
    exact this
  · have := hc2 s h0
    rw [codeC_congr h h0, h s h0] at this
    exact this
  · have := hv2 n hn
    rw [cnt_congr h] at this
    exact this
  · rw [← e1, ← e2, ← e3]; exact h2
  · rw [← e3, ← cnt_congr h]; exact h3
  · rw [← e4]; exact h4
/-- what New answers of lengths that are right: a table, or 4 -/
def NewQ (c : Cd) (w : World) (e : Ending) (w' : World) : Prop :=
  (¬ Fit c.ln c.L ∧ e = .returned (.tuple #[.pointer none, .int .i64 4])) ∨
  (Fit c.ln c.L ∧ ∃ tb, e = .returned (.tuple #[.pointer (some ⟨tb, 0, none⟩), .int .i64 0]) ∧ TabS w' tb c.ln c.L w.heap.size w'.heap.size)
theorem new_tab (c : Cd) (a : Option Addr) (cap : Nat) (f : Nat → Int) (w : World) (hf : IntsAt w a c.L .i64 f) (hL : c.L ≤ 320) (h15 : ∀ i, i < c.L → f i = (c.ln i : Int) ∧ c.ln i ≤ 15) :
    Calls Tryd.prog 90 #[.slice a c.L cap] w fun e w' => NewQ c w e w' ∧ Below w.heap.size w w' := by
  refine (new_sep a c.L cap f w hf).mono ?_
  rintro e w' ⟨hp, hb⟩
  refine ⟨?_, hb⟩
  rcases hp with ⟨h1, _⟩ | ⟨_, ⟨i, hi, h2⟩, _⟩ | ⟨_, ln, hln, _, hr⟩
  · omega
  · have := h15 i hi; omega
  · have hag : ∀ i, i < c.L → ln i = c.ln i := fun i hi => by
      have h1 := hln i hi
      have h2 := (h15 i hi).1
      omega
    rcases hr with ⟨hn, rfl⟩ | ⟨hft, tb, rfl, ht⟩
    · exact .inl ⟨fun h => hn ((Fit.congr hag).2 h), rfl⟩
    · exact .inr ⟨(Fit.congr hag).1 hft, tb, rfl, ht.congr hag⟩
end Go.Proofs.YtkckobhpanghiaaDoor
