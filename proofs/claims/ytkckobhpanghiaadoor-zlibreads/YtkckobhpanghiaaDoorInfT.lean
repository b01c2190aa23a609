/-
  Walks of inflate: a symbol is read, a length, a distance.
-/
import Derived.Test.YtkckobhpanghiaaDoorInfR
import Derived.Test.YtkckobhpanghiaaDoorHufY
import Derived.Deep.RegionHeld3
namespace Go.Proofs.YtkckobhpanghiaaDoor
open Go.RowKit

/-- a set of codes at a pointer, in blocks behind the stream's box -/
def TabQ (w : World) (B : Nat) (p : Value) (c : Cd) : Prop := ∃ tb E, p = .pointer (some ⟨tb, 0, none⟩) ∧ TabS w tb c.ln c.L (B + 2) E ∧ E ≤ w.heap.size
theorem TabQ.kept {w w' : World} {B : Nat} {p : Value} {c : Cd} (h : TabQ w B p c) (hk : Kept B w w') : TabQ w' B p c := by
  obtain ⟨tb, E, hp, ht, hE⟩ := h
  refine ⟨tb, E, hp, ?_, Nat.le_trans hE hk.below.size⟩
  obtain ⟨g, gs, gc, gg, M, hg, h2, h3, h4, h5, h6, q1, q2, q3, q4⟩ := ht
  obtain ⟨hs, hs1, hs2⟩ := hg.sym
  obtain ⟨hc, hc1, hc2⟩ := hg.cod
  obtain ⟨hv, hv1, hv2⟩ := hg.giv
  have k1 := hk.keep tb q1.1 (by omega) (fun cur fr e => by have := hg.tab; unfold TBox at this; rw [this] at e; simp at e)
  have k2 := hk.keep gs q2.1 (by omega) (fun cur fr e => by have := hs1; unfold ABox at this; rw [this] at e; simp at e)
  have k3 := hk.keep gc q3.1 (by omega) (fun cur fr e => by have := hc1; unfold ABox at this; rw [this] at e; simp at e)
  have k4 := hk.keep gg q4.1 (by omega) (fun cur fr e => by have := hv1; unfold ABox at this; rw [this] at e; simp at e)
  exact ⟨g, gs, gc, gg, M, ⟨hg.tab.same k1, ⟨hs, hs1.same k2, hs2⟩, ⟨hc, hc1.same k3, hc2⟩, ⟨hv, hv1.same k4, hv2⟩⟩, h2, h3, h4, h5, h6, q1, q2, q3, q4⟩

/-- what a reading of a symbol answers: symbol s, error n -/
def SymPost (c : Cd) (X : ByteArray) (t rb s n : Nat) (w' : World) : Prop :=
  (∃ t', n = 0 ∧ SymR c X.data.toList t (.inr (s, t')) ∧ RBox w' rb X t') ∨ (n ≠ 0 ∧ SymR c X.data.toList t (.inl n) ∧ s = 0)
theorem sym_of_read {c : Cd} {X : ByteArray} {t l rb : Nat} {e : Ending} {d : Nat} {w' : World} (hl : t + l = 8 * X.size) (h : ReadPost c.ln c.L (le X.data.toList / 2 ^ t) l e d) (hr : RBox w' rb X (t + d)) :
    ∃ s n : Nat, e = .returned (.tuple #[.int .i64 (s : Int), .int .i64 (n : Int)]) ∧ Hid (SymPost c X t rb s n w') := by
  have no : (∀ j, 1 ≤ j → j ≤ l → ¬ Hit c.ln c.L (le X.data.toList / 2 ^ t) j) → ∀ s, ¬ Next c X.data.toList t s := fun hh s hn => by
    obtain ⟨h1, h2, h3, h4⟩ := hn
    rw [total_size] at h3
    exact hh (c.ln s) (by omega) (by omega) (hit_of c.ln c.L _ s h1 h2 h4)
  rcases h with ⟨s, h1, h2, h3, h4, rfl, rfl⟩ | ⟨h1, h2, rfl, rfl⟩ | ⟨h1, h2, rfl, rfl⟩
  · exact ⟨s, 0, rfl, .inl ⟨_, rfl, .hit s ⟨h1, h2, by rw [total_size]; omega, h4⟩, hr⟩⟩
  · exact ⟨0, 6, rfl, .inr ⟨by decide, .short (no h2) (by rw [total_size]; omega), rfl⟩⟩
  · refine ⟨0, 3, rfl, .inr ⟨by decide, .none (fun s hn => ?_) (by rw [total_size]; omega), rfl⟩⟩
    obtain ⟨g1, g2, g3, g4⟩ := hn
    have := lgs_ge c.ln c.L s g1
    exact h2 (c.ln s) (by omega) this (hit_of c.ln c.L _ s g1 g2 g4)
theorem sread_any (B : Nat) (c : Cd) (p : Value) (X : ByteArray) (t l : Nat) (w : World) (hc : c.Ok) (hT : TabQ w B p c) (hr : RBox w B X t) (hX : X.size ≤ 1000000) (hl : t + l = 8 * X.size) :
    Calls Tryd.prog 50 #[p, .pointer (some ⟨B, 0, none⟩)] w fun e w' => (∃ s n : Nat, e = .returned (.tuple #[.int .i64 (s : Int), .int .i64 (n : Int)]) ∧ Hid (SymPost c X t B s n w')) ∧ Only B w w' := by
  have hT2 := hT
  obtain ⟨tb, E, rfl, ht, hE⟩ := hT
  refine (read_sep tb B c.ln c.L X t l w ht.tab (fun w' ho => ?_) hr hX hl hc.few hc.short hc.fits).mono ?_
  · obtain ⟨tb', E', hp, ht', _⟩ := hT2.kept ho.kept
    obtain rfl : tb = tb' := by simpa using hp
    exact ht'.tab
  · rintro e w' ⟨⟨d, hd, hrd⟩, ho⟩
    exact ⟨sym_of_read hl hd hrd, ho⟩

/-- what readLength answers -/
def LenPost (X : ByteArray) (t s rb : Nat) (e : Ending) (w' : World) : Prop :=
  (285 < s ∧ e = .returned (.tuple #[.int .i64 0, .int .i64 3])) ∨
  (s ≤ 285 ∧ num X.data.toList t (lenOf s).2 = none ∧ ∃ y : Int, e = .returned (.tuple #[.int .i64 y, .int .i64 6])) ∨
  (s ≤ 285 ∧ ∃ x, num X.data.toList t (lenOf s).2 = some x ∧ x < 32 ∧ e = .returned (.tuple #[.int .i64 (((lenOf s).1 + x : Nat) : Int), .int .i64 0]) ∧ RBox w' rb X (t + (lenOf s).2))
set_option maxHeartbeats 1000000 in
set_option maxRecDepth 100000 in
theorem readLength_any (db rb : Nat) (X : ByteArray) (t l s : Nat) (w : World) (hS : w.cell? ⟨db, 0, none⟩ = some (.pointer (some ⟨rb, 0, none⟩))) (hr : RBox w rb X t) (hX : X.size ≤ 100000000000) (hl : t + l = 8 * X.size) (hs : 257 ≤ s) (hs2 : s ≤ 320) :
    Calls Tryd.prog 84 #[.pointer (some ⟨db, 0, none⟩), .int .i64 (s : Int)] w fun e w' => LenPost X t s rb e w' ∧ Only rb w w' := by
  go_enter Tryd.func84, Tryd.ntmps84
  by_cases h : s ≤ 285
  · have e0 : ¬ (285 : Int) < (s : Int) := by omega
    have HL := hidM (lengthOf_any s w hs h)
    have hle := lenOf_le hs h
    have HB := hidM (sbits_any db rb X t l (lenOf s).2 w hS hr hX hl (by omega))
    have HR : Hid (∀ e w', ((∃ x, num X.data.toList t (lenOf s).2 = some x ∧ x < 32 ∧ e = Ending.returned (.tuple #[.int .i64 (((lenOf s).1 + x : Nat) : Int), .int .i64 0]) ∧ RBox w' rb X (t + (lenOf s).2)) ∨ (num X.data.toList t (lenOf s).2 = none ∧ ∃ y : Int, e = Ending.returned (.tuple #[.int .i64 y, .int .i64 6]))) → LenPost X t s rb e w') := fun e w' hh => by
      rcases hh with ⟨x, h1, h2, h3, h4⟩ | ⟨h1, h2⟩
      · exact .inr (.inr ⟨h, x, h1, h2, h3, h4⟩)
      · exact .inr (.inl ⟨h, h1, h2⟩)
    clear hr hl
    generalize (lenOf s).1 = A at *
    generalize (lenOf s).2 = K at *
    go_wp2_with fail
    refine HL.out.mono ?_
    rintro _ _ ⟨rfl, rfl⟩
    go_wp2_with fail
    refine HB.out.mono ?_
    rintro _ w1 ⟨hp, ho⟩
    have HO := hidM ho
    clear ho
    rcases hp with ⟨x, h1, h2, rfl, h3⟩ | ⟨h1, rfl, h3⟩
    · have hx : x < 32 := Nat.lt_of_lt_of_le h2 (by have : 2 ^ K ≤ 2 ^ 5 := Nat.pow_le_pow_right (by decide) hle.2.2; omega)
      have H1 := hidM h1
      have H3 := hidM h3
      clear h1 h2 h3
      go_wp2
      go_ret2
      exact ⟨HR.out _ _ (.inl ⟨x, H1.out, hx, by simp, H3.out⟩), HO.out⟩
    · have H1 := hidM h1
      clear h1 h3
      go_wp2
      go_ret2
      exact ⟨HR.out _ _ (.inr ⟨H1.out, _, rfl⟩), HO.out⟩
  · have e0 : (285 : Int) < (s : Int) := by omega
    go_wp2
    go_ret2
    exact ⟨.inl ⟨by omega, rfl⟩, Only.refl _ _⟩
end Go.Proofs.YtkckobhpanghiaaDoor
