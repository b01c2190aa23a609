/-
  Walks of inflate: a distance, a repeat.
-/
import Derived.Test.YtkckobhpanghiaaDoorInfT
namespace Go.Proofs.YtkckobhpanghiaaDoor
open Go.RowKit

/-- V is w but for draws -/
def DrewOf (w V : World) : Prop := ∃ n, V = w.drewN n
theorem DrewOf.refl (w : World) : Hid (DrewOf w w) := ⟨0, rfl⟩
theorem DrewOf.drew {w V : World} (h : Hid (DrewOf w V)) : Hid (DrewOf w V.drew) := by
  obtain ⟨n, rfl⟩ := h
  exact ⟨n + 1, rfl⟩
theorem DrewOf.drewN {w V : World} (h : Hid (DrewOf w V)) (m : Nat) : Hid (DrewOf w (V.drewN m)) := by
  obtain ⟨n, rfl⟩ := h
  exact ⟨n + m, by simp only [World.drewN, Nat.add_assoc]⟩
/-- two cells of the box, and nothing but the reader has turned -/
def BoxS (w : World) (B j : Nat) (p : Value) (w' : World) : Prop := w'.cell? ⟨B + 1, 0, none⟩ = some (.pointer (some ⟨B, 0, none⟩)) ∧ w'.cell? ⟨B + 1, j, none⟩ = some p ∧ Hid (Only B w w')
theorem BoxS.of {w V : World} {B j : Nat} {p : Value} (h0 : w.cell? ⟨B + 1, 0, none⟩ = some (.pointer (some ⟨B, 0, none⟩))) (hj : w.cell? ⟨B + 1, j, none⟩ = some p) (h : Hid (DrewOf w V)) : BoxS w B j p V := by
  obtain ⟨n, rfl⟩ := h
  exact ⟨h0, hj, (Only.refl B w).drewN n⟩
theorem sread_box (B j : Nat) (c : Cd) (p : Value) (X : ByteArray) (t l : Nat) (w : World) (hc : c.Ok) (hT : TabQ w B p c) (hr : RBox w B X t) (hX : X.size ≤ 1000000) (hl : t + l = 8 * X.size)
    (h0 : w.cell? ⟨B + 1, 0, none⟩ = some (.pointer (some ⟨B, 0, none⟩))) (hj : w.cell? ⟨B + 1, j, none⟩ = some p) (V : World) (hV : Hid (DrewOf w V)) :
    Calls Tryd.prog 50 #[p, .pointer (some ⟨B, 0, none⟩)] V fun e w' => (∃ s n : Nat, e = .returned (.tuple #[.int .i64 (s : Int), .int .i64 (n : Int)]) ∧ Hid (SymPost c X t B s n w')) ∧ BoxS w B j p w' := by
  obtain ⟨m, rfl⟩ := hV
  have hk : Kept B w (w.drewN m) := ((Only.refl B w).drewN m).kept
  refine (sread_any B c p X t l (w.drewN m) hc (hT.kept hk) (hr.drewN m) hX hl).mono ?_
  rintro e w' ⟨h1, ho⟩
  refine ⟨h1, (World.cell?_of_block (w := w.drewN m) (a := ⟨B + 1, 0, none⟩) (ho.block (B + 1) (by omega))).trans h0, (World.cell?_of_block (w := w.drewN m) (a := ⟨B + 1, j, none⟩) (ho.block (B + 1) (by omega))).trans hj, ((Only.refl B w).drewN m).trans ho⟩

/-- what readDistance answers -/
def DistPost (cd : Cd) (X : ByteArray) (t rb : Nat) (e : Ending) (w' : World) : Prop :=
  (∃ n : Nat, SymR cd X.data.toList t (.inl n) ∧ n ≠ 0 ∧ ∃ y : Int, e = .returned (.tuple #[.int .i64 y, .int .i64 (n : Int)])) ∨
  (∃ k t2 : Nat, SymR cd X.data.toList t (.inr (k, t2)) ∧ 29 < k ∧ ∃ y : Int, e = .returned (.tuple #[.int .i64 y, .int .i64 3])) ∨
  (∃ k t2 : Nat, SymR cd X.data.toList t (.inr (k, t2)) ∧ k ≤ 29 ∧ num X.data.toList t2 (distOf k).2 = none ∧ ∃ y : Int, e = .returned (.tuple #[.int .i64 y, .int .i64 6])) ∨
  (∃ k t2 x : Nat, SymR cd X.data.toList t (.inr (k, t2)) ∧ k ≤ 29 ∧ num X.data.toList t2 (distOf k).2 = some x ∧ x < 8192 ∧ e = .returned (.tuple #[.int .i64 (((distOf k).1 + x : Nat) : Int), .int .i64 0]) ∧ RBox w' rb X (t2 + (distOf k).2))
set_option maxHeartbeats 2000000 in
set_option maxRecDepth 100000 in
theorem readDistance_any (B : Nat) (X : ByteArray) (t l most : Nat) (last : Bool) (v : Value) (o : List UInt8) (p1 p2 p3 p4 : Value) (cd : Cd) (w : World) (hS : StS w B X t most last v o p1 p2 p3 p4) (hc : cd.Ok) (hT : TabQ w B p2 cd) (hX : X.size ≤ 1000000) (hl : t + l = 8 * X.size) :
    Calls Tryd.prog 85 #[.pointer (some ⟨B + 1, 0, none⟩)] w fun e w' => DistPost cd X t B e w' ∧ Only B w w' := by
  have c0 := hS.box.c0
  have c5 := hS.box.c5
  have H50 := hidM (fun V hV => sread_box B 5 cd p2 X t l w hc hT hS.rd hX hl c0 c5 V hV)
  have HD := DrewOf.refl w
  obtain ⟨tb, E, rfl, _⟩ := hT
  have HBX := hidM (fun V hV => BoxS.of (V := V) c0 c5 hV)
  have HLL := hidM hl
  clear hS hl
  go_enter Tryd.func85, Tryd.ntmps85
  go_wp2_with fail
  go_region_held3 (fun w' => w'.cell? ⟨B + 1, 0, none⟩ = some (.pointer (some ⟨B, 0, none⟩)) ∧ w'.cell? ⟨B + 1, 5, none⟩ = some (.pointer (some ⟨tb, 0, none⟩)) ∧ Hid (Only B w w'))
    (first | exact hS50 | exact HBX.out _ (by repeat (first | exact HD | apply DrewOf.drew | apply DrewOf.drewN)))
    (first
      | (go_at_call 50; with_reducible refine (H50.out _ (by repeat (first | exact HD | apply DrewOf.drew | apply DrewOf.drewN))).mono ?_; rintro e w2 ⟨⟨s, n, rfl, HSY⟩, hS50⟩))
  have HO := hS50.2.2
  have d0 := hS50.1
  have HX8 : Hid (t + l = 8 * X.size) := HLL.out
  clear hS50 H50 HD HBX c0 c5
  rename_i hheld
  clear hheld
  rcases HSY.out with ⟨t2, hn, hsym, hrd⟩ | ⟨hn, hsym, hs0⟩
  · subst hn
    have HSM := hidM hsym
    have HRD := hidM hrd
    clear hsym hrd HSY
    have hlt := HSM.out.lt
    rw [total_size] at hlt
    have hs320 : s < 320 := Nat.lt_of_lt_of_le hlt.1 hc.few
    by_cases hk : s ≤ 29
    · have e0 : ¬ (29 : Int) < (s : Int) := by omega
      have HL := hidM (distanceOf_any s w2 hk)
      have hle := distOf_le hk
      have HB := hidM (sbits_any (B + 1) B X t2 (8 * X.size - t2) (distOf s).2 w2 d0 HRD.out (by omega) (by omega) (by omega))
      have HR : Hid (∀ e w', ((∃ x, num X.data.toList t2 (distOf s).2 = some x ∧ x < 8192 ∧ e = Ending.returned (.tuple #[.int .i64 (((distOf s).1 + x : Nat) : Int), .int .i64 0]) ∧ RBox w' B X (t2 + (distOf s).2)) ∨ (num X.data.toList t2 (distOf s).2 = none ∧ ∃ y : Int, e = Ending.returned (.tuple #[.int .i64 y, .int .i64 6]))) → DistPost cd X t B e w') := fun e w' hh => by
        rcases hh with ⟨x, h1, h2, h3, h4⟩ | ⟨h1, h2⟩
        · exact .inr (.inr (.inr ⟨s, t2, x, HSM.out, hk, h1, h2, h3, h4⟩))
        · exact .inr (.inr (.inl ⟨s, t2, HSM.out, hk, h1, h2⟩))
      generalize (distOf s).1 = A at *
      generalize (distOf s).2 = K at *
      clear HRD HX8 hlt
      go_wp2_with fail
      refine HL.out.mono ?_
      rintro _ _ ⟨rfl, rfl⟩
      go_wp2_with fail
      refine HB.out.mono ?_
      rintro _ w3 ⟨hp, ho⟩
      have HO3 : Hid (Only B w w3) := HO.out.trans ho
      clear ho
      rcases hp with ⟨x, h1, h2, rfl, h3⟩ | ⟨h1, rfl, h3⟩
      · have hx : x < 8192 := Nat.lt_of_lt_of_le h2 (by have : 2 ^ K ≤ 2 ^ 13 := Nat.pow_le_pow_right (by decide) hle.2.2; omega)
        have H1 := hidM h1
        have H3 := hidM h3
        clear h1 h2 h3
        go_wp2
        go_ret2
        exact ⟨HR.out _ _ (.inl ⟨x, H1.out, hx, by simp, H3.out⟩), HO3.out⟩
      · have H1 := hidM h1
        clear h1 h3
        go_wp2
        go_ret2
        exact ⟨HR.out _ _ (.inr ⟨H1.out, _, rfl⟩), HO3.out⟩
    · have e0 : (29 : Int) < (s : Int) := by omega
      clear HRD HX8 hlt
      go_wp2
      go_ret2
      exact ⟨.inr (.inl ⟨s, t2, HSM.out, by omega, _, rfl⟩), HO.out⟩
  · have e0 : ((n : Int) == 0) = false := by simp; omega
    have HSM := hidM hsym
    clear hsym HSY
    go_wp2
    go_ret2
    exact ⟨.inl ⟨n, HSM.out, hn, _, rfl⟩, HO.out⟩
end Go.Proofs.YtkckobhpanghiaaDoor
