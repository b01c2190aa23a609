/-
  bitin in this seat: Bits, Align, Bytes, New at a place.
-/
import Derived.Test.YtkckobhpanghiaaDoorBitY
import Derived.WalkKit
import Derived.WalkSpells
import Derived.WalkLawsBesides
import Derived.Laws.IdiomStrings
import Derived.Laws.BitsAllLaws
import Derived.Deep.QuietTactic
import Derived.BigQuiet
import Derived.Deep.RegionHeld3
import Derived.Deep.MidRow
namespace Go.Proofs.YtkckobhpanghiaaDoor
open Go.RowKit

set_option maxHeartbeats 1000000 in
set_option maxRecDepth 100000 in
theorem bits_yes (b : Nat) (s : ByteArray) (t l n : Nat) (w : World) (h : RBox w b s t) (hs : s.size ≤ 100000000000) (hl : t + l = 8 * s.size) (hn : n ≤ 32) (hk : n ≤ l) :
    Calls Tryd.prog 100 #[.pointer (some ⟨b, 0, none⟩), .int .i64 n] w fun e w' => e = .returned (.tuple #[.int .u32 (bitsN s.data.toList t n : Nat), .bool true]) ∧ ∃ m, w' = (w.drewN m).setCell ⟨b, 1, none⟩ (.int .i64 ((t + n : Nat) : Int)) := by
  have HL := hidM hl
  clear hl
  go_enter Tryd.func100, Tryd.ntmps100
  go_wp2_with fail
  refine (peek_any b s t l n n w h hs HL.out hn (by omega)).mono ?_
  rintro e w1 ⟨rfl, m1, rfl⟩
  go_wp2_with fail
  refine (skip_yes b s t l n _ (h.drewN m1) hs HL.out hn hk).mono ?_
  rintro e w1 ⟨rfl, m2, rfl⟩
  go_wp2
  go_ret2
  exact ⟨rfl, m1 + m2, rfl⟩

set_option maxHeartbeats 1000000 in
set_option maxRecDepth 100000 in
theorem bits_no (b : Nat) (s : ByteArray) (t l n : Nat) (w : World) (h : RBox w b s t) (hs : s.size ≤ 100000000000) (hl : t + l = 8 * s.size) (hn : n ≤ 32) (hk : l < n) :
    Calls Tryd.prog 100 #[.pointer (some ⟨b, 0, none⟩), .int .i64 n] w fun e w' => e = .returned (.tuple #[.int .u32 0, .bool false]) ∧ ∃ m, w' = w.drewN m := by
  have HL := hidM hl
  clear hl
  go_enter Tryd.func100, Tryd.ntmps100
  go_wp2_with fail
  refine (peek_any b s t l n l w h hs HL.out hn (by omega)).mono ?_
  rintro e w1 ⟨rfl, m1, rfl⟩
  generalize bitsN s.data.toList t l = x at *
  go_wp2_with fail
  refine (skip_no b s t l n _ (h.drewN m1) hs HL.out hn hk).mono ?_
  rintro e w1 ⟨rfl, m2, rfl⟩
  go_wp2
  go_ret2
  exact ⟨rfl, m1 + m2, rfl⟩

set_option maxRecDepth 100000 in
theorem clampA (t : Int) (n : Nat) : ∃ (m p : Int) (A : Nat), A ≤ n ∧ (if t < 0 then 0 else t) = m ∧ (if (n : Int) < m then (n : Int) else m) = (A : Int) ∧ (if (n : Int) < t then (n : Int) else t) = p ∧ (if (0 : Int) < p then p else 0) = (A : Int) := by
  by_cases h0 : t < 0
  · exact ⟨0, t, 0, Nat.zero_le _, by rw [if_pos h0], by rw [if_neg (by omega)]; rfl, by rw [if_neg (by omega)], by rw [if_neg (by omega)]; rfl⟩
  · by_cases h1 : (n : Int) < t
    · by_cases h2 : n = 0
      · subst h2
        exact ⟨t, 0, 0, Nat.le_refl _, by rw [if_neg h0], by rw [if_pos h1], by rw [if_pos h1]; rfl, by rw [if_neg (by omega)]; rfl⟩
      · exact ⟨t, n, n, Nat.le_refl _, by rw [if_neg h0], by rw [if_pos h1], by rw [if_pos h1], by rw [if_pos (by omega)]⟩
    · by_cases h2 : t = 0
      · subst h2
        exact ⟨0, 0, 0, Nat.zero_le _, by rw [if_neg h0], by rw [if_neg h1]; rfl, by rw [if_neg h1], by rw [if_neg (by omega)]; rfl⟩
      · exact ⟨t, t, t.toNat, by omega, by rw [if_neg h0], by rw [if_neg h1]; omega, by rw [if_neg h1], by rw [if_pos (by omega)]; omega⟩

set_option maxHeartbeats 400000 in
set_option maxRecDepth 100000 in
theorem newR_at (s : ByteArray) (t m : Int) (A : Nat) (w : World) (hA : A ≤ s.size) (e1 : (if t < 0 then 0 else t) = m) (e2 : (if (s.size : Int) < m then (s.size : Int) else m) = (A : Int)) :
    Calls Tryd.prog 29 #[.string s, .int .i64 t] w fun e w' => e = .returned (.pointer (some ⟨w.heap.size, 0, none⟩)) ∧ RBox w' w.heap.size (s.extract A s.size) 0 ∧ Below w.heap.size w w' := by
  go_enter Tryd.func29, Tryd.ntmps29
  go_wp2
  go_ret
  exact ⟨rfl, heap_alloc_new w _, (Below.refl _ _).alloc (Nat.le_refl _) _⟩

set_option maxHeartbeats 1000000 in
set_option maxRecDepth 100000 in
theorem bytes_no (b : Nat) (s : ByteArray) (t u q : Nat) (n : Int) (w : World) (h : RBox w b s t) (hs : s.size ≤ 100000000000) (ht : t ≤ 8 * s.size) (hu : u = (t + 7) / 8) (hq : u + q = s.size) (hn : n < 0 ∨ (q : Int) < n) :
    Calls Tryd.prog 75 #[.pointer (some ⟨b, 0, none⟩), .int .i64 n] w fun e w' => e = .returned (.tuple #[.string ⟨#[]⟩, .bool false]) ∧ RBox w' b s (u * 8) ∧ Only b w w' := by
  have HU := hidM hu
  have HQ := hidM hq
  have HN := hidM hn
  clear hu hq hn
  go_enter Tryd.func75, Tryd.ntmps75
  go_wp2_with fail
  refine (ralign_any b s t w h (by omega)).mono ?_
  rintro e w1 ⟨rfl, rfl⟩
  rw [← HU.out]
  have HR := hidM (h.set (u * 8))
  have HO : Hid (Only b w (w.setCell ⟨b, 1, none⟩ (.int .i64 ((u * 8 : Nat) : Int)))) := (Only.refl b w).setCell _ _
  generalize w.setCell ⟨b, 1, none⟩ (.int .i64 ((u * 8 : Nat) : Int)) = w1 at *
  rcases HN.out with hn | hn
  · go_wp2
    go_ret2
    exact ⟨rfl, HR.out, HO.out⟩
  · have hn0 : ¬ n < 0 := by omega
    have hn1 : (0 : Int) ≤ n := by omega
    have HL : Hid (u * 8 + 8 * q = 8 * s.size) := by have := HQ.out; unfold Hid; omega
    have d1 : ((8 * q : Nat) : Int).tdiv 8 = (q : Int) := by rw [Int.tdiv_eq_ediv_of_nonneg (by omega)]; omega
    have d2 : ((8 * q : Nat) : Int) / 8 = (q : Int) := by omega
    have hqq : (q : Int) ≤ 100000000000 := by have := HQ.out; omega
    go_wp2_with fail
    refine (left_any b s (u * 8) (8 * q) w1 HR.out hs HL.out).mono ?_
    rintro e w2 ⟨rfl, m, rfl⟩
    generalize ((8 * q : Nat) : Int) = z at *
    go_wp2
    go_ret2
    exact ⟨rfl, HR.out.drewN m, HO.out.drewN m⟩

end Go.Proofs.YtkckobhpanghiaaDoor
