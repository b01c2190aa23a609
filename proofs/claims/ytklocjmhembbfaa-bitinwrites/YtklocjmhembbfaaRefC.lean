/-
  Walks of bitin's Reader, the rest: New at any place, Align, Bytes, and what is asked with numbers that are out of bounds.
-/
import Derived.Test.YtklocjmhembbfaaRefB
namespace Go.Proofs.Ytklocjmhembbfaa
open Go.RowKit

theorem clampA (t : Int) (n : Nat) : ∃ (m p : Int) (A : Nat), A ≤ n ∧ (if t < 0 then 0 else t) = m ∧ (if (n : Int) < m then (n : Int) else m) = (A : Int) ∧ (if (n : Int) < t then (n : Int) else t) = p ∧ (if (0 : Int) < p then p else 0) = (A : Int) := by
  by_cases h0 : t < 0
  · exact ⟨0, t, 0, Nat.zero_le _, by rw [if_pos h0], by rw [if_neg (by omega)]; rfl, by rw [if_neg (by omega)], by rw [if_neg (by omega)]; rfl⟩
  · by_cases h1 : (n : Int) < t
    · by_cases h2 : n = 0
      · subst h2
        exact ⟨t, 0, 0, Nat.le_refl _, by rw [if_neg h0], by rw [if_pos h1], by rw [if_pos h1]; rfl, by rw [if_neg (by omega)]; rfl⟩
      · exact ⟨t, n, n, Nat.le_refl _, by rw [if_neg h0], by rw [if_pos h1], by rw [if_pos h1], by rw [if_pos (by omega)]⟩
    · by_cases h2 : t = 0
      · subst h2
        exact ⟨0, 0, 0, Nat.zero_le _, by rw [if_neg h0], by rw [if_neg h1]; rfl, by rw [if_neg h1], by rw [if_neg (by omega)]; rfl⟩
      · exact ⟨t, t, t.toNat, by omega, by rw [if_neg h0], by rw [if_neg h1]; omega, by rw [if_neg h1], by rw [if_pos (by omega)]; omega⟩

set_option maxHeartbeats 400000 in
theorem newR_at (s : ByteArray) (t m : Int) (A : Nat) (w : World) (hA : A ≤ s.size) (e1 : (if t < 0 then 0 else t) = m) (e2 : (if (s.size : Int) < m then (s.size : Int) else m) = (A : Int)) :
    Calls Try.prog 10 #[.string s, .int .i64 t] w fun e w' => e = .returned (.pointer (some ⟨w.heap.size, 0, none⟩)) ∧ RBox w' w.heap.size (s.extract A s.size) 0 ∧ Below w.heap.size w w' := by
  go_enter Try.func10, Try.ntmps10
  go_wp2
  go_ret
  exact ⟨rfl, heap_alloc_new w _, (Below.refl _ _).alloc (Nat.le_refl _) _⟩

set_option maxHeartbeats 400000 in
theorem ralign_any (b : Nat) (s : ByteArray) (t : Nat) (w : World) (h : RBox w b s t) (ht : t ≤ 1000000000000) :
    Calls Try.prog 16 #[.pointer (some ⟨b, 0, none⟩)] w fun e w' => e = .returned (.tuple #[]) ∧ w' = w.setCell ⟨b, 1, none⟩ (.int .i64 (((t + 7) / 8 * 8 : Nat) : Int)) := by
  have c1 := h.taken
  have f1 := h.frozen 1
  go_enter Try.func16, Try.ntmps16
  go_wp2_with fail
  refine (used_any b s t w h ht).mono ?_
  rintro e w1 ⟨rfl, rfl⟩
  obtain ⟨u, hu⟩ : ∃ u, u = (t + 7) / 8 := ⟨_, rfl⟩
  have hu2 : u ≤ 1000000000000 := by omega
  rw [← hu]
  have HU := hidM hu
  clear hu
  go_wp2
  refine bodyPost_end (results_none Try.results16 _ _ _) rfl ⟨rfl, ?_⟩
  rw [show 8 * (u : Int) = ((u * 8 : Nat) : Int) by omega, HU.out]

set_option maxHeartbeats 400000 in
theorem skip_bad (b : Nat) (n : Int) (w : World) (hn : n < 0 ∨ 32 < n) :
    Calls Try.prog 14 #[.pointer (some ⟨b, 0, none⟩), .int .i64 n] w fun e w' => e = .returned (.bool false) ∧ w' = w := by
  go_enter Try.func14, Try.ntmps14
  rcases hn with hn | hn <;> (go_wp2; go_ret; exact ⟨rfl, rfl⟩)
set_option maxHeartbeats 400000 in
theorem peek_bad (b : Nat) (n : Int) (w : World) (hn : n < 0 ∨ 32 < n) :
    Calls Try.prog 12 #[.pointer (some ⟨b, 0, none⟩), .int .i64 n] w fun e w' => e = .returned (.tuple #[.int .u32 0, .int .i64 0]) ∧ w' = w := by
  go_enter Try.func12, Try.ntmps12
  rcases hn with hn | hn <;> (go_wp2; go_ret2; exact ⟨rfl, rfl⟩)
set_option maxHeartbeats 400000 in
theorem bits_bad (b : Nat) (n : Int) (w : World) (hn : n < 0 ∨ 32 < n) :
    Calls Try.prog 15 #[.pointer (some ⟨b, 0, none⟩), .int .i64 n] w fun e w' => e = .returned (.tuple #[.int .u32 0, .bool false]) ∧ w' = w := by
  go_enter Try.func15, Try.ntmps15
  go_wp2_with fail
  refine (peek_bad b n w hn).mono ?_
  rintro e w1 ⟨rfl, rfl⟩
  go_wp2_with fail
  refine (skip_bad b n _ hn).mono ?_
  rintro e w2 ⟨rfl, rfl⟩
  go_wp2
  go_ret2
  exact ⟨rfl, rfl⟩

theorem RBox.to {w : World} {b : Nat} {s : ByteArray} {t : Nat} (h : RBox w b s t) (m n : Nat) : RBox ((w.drewN m).setCell ⟨b, 1, none⟩ (.int .i64 (n : Int))) b s n := (h.drewN m).set n

/-- Of all memory block b alone may have turned; no block is new. -/
structure Only (b : Nat) (w w' : World) : Prop where
  os : w'.os = w.os
  tape : w'.tape = w.tape
  output : w'.output = w.output
  size : w'.heap.size = w.heap.size
  block : ∀ k, k ≠ b → w'.heap[k]? = w.heap[k]?
theorem Only.refl (b : Nat) (w : World) : Only b w w := ⟨rfl, rfl, rfl, rfl, fun _ _ => rfl⟩
theorem Only.trans {b : Nat} {u v w : World} (h : Only b u v) (k : Only b v w) : Only b u w :=
  ⟨k.os.trans h.os, k.tape.trans h.tape, k.output.trans h.output, k.size.trans h.size, fun i hi => (k.block i hi).trans (h.block i hi)⟩
theorem Only.drewN {b : Nat} {w w' : World} (h : Only b w w') (n : Nat) : Only b w (w'.drewN n) := ⟨h.os, h.tape, h.output, h.size, h.block⟩
theorem Only.setCell {b : Nat} {w w' : World} (h : Only b w w') (o : Nat) (v : Value) : Only b w (w'.setCell ⟨b, o, none⟩ v) :=
  ⟨h.os, h.tape, h.output, by simpa using h.size, fun k hk => (Below.heap_setCell w' ⟨b, o, none⟩ v k hk).trans (h.block k hk)⟩
theorem Only.below {b B : Nat} {w w' : World} (h : Only b w w') (hB : B ≤ b) : Below B w w' :=
  ⟨h.os, h.tape, h.output, by rw [h.size]; exact Nat.le_refl _, fun k hk => h.block k (by omega)⟩

set_option maxHeartbeats 1000000 in
theorem bytes_no (b : Nat) (s : ByteArray) (t u q : Nat) (n : Int) (w : World) (h : RBox w b s t) (hs : s.size ≤ 100000000000) (ht : t ≤ 8 * s.size) (hu : u = (t + 7) / 8) (hq : u + q = s.size) (hn : n < 0 ∨ (q : Int) < n) :
    Calls Try.prog 18 #[.pointer (some ⟨b, 0, none⟩), .int .i64 n] w fun e w' => e = .returned (.tuple #[.string ⟨#[]⟩, .bool false]) ∧ RBox w' b s (u * 8) ∧ Only b w w' := by
  have HU := hidM hu
  have HQ := hidM hq
  have HN := hidM hn
  clear hu hq hn
  go_enter Try.func18, Try.ntmps18
  go_wp2_with fail
  refine (ralign_any b s t w h (by omega)).mono ?_
  rintro e w1 ⟨rfl, rfl⟩
  rw [← HU.out]
  have HR := hidM (h.set (u * 8))
  have HO : Hid (Only b w (w.setCell ⟨b, 1, none⟩ (.int .i64 ((u * 8 : Nat) : Int)))) := (Only.refl b w).setCell _ _
  generalize w.setCell ⟨b, 1, none⟩ (.int .i64 ((u * 8 : Nat) : Int)) = w1 at *
  rcases HN.out with hn | hn
  · go_wp2
    go_ret2
    exact ⟨rfl, HR.out, HO.out⟩
  · have hn0 : ¬ n < 0 := by omega
    have hn1 : (0 : Int) ≤ n := by omega
    have HL : Hid (u * 8 + 8 * q = 8 * s.size) := by have := HQ.out; unfold Hid; omega
    have d1 : ((8 * q : Nat) : Int).tdiv 8 = (q : Int) := by rw [Int.tdiv_eq_ediv_of_nonneg (by omega)]; omega
    have d2 : ((8 * q : Nat) : Int) / 8 = (q : Int) := by omega
    have hqq : (q : Int) ≤ 100000000000 := by have := HQ.out; omega
    go_wp2_with fail
    refine (left_any b s (u * 8) (8 * q) w1 HR.out hs HL.out).mono ?_
    rintro e w2 ⟨rfl, m, rfl⟩
    generalize ((8 * q : Nat) : Int) = z at *
    go_wp2
    go_ret2
    exact ⟨rfl, HR.out.drewN m, HO.out.drewN m⟩

set_option maxHeartbeats 1000000 in
theorem bytes_yes (b : Nat) (s : ByteArray) (t u q n : Nat) (w : World) (h : RBox w b s t) (hs : s.size ≤ 100000000000) (ht : t ≤ 8 * s.size) (hu : u = (t + 7) / 8) (hq : u + q = s.size) (hn : n ≤ q) :
    Calls Try.prog 18 #[.pointer (some ⟨b, 0, none⟩), .int .i64 n] w fun e w' => e = .returned (.tuple #[.string (s.extract u (u + n)), .bool true]) ∧ RBox w' b s (u * 8 + 8 * n) ∧ Only b w w' := by
  have HU := hidM hu
  have HQ := hidM hq
  clear hu hq
  have HUS : u + n ≤ s.size := by have := HQ.out; omega
  go_enter Try.func18, Try.ntmps18
  go_wp2_with fail
  refine (ralign_any b s t w h (by omega)).mono ?_
  rintro e w1 ⟨rfl, rfl⟩
  rw [← HU.out]
  have HR := hidM (h.set (u * 8))
  have HO : Hid (Only b w (w.setCell ⟨b, 1, none⟩ (.int .i64 ((u * 8 : Nat) : Int)))) := (Only.refl b w).setCell _ _
  generalize w.setCell ⟨b, 1, none⟩ (.int .i64 ((u * 8 : Nat) : Int)) = w1 at *
  have HL : Hid (u * 8 + 8 * q = 8 * s.size) := by have := HQ.out; unfold Hid; omega
  have d1 : ((8 * q : Nat) : Int).tdiv 8 = (q : Int) := by rw [Int.tdiv_eq_ediv_of_nonneg (by omega)]; omega
  have d2 : ((8 * q : Nat) : Int) / 8 = (q : Int) := by omega
  have hqq : (q : Int) ≤ 100000000000 := by have := HQ.out; omega
  go_wp2_with fail
  refine (left_any b s (u * 8) (8 * q) w1 HR.out hs HL.out).mono ?_
  rintro e w2 ⟨rfl, m, rfl⟩
  generalize ((8 * q : Nat) : Int) = z at *
  go_wp2_with fail
  refine (used_any b s (u * 8) _ (HR.out.drewN m) (by omega)).mono ?_
  rintro e w3 ⟨rfl, rfl⟩
  rw [show (u * 8 + 7) / 8 = u by omega]
  have c0 := (HR.out.drewN m).text
  have c1 := (HR.out.drewN m).taken
  have f1 := (HR.out.drewN m).frozen 1
  clear d1 d2
  obtain ⟨y, hy⟩ : ∃ y, y = u * 8 := ⟨_, rfl⟩
  have HY := hidM hy
  rw [← hy] at c1
  have hy2 : y ≤ 8 * s.size := by omega
  have HR2 : Hid (RBox ((w1.drewN m).setCell ⟨b, 1, none⟩ (.int .i64 ((u * 8 + 8 * n : Nat) : Int))) b s (u * 8 + 8 * n)) := (HR.out.drewN m).set _
  have HO2 : Hid (Only b w ((w1.drewN m).setCell ⟨b, 1, none⟩ (.int .i64 ((u * 8 + 8 * n : Nat) : Int)))) := (HO.out.drewN m).setCell _ _
  rw [show ((u * 8 + 8 * n : Nat) : Int) = (y : Int) + 8 * (n : Int) by rw [hy]; omega] at HR2 HO2
  clear hy
  go_wp2
  go_ret2
  exact ⟨rfl, HR2.out, HO2.out⟩
end Go.Proofs.Ytklocjmhembbfaa
