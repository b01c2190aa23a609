/-
  Frames one behind the other: what CartularyFrames writes and reads; Few as a function.
-/
import Derived.Test.YtkckobhpanghiaaDoorZWrA
namespace Go.Proofs.YtkckobhpanghiaaDoor
open Go.RowKit

/-- A slice whose first 'len' cells hold the strings f. -/
def StrsAt (w : World) (a : Option Addr) (len : Nat) (f : Nat → ByteArray) : Prop :=
  len ≤ maxLen ∧ (len = 0 ∨ ∃ b off, a = some ⟨b, off, none⟩ ∧ ∀ i, i < len → w.cell? ⟨b, off + i, none⟩ = some (.string (f i)))

theorem StrsAt.below {w w' : World} {a : Option Addr} {len : Nat} {f : Nat → ByteArray} (h : StrsAt w a len f) (hb : Below w.heap.size w w') : StrsAt w' a len f := by
  refine ⟨h.1, ?_⟩
  rcases h.2 with h0 | ⟨b, off, rfl, hc⟩
  · exact .inl h0
  · exact .inr ⟨b, off, rfl, fun i hi => (hb.cell (p := ⟨b, off + i, none⟩) (World.block_lt_of_cell? w _ (hc i hi))).trans (hc i hi)⟩

theorem StrsAt.get {w : World} {a : Option Addr} {len : Nat} {f : Nat → ByteArray} (h : StrsAt w a len f) (i : Nat) (hi : i < len) : ∃ b off, a = some ⟨b, off, none⟩ ∧ w.cell? ⟨b, off + i, none⟩ = some (.string (f i)) := by
  rcases h.2 with h0 | ⟨b, off, rfl, hc⟩
  · omega
  · exact ⟨b, off, rfl, hc i hi⟩

/-- A slice whose first 'len' cells hold the answers g. -/
def BoolsAt (w : World) (a : Option Addr) (len : Nat) (g : Nat → Bool) : Prop :=
  len ≤ maxLen ∧ (len = 0 ∨ ∃ b off, a = some ⟨b, off, none⟩ ∧ ∀ i, i < len → w.cell? ⟨b, off + i, none⟩ = some (.bool (g i)))

theorem BoolsAt.below {w w' : World} {a : Option Addr} {len : Nat} {g : Nat → Bool} (h : BoolsAt w a len g) (hb : Below w.heap.size w w') : BoolsAt w' a len g := by
  refine ⟨h.1, ?_⟩
  rcases h.2 with h0 | ⟨b, off, rfl, hc⟩
  · exact .inl h0
  · exact .inr ⟨b, off, rfl, fun i hi => (hb.cell (p := ⟨b, off + i, none⟩) (World.block_lt_of_cell? w _ (hc i hi))).trans (hc i hi)⟩

theorem BoolsAt.get {w : World} {a : Option Addr} {len : Nat} {g : Nat → Bool} (h : BoolsAt w a len g) (i : Nat) (hi : i < len) : ∃ b off, a = some ⟨b, off, none⟩ ∧ w.cell? ⟨b, off + i, none⟩ = some (.bool (g i)) := by
  rcases h.2 with h0 | ⟨b, off, rfl, hc⟩
  · omega
  · exact ⟨b, off, rfl, hc i hi⟩

/-- a text cut to n bytes -/
def fewB (s : ByteArray) (n : Nat) : ByteArray := if n < s.size then s.extract 0 n else s
theorem fewB_size (s : ByteArray) (n : Nat) : (fewB s n).size ≤ n := by
  unfold fewB
  split
  · rw [ByteArray.size_extract]; omega
  · omega
set_option maxHeartbeats 400000 in
set_option maxRecDepth 100000 in
theorem fewF_any (s : ByteArray) (n : Nat) (w : World) : Calls Tryd.prog 14 #[.string s, .int .i64 n] w fun e w' => e = .returned (.string (fewB s n)) ∧ w' = w := by
  go_enter Tryd.func14, Tryd.ntmps14
  by_cases h : n < s.size
  · have k : (n : Int) < (s.size : Int) := by omega
    have k2 : (n : Int) ≤ (s.size : Int) := by omega
    have HF : Hid (fewB s n = s.extract 0 n) := by unfold Hid fewB; rw [if_pos h]
    go_wp2
    go_ret
    exact ⟨by rw [HF.out]; rfl, rfl⟩
  · have k : ¬ (n : Int) < (s.size : Int) := by omega
    have HF : Hid (fewB s n = s) := by unfold Hid fewB; rw [if_neg h]
    go_wp2
    go_ret
    exact ⟨by rw [HF.out]; rfl, rfl⟩
/-- one frame of a text: of itself, or of its frame -/
def FrmP (p : Bool) (x t : List UInt8) : Prop := (p = true ∧ FrameOf x t ∧ x.length ≤ 11 + t.length) ∨ (p = false ∧ ∃ x1, FrameOf x1 t ∧ FrameOf x x1 ∧ x1.length ≤ 11 + t.length ∧ x.length ≤ 22 + t.length)
/-- the frames from number k on -/
inductive RestF (p : Nat → Bool) (t : Nat → List UInt8) (n : Nat) : Nat → List UInt8 → Prop where
  | done : RestF p t n n []
  | more (k : Nat) (x r : List UInt8) (hk : k < n) (h : FrmP (p k) x (t k)) (hr : RestF p t n (k + 1) r) : RestF p t n k (x ++ r)
theorem RestF.nil {p : Nat → Bool} {t : Nat → List UInt8} {n k : Nat} {r : List UInt8} (h : RestF p t n k r) (hk : ¬ k < n) : r = [] := by
  cases h with
  | done => rfl
  | more _ x r hk2 _ _ => exact absurd hk2 hk
theorem RestF.next {p : Nat → Bool} {t : Nat → List UInt8} {n k : Nat} {r : List UInt8} (h : RestF p t n k r) (hk : k < n) : ∃ x r', r = x ++ r' ∧ FrmP (p k) x (t k) ∧ RestF p t n (k + 1) r' := by
  cases h with
  | done => omega
  | more _ x r _ h hr => exact ⟨x, r, rfl, h, hr⟩
theorem frame_plain (s : List UInt8) (h : s.length < 65536) : FrameOf (plainL s) s ∧ (plainL s).length ≤ 11 + s.length := by
  refine ⟨⟨storedB 1 s, tells_stored s h, by rw [storedB_len]; exact Nat.le_refl _, rfl⟩, ?_⟩
  unfold plainL
  simp only [List.length_append, List.length_cons, List.length_nil, storedB_len, zsum_len]
  omega
/-- a frame's stream, read alone -/
theorem frame_inf {front x s back : List UInt8} (h : FrameOf x s) {M : Nat} {r : List UInt8 × Nat × Nat} (hM : s.length ≤ M) (hM2 : M ≤ 65536) (hq : InfQ (front ++ (x ++ back)) ((front.length + 2 : Nat) : Int) (M : Int) r) : ∃ m, x.length = m + 6 ∧ r = (s, m, 0) := by
  obtain ⟨Z, hT, _, rfl⟩ := h
  obtain ⟨t, ht, hrun⟩ := hT.app (zsum s ++ back)
  have hz := zsum_len s
  have hlen : (front ++ (([120, 1] ++ Z ++ zsum s) ++ back)).length = front.length + (2 + Z.length + 4 + back.length) := by
    simp only [List.length_append, List.length_cons, List.length_nil, hz]
  have hdrop : (front ++ (([120, 1] ++ Z ++ zsum s) ++ back)).drop (front.length + 2) = Z ++ (zsum s ++ back) := by
    rw [List.drop_append, List.drop_of_length_le (by omega), List.nil_append, show front.length + 2 - front.length = 2 by omega]
    simp [List.append_assoc]
  have h := InfQ.run (A := front.length + 2) (M := M) hq (by omega) hM2 (by rw [hdrop]; exact hrun M hM)
  refine ⟨Z.length, ?_, by rw [h, ht]⟩
  simp only [List.length_append, List.length_cons, List.length_nil, hz]
  omega
end Go.Proofs.YtkckobhpanghiaaDoor
