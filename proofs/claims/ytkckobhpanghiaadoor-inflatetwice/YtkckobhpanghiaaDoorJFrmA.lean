/-
  The document's Stored.
  The law InflateWrites, walked.
  Walks of zlib: Write; a frame is read within other bytes.
  Frames one behind the other: what CartularyFrames writes and reads; Few as a function.
-/
import Derived.Test.YtkckobhpanghiaaDoorDef
namespace Go.Proofs.YtkckobhpanghiaaDoor
open Go.RowKit

end Go.Proofs.YtkckobhpanghiaaDoor
namespace Go.Proofs.YtkckobhpanghiaaDoor
open Go.RowKit

end Go.Proofs.YtkckobhpanghiaaDoor
namespace Go.Proofs.YtkckobhpanghiaaDoor
open Go.RowKit

/-- a frame: head, a stream that tells s, the sum -/
def FrameOf (x s : List UInt8) : Prop := ∃ Z, Tells Z s ∧ Z.length ≤ 5 + s.length ∧ x = [120, 1] ++ Z ++ zsum s
end Go.Proofs.YtkckobhpanghiaaDoor
namespace Go.Proofs.YtkckobhpanghiaaDoor
open Go.RowKit

/-- A slice whose first 'len' cells hold the strings f. -/
def StrsAt (w : World) (a : Option Addr) (len : Nat) (f : Nat → ByteArray) : Prop :=
  len ≤ maxLen ∧ (len = 0 ∨ ∃ b off, a = some ⟨b, off, none⟩ ∧ ∀ i, i < len → w.cell? ⟨b, off + i, none⟩ = some (.string (f i)))

theorem StrsAt.below {w w' : World} {a : Option Addr} {len : Nat} {f : Nat → ByteArray} (h : StrsAt w a len f) (hb : Below w.heap.size w w') : StrsAt w' a len f := by
  refine ⟨h.1, ?_⟩
  rcases h.2 with h0 | ⟨b, off, rfl, hc⟩
  · exact .inl h0
  · exact .inr ⟨b, off, rfl, fun i hi => (hb.cell (p := ⟨b, off + i, none⟩) (World.block_lt_of_cell? w _ (hc i hi))).trans (hc i hi)⟩

theorem StrsAt.get {w : World} {a : Option Addr} {len : Nat} {f : Nat → ByteArray} (h : StrsAt w a len f) (i : Nat) (hi : i < len) : ∃ b off, a = some ⟨b, off, none⟩ ∧ w.cell? ⟨b, off + i, none⟩ = some (.string (f i)) := by
  rcases h.2 with h0 | ⟨b, off, rfl, hc⟩
  · omega
  · exact ⟨b, off, rfl, hc i hi⟩

/-- A slice whose first 'len' cells hold the answers g. -/
def BoolsAt (w : World) (a : Option Addr) (len : Nat) (g : Nat → Bool) : Prop :=
  len ≤ maxLen ∧ (len = 0 ∨ ∃ b off, a = some ⟨b, off, none⟩ ∧ ∀ i, i < len → w.cell? ⟨b, off + i, none⟩ = some (.bool (g i)))

theorem BoolsAt.below {w w' : World} {a : Option Addr} {len : Nat} {g : Nat → Bool} (h : BoolsAt w a len g) (hb : Below w.heap.size w w') : BoolsAt w' a len g := by
  refine ⟨h.1, ?_⟩
  rcases h.2 with h0 | ⟨b, off, rfl, hc⟩
  · exact .inl h0
  · exact .inr ⟨b, off, rfl, fun i hi => (hb.cell (p := ⟨b, off + i, none⟩) (World.block_lt_of_cell? w _ (hc i hi))).trans (hc i hi)⟩

theorem BoolsAt.get {w : World} {a : Option Addr} {len : Nat} {g : Nat → Bool} (h : BoolsAt w a len g) (i : Nat) (hi : i < len) : ∃ b off, a = some ⟨b, off, none⟩ ∧ w.cell? ⟨b, off + i, none⟩ = some (.bool (g i)) := by
  rcases h.2 with h0 | ⟨b, off, rfl, hc⟩
  · omega
  · exact ⟨b, off, rfl, hc i hi⟩

/-- one frame of a text: of itself, or of its frame -/
def FrmP (p : Bool) (x t : List UInt8) : Prop := (p = true ∧ FrameOf x t ∧ x.length ≤ 11 + t.length) ∨ (p = false ∧ ∃ x1, FrameOf x1 t ∧ FrameOf x x1 ∧ x1.length ≤ 11 + t.length ∧ x.length ≤ 22 + t.length)
/-- the frames from number k on -/
inductive RestF (p : Nat → Bool) (t : Nat → List UInt8) (n : Nat) : Nat → List UInt8 → Prop where
  | done : RestF p t n n []
  | more (k : Nat) (x r : List UInt8) (hk : k < n) (h : FrmP (p k) x (t k)) (hr : RestF p t n (k + 1) r) : RestF p t n k (x ++ r)
theorem RestF.next {p : Nat → Bool} {t : Nat → List UInt8} {n k : Nat} {r : List UInt8} (h : RestF p t n k r) (hk : k < n) : ∃ x r', r = x ++ r' ∧ FrmP (p k) x (t k) ∧ RestF p t n (k + 1) r' := by
  cases h with
  | done => omega
  | more _ x r _ h hr => exact ⟨x, r, rfl, h, hr⟩
end Go.Proofs.YtkckobhpanghiaaDoor
