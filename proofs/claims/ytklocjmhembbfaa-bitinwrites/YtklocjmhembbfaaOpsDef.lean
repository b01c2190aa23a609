/-
  A row of calls that is an argument, and the box of one call.
-/
import Derived.Test.YtklocjmhembbfaaRefC
namespace Go.Proofs.Ytklocjmhembbfaa
open Go.RowKit

structure OpV where
  kind : Int
  n : Int
  x : Nat
  text : ByteArray
/-- A row of calls that is an argument. -/
def OpsAt (w : World) (a : Option Addr) (len : Nat) (f : Nat → OpV) : Prop :=
  len ≤ maxLen ∧ (∀ i, (Lit.int .i64 (f i).kind).wf = true ∧ (Lit.int .i64 (f i).n).wf = true ∧ (f i).x < 4294967296 ∧ (f i).text.size ≤ maxLen) ∧
  (len = 0 ∨ ∃ b off, a = some ⟨b, off, none⟩ ∧ ∀ i, i < len → w.cell? ⟨b, off + i * 4, none⟩ = some (.int .i64 (f i).kind) ∧ w.cell? ⟨b, off + i * 4 + 1, none⟩ = some (.int .i64 (f i).n) ∧
    w.cell? ⟨b, off + i * 4 + 2, none⟩ = some (.int .u32 ((f i).x : Int)) ∧ w.cell? ⟨b, off + i * 4 + 3, none⟩ = some (.string (f i).text))
theorem OpsAt.get {w w' : World} {a : Option Addr} {len : Nat} {f : Nat → OpV} (h : OpsAt w a len f) (hb : Below w.heap.size w w') (i : Nat) (hi : i < len) :
    ∃ b off, a = some ⟨b, off, none⟩ ∧ w'.cell? ⟨b, off + i * 4, none⟩ = some (.int .i64 (f i).kind) ∧ w'.cell? ⟨b, off + i * 4 + 1, none⟩ = some (.int .i64 (f i).n) ∧
    w'.cell? ⟨b, off + i * 4 + 2, none⟩ = some (.int .u32 ((f i).x : Int)) ∧ w'.cell? ⟨b, off + i * 4 + 3, none⟩ = some (.string (f i).text) := by
  rcases h.2.2 with h0 | ⟨b, off, rfl, hc⟩
  · omega
  · obtain ⟨c0, c1, c2, c3⟩ := hc i hi
    exact ⟨b, off, rfl, (hb.cell (p := ⟨b, off + i * 4, none⟩) (World.block_lt_of_cell? w _ c0)).trans c0, (hb.cell (p := ⟨b, off + i * 4 + 1, none⟩) (World.block_lt_of_cell? w _ c1)).trans c1,
      (hb.cell (p := ⟨b, off + i * 4 + 2, none⟩) (World.block_lt_of_cell? w _ c2)).trans c2, (hb.cell (p := ⟨b, off + i * 4 + 3, none⟩) (World.block_lt_of_cell? w _ c3)).trans c3⟩

/-- The box of a call. -/
def OBox (w : World) (q : Nat) (kd N : Int) (x : Nat) (T : ByteArray) : Prop := w.heap[q]? = some (.cells #[.int .i64 kd, .int .i64 N, .int .u32 (x : Int), .string T] 30 (0, 0))
theorem OBox.c0 {w : World} {q : Nat} {kd N : Int} {x : Nat} {T : ByteArray} (h : OBox w q kd N x T) : w.cell? ⟨q, 0, none⟩ = some (.int .i64 kd) := by rw [cell_of_row w q _ _ 30 (0, 0) h]; rfl
theorem OBox.c1 {w : World} {q : Nat} {kd N : Int} {x : Nat} {T : ByteArray} (h : OBox w q kd N x T) : w.cell? ⟨q, 1, none⟩ = some (.int .i64 N) := by rw [cell_of_row w q _ _ 30 (0, 0) h]; rfl
theorem OBox.c2 {w : World} {q : Nat} {kd N : Int} {x : Nat} {T : ByteArray} (h : OBox w q kd N x T) : w.cell? ⟨q, 2, none⟩ = some (.int .u32 (x : Int)) := by rw [cell_of_row w q _ _ 30 (0, 0) h]; rfl
theorem OBox.c3 {w : World} {q : Nat} {kd N : Int} {x : Nat} {T : ByteArray} (h : OBox w q kd N x T) : w.cell? ⟨q, 3, none⟩ = some (.string T) := by rw [cell_of_row w q _ _ 30 (0, 0) h]; rfl
theorem OBox.same {w w' : World} {q : Nat} {kd N : Int} {x : Nat} {T : ByteArray} (h : OBox w q kd N x T) (hh : w'.heap[q]? = w.heap[q]?) : OBox w' q kd N x T := by unfold OBox; rw [hh]; exact h
end Go.Proofs.Ytklocjmhembbfaa
