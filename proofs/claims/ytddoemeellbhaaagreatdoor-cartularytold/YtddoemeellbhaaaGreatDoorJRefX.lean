/-
  The document's Name, Kind, Find.
  The document SHA-1 in this seat.
-/
import Derived.Test.YtddoemeellbhaaaGreatDoorJDecA
import Derived.Test.YtddoemeellbhaaaGreatDoorJShelf
import Derived.Laws.BitsAllLaws
import Derived.WalkKit
import Derived.WalkSpells
import Derived.WalkLawsBesides
import Derived.Laws.IdiomStrings
import Derived.Deep.QuietTactic
import Derived.BigQuiet
import Derived.Deep.RegionHeld3
import Derived.Deep.MidRow
import Derived.Deep.RegionLaw
import Derived.Laws.MakeOwn
import Derived.Deep.RegionWith
import Derived.OwnWalk
import Derived.ArgAppend
namespace Go.Proofs.YtddoemeellbhaaaGreatDoor
open Go.RowKit
theorem index_app (c : UInt8) (p q : List UInt8) (h : c ∉ p) : Lib.indexByte (p ++ c :: q) c = (p.length : Int) := by
  induction p with
  | nil => unfold Lib.indexByte; simp
  | cons b p ih =>
    have h1 : b ≠ c := fun e => h (by simp [e])
    have h2 := ih (fun hc => h (by simp [hc]))
    show Lib.indexByte (b :: (p ++ c :: q)) c = _
    unfold Lib.indexByte
    rw [if_neg (by simpa using h1), h2, if_neg (by simp)]
    simp
end Go.Proofs.YtddoemeellbhaaaGreatDoor
namespace Go.Proofs.YtddoemeellbhaaaGreatDoor
open Go.RowKit
/-- The value v owns just the words l. -/
def OwnW (w : World) (base : Nat) (v : Value) (l : List Nat) : Prop := w.ownsRow base 79 1 v l.length (wordsV l)
set_option maxRecDepth 100000 in
theorem OwnW.at {w : World} {B g n c : Nat} {l : List Nat} (h : OwnW w B (.slice (some ⟨g, 0, none⟩) n c) l) (j : Nat) (hj : j < l.length) : w.cell? ⟨g, j, none⟩ = some (.int .u32 (l.getD j 0 : Nat)) := by
  have := World.ownsRow.cells (g := g) h rfl j _ (wordsV_at l j hj)
  rw [Addr.add_lit, Nat.zero_add, getElem_D l j hj] at this
  exact this
/-- Words that are read from a slice. -/
def WAtO (w : World) (a : Option Addr) (l : List Nat) : Prop := l = [] ∨ ∃ b off, a = some ⟨b, off, none⟩ ∧ ∀ i, i < l.length → w.cell? ⟨b, off + i, none⟩ = some (.int .u32 (l.getD i 0 : Nat))
set_option maxRecDepth 100000 in
theorem WAtO.below {w w' : World} {a : Option Addr} {l : List Nat} (h : WAtO w a l) (hb : Below w.heap.size w w') : WAtO w' a l := by
  rcases h with h0 | ⟨b, off, rfl, hc⟩
  · exact .inl h0
  · exact .inr ⟨b, off, rfl, fun i hi => (hb.cell (p := ⟨b, off + i, none⟩) (World.block_lt_of_cell? w _ (hc i hi))).trans (hc i hi)⟩
set_option maxRecDepth 100000 in
theorem WAtO.get {w : World} {a : Option Addr} {l : List Nat} (h : WAtO w a l) (i : Nat) (hi : i < l.length) : ∃ b off, a = some ⟨b, off, none⟩ ∧ w.cell? ⟨b, off + i, none⟩ = some (.int .u32 (l.getD i 0 : Nat)) := by
  rcases h with h0 | ⟨b, off, rfl, hc⟩
  · subst h0; simp at hi
  · exact ⟨b, off, rfl, hc i hi⟩
/-- The value v owns just the bytes l; no cell of its row is frozen. -/
def OwnM (w : World) (B : Nat) (v : Value) (l : List UInt8) : Prop :=
  ∃ g cap cur fz, v = .slice (some ⟨g, 0, none⟩) l.length cap ∧ B ≤ g ∧ w.heap[g]? = some (.cells cur 5 fz) ∧ (fz.2 = 0 ∨ cur.size ≤ fz.1) ∧ l.length ≤ cap ∧ cap ≤ maxLen ∧ cur.size = cap ∧ cur.toList.take l.length = bytesVO l
set_option maxRecDepth 100000 in
theorem OwnM.lt {w : World} {B : Nat} {v : Value} {l : List UInt8} (h : OwnM w B v l) : ∀ k, v.ownBlock = some k → B ≤ k ∧ k < w.heap.size := by
  obtain ⟨g, cap, cur, fz, rfl, hb, hg, _⟩ := h
  intro k hk
  simp [Value.ownBlock] at hk
  subst hk
  exact ⟨hb, (Array.getElem?_eq_some_iff.1 hg).1⟩
set_option maxRecDepth 100000 in
theorem OwnM.alloc {w : World} {B : Nat} {v : Value} {l : List UInt8} (h : OwnM w B v l) (o : Obj) : OwnM (w.alloc o) B v l := by
  obtain ⟨g, cap, cur, fz, h1, hb, hg, hr⟩ := h
  exact ⟨g, cap, cur, fz, h1, hb, by rw [Below.heap_alloc w o g (Array.getElem?_eq_some_iff.1 hg).1]; exact hg, hr⟩
set_option maxRecDepth 100000 in
theorem OwnM.cells {w : World} {B : Nat} {v : Value} {l : List UInt8} (h : OwnM w B v l) : ∃ g cap, v = .slice (some ⟨g, 0, none⟩) l.length cap ∧ B ≤ g ∧ g < w.heap.size ∧ l.length ≤ cap ∧ ∀ j (hj : j < l.length), w.cell? ⟨g, j, none⟩ = some (.int .u8 (l[j].toNat : Int)) := by
  obtain ⟨g, cap, cur, fz, h1, hb, hg, hf, hl, hm, hs, ht⟩ := h
  refine ⟨g, cap, h1, hb, (Array.getElem?_eq_some_iff.1 hg).1, hl, fun j hj => ?_⟩
  rw [cell_of_row w g j cur 5 fz hg]
  have h2 := bytesV_atO l j hj
  rw [← ht, List.getElem?_take, if_pos hj] at h2
  simpa using h2
/-- The eight bytes of a number, the highest first. -/
def b8 (n : Nat) (k : Nat) : List UInt8 := (List.range k).map fun j => UInt8.ofNat (n / 2 ^ (8 * (7 - j)) % 256)
set_option maxRecDepth 100000 in
theorem OwnM.next {w wr w1 : World} {B : Nat} {v : Value} {P : List UInt8} {o : Obj} (hown : OwnM wr B v P) (hb : Below B w wr) (hB : B ≤ wr.heap.size) (hg : (wr.alloc o).grownBy w1 v.ownBlock) : Below B w w1 :=
  (hb.alloc hB o).grown hg (by simp; omega) (fun k hk => (hown.lt k hk).1)
set_option maxRecDepth 100000 in
theorem blk_len (M : List UInt8) (k K : Nat) (h : M.length = 64 * K) (hk : k < K) : (blk M k).length = 64 := by
  unfold blk; rw [List.length_take, List.length_drop]; omega
set_option maxRecDepth 100000 in
theorem OwnM.range {w : World} {B : Nat} {v : Value} {M : List UInt8} (h : OwnM w B v M) : ∃ g cap, v = .slice (some ⟨g, 0, none⟩) M.length cap ∧ B ≤ g ∧ g < w.heap.size ∧ M.length ≤ cap ∧ cap ≤ maxLen ∧ ∀ k K, M.length = 64 * K → k < K → w.rangeAt g (64 * k) (bytesVO (blk M k)) := by
  have h' := h
  obtain ⟨g, cap, cur, fz, h1, hb, hg, hf, hl, hm, hs, ht⟩ := h'
  obtain ⟨g2, cap2, e1, _,_,_, hc⟩ := h.cells
  rw [h1] at e1
  simp only [Value.slice.injEq, Option.some.injEq, Addr.mk.injEq, and_true, true_and] at e1
  obtain ⟨rfl, rfl⟩ := e1
  refine ⟨g, cap, h1, hb, (Array.getElem?_eq_some_iff.1 hg).1, hl, hm, fun k K hK hk => ?_⟩
  intro j v hv
  have hj : j < (blk M k).length := by have := (List.getElem?_eq_some_iff.1 hv).1; rwa [bytesV_lenO] at this
  have hj64 : j < 64 := by rw [blk_len M k K hK hk] at hj; exact hj
  rw [bytesV_atO _ j hj] at hv
  rw [hc (64 * k + j) (by omega)]
  simp only [Option.some.injEq] at hv
  rw [← hv]
  have e : (blk M k)[j]? = M[64 * k + j]? := by unfold blk; rw [List.getElem?_take, if_pos hj64, List.getElem?_drop]
  rw [List.getElem?_eq_getElem hj, List.getElem?_eq_getElem (show 64 * k + j < M.length by omega)] at e
  rw [Option.some.inj e]
end Go.Proofs.YtddoemeellbhaaaGreatDoor
