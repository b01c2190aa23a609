/-
  Mathematics and walks of the document's Inflate: bits, codes, the stream's box, numbers, symbols, stored blocks, tables.
  Walks of the document's Inflate: the symbols of a block.
  Walks of the document's Inflate: what a dynamic block answers, what its steps keep.
-/
import Derived.Test.YtddoemeellbhaaaGreatDoorJBitZ
import Derived.Test.YtddoemeellbhaaaGreatDoorJInfR
import Derived.WalkKit
import Derived.WalkSpells
import Derived.WalkLawsBesides
import Derived.Laws.IdiomStrings
import Derived.Laws.BitsAllLaws
import Derived.Deep.QuietTactic
import Derived.BigQuiet
import Derived.Deep.RegionHeld3
import Derived.Deep.MidRow
import Derived.OpenShut
import Derived.OwnWalk
import Derived.BigRegion
import Derived.Laws.AppendOwnNone
import Derived.Deep.AppendLies
import Derived.Deep.RegionLaw
import Derived.Deep.DrawnRows
import Derived.Test.YtddoemeellbhaaaGreatDoorJInfX
import Derived.Test.YtddoemeellbhaaaGreatDoorJFixC
import Derived.Test.YtddoemeellbhaaaGreatDoorJInfK
namespace Go.Proofs.YtddoemeellbhaaaGreatDoor
open Go.RowKit
/-- The bits of a byte, the lowest first. -/
def bits8 (c : UInt8) : List Bool := (List.range 8).map fun k => (c.toNat / 2 ^ k % 2 == 1)
/-- The bits of a row of bytes. -/
def bitsL : List UInt8 → List Bool
  | [] => []
  | c :: l => bits8 c ++ bitsL l
/-- The sum, symbol by symbol; how many have a code; how many have a long one. -/
def sm (ln : Nat → Nat) : Nat → Nat
  | 0 => 0
  | k + 1 => sm ln k + (if ln k = 0 then 0 else 2 ^ (15 - ln k))
def bg (ln : Nat → Nat) : Nat → Nat
  | 0 => 0
  | k + 1 => bg ln k + (if 1 < ln k then 1 else 0)
/-- The lowest i bits of x, the highest first. -/
def hib (x : Nat) : Nat → List Bool
  | 0 => []
  | i + 1 => (x / 2 ^ i % 2 == 1) :: hib x i
end Go.Proofs.YtddoemeellbhaaaGreatDoor
namespace Go.Proofs.YtddoemeellbhaaaGreatDoor
open Go.RowKit
end Go.Proofs.YtddoemeellbhaaaGreatDoor
namespace Go.Proofs.YtddoemeellbhaaaGreatDoor
open Go.RowKit
def boolsV (l : List Bool) : List Value := l.map Value.bool
set_option maxRecDepth 100000 in
theorem boolsV_at (l : List Bool) (j : Nat) (h : j < l.length) : (boolsV l)[j]? = some (.bool l[j]) := by simp [boolsV, h]
/-- The value v owns just the bits l. -/
def OwnL (w : World) (base : Nat) (v : Value) (l : List Bool) : Prop := w.ownsRow base 4 1 v l.length (boolsV l)
/-- A row of bits that is read. -/
def BAt (w : World) (a : Option Addr) (l : List Bool) : Prop :=
  l = [] ∨ ∃ b off, a = some ⟨b, off, none⟩ ∧ ∀ i (h : i < l.length), w.cell? ⟨b, off + i, none⟩ = some (.bool l[i])
set_option maxRecDepth 100000 in
theorem BAt.get {w : World} {a : Option Addr} {l : List Bool} (h : BAt w a l) (i : Nat) (hi : i < l.length) : ∃ b off, a = some ⟨b, off, none⟩ ∧ w.cell? ⟨b, off + i, none⟩ = some (.bool l[i]) := by
  rcases h with h0 | ⟨b, off, rfl, hc⟩
  · subst h0; simp at hi
  · exact ⟨b, off, rfl, hc i hi⟩
set_option maxRecDepth 100000 in
theorem BAt.below {w w' : World} {a : Option Addr} {l : List Bool} (h : BAt w a l) (hb : Below w.heap.size w w') : BAt w' a l := by
  rcases h with h0 | ⟨b, off, rfl, hc⟩
  · exact .inl h0
  · exact .inr ⟨b, off, rfl, fun i hi => (hb.cell (p := ⟨b, off + i, none⟩) (World.block_lt_of_cell? w _ (hc i hi))).trans (hc i hi)⟩
set_option maxRecDepth 100000 in
/-- What a value that owns bits looks like to a reader. -/
theorem OwnL.bat {w : World} {B : Nat} {v : Value} {l : List Bool} (h : OwnL w B v l) : ∃ a cap, v = .slice a l.length cap ∧ BAt w a l := by
  rcases h.2 with ⟨rfl, hn⟩ | ⟨g, cap, cur, rfl, hb, hg, hnc, hcm, hcs, htake⟩
  · exact ⟨none, 0, by rw [hn], .inl (List.eq_nil_of_length_eq_zero hn)⟩
  · refine ⟨_, cap, rfl, .inr ⟨g, 0, rfl, fun i hi => ?_⟩⟩
    have := World.ownsRow.cells (g := g) h rfl i _ (boolsV_at l i hi)
    rwa [Addr.add_lit] at this
set_option maxRecDepth 100000 in
theorem OwnL.below {w w' : World} {B : Nat} {v : Value} {l : List Bool} (h : OwnL w B v l) (hb : Below w.heap.size w w') : OwnL w' B v l := by
  refine ⟨h.1, ?_⟩
  rcases h.2 with h0 | ⟨g, cap, cur, hv, hg, hc, hr⟩
  · exact .inl h0
  · exact .inr ⟨g, cap, cur, hv, hg, by rw [hb.block g ((Array.getElem?_eq_some_iff.1 hc).1)]; exact hc, hr⟩
/-- A symbol's code has been laid ahead of length n, symbol k. -/
def Did (ln : Nat → Nat) (n k s : Nat) : Prop := 0 < ln s ∧ (ln s < n ∨ ln s = n ∧ s < k)
/-- The rows of codes in block g, those laid ahead of length n, symbol k. -/
structure CSt (w0 w : World) (g : Nat) (ln : Nat → Nat) (L n k : Nat) : Prop where
  base : w0.heap.size ≤ g
  box : ∃ cur, w.heap[g]? = some (.cells cur 115 (0, 0)) ∧ L ≤ cur.size
  yes : ∀ s, s < L → Did ln n k s → ∃ b c, w.cell? ⟨g, s, none⟩ = some (.slice (some ⟨b, 0, none⟩) (ln s) c) ∧ (b ≠ g ∧ w0.heap.size ≤ b) ∧ ∀ i (h : i < (hib (codeC ln L s) (ln s)).length), w.cell? ⟨b, 0 + i, none⟩ = some (.bool (hib (codeC ln L s) (ln s))[i])
  no : ∀ s, s < L → ¬ Did ln n k s → w.cell? ⟨g, s, none⟩ = some (.slice none 0 0)
  bel : Below w0.heap.size w0 w
set_option maxRecDepth 100000 in
theorem CSt.lt {w0 w : World} {g : Nat} {ln : Nat → Nat} {L n k : Nat} (h : CSt w0 w g ln L n k) : g < w.heap.size := by
  obtain ⟨cur, hc, _⟩ := h.box
  exact (Array.getElem?_eq_some_iff.1 hc).1
set_option maxRecDepth 100000 in
theorem CSt.below {w0 w w' : World} {g : Nat} {ln : Nat → Nat} {L n k : Nat} (h : CSt w0 w g ln L n k) (hb : Below w.heap.size w w') : CSt w0 w' g ln L n k := by
  have hg := h.lt
  refine ⟨h.base, ?_, ?_, ?_, h.bel.trans (hb.mono h.bel.size)⟩
  · obtain ⟨cur, hc, hs⟩ := h.box
    exact ⟨cur, (hb.block g hg).trans hc, hs⟩
  · intro s hs hd
    obtain ⟨b, c, h1, h2, h3⟩ := h.yes s hs hd
    exact ⟨b, c, (hb.cell (p := ⟨g, s, none⟩) hg).trans h1, h2, fun i hi => (hb.cell (p := ⟨b, 0 + i, none⟩) (World.block_lt_of_cell? w _ (h3 i hi))).trans (h3 i hi)⟩
  · intro s hs hd
    exact (hb.cell (p := ⟨g, s, none⟩) hg).trans (h.no s hs hd)
set_option maxRecDepth 100000 in
theorem CSt.same {w0 w : World} {g : Nat} {ln : Nat → Nat} {L n k m j : Nat} (h : CSt w0 w g ln L n k) (hd : ∀ s, s < L → (Did ln n k s ↔ Did ln m j s)) : CSt w0 w g ln L m j :=
  ⟨h.base, h.box, fun s hs h1 => h.yes s hs ((hd s hs).2 h1), fun s hs h1 => h.no s hs (fun h2 => h1 ((hd s hs).1 h2)), h.bel⟩
set_option maxRecDepth 100000 in
theorem CSt.put {w0 w : World} {g : Nat} {ln : Nat → Nat} {L n k b c : Nat} (h : CSt w0 w g ln L n k) (hk : k < L) (hn : ln k = n) (h0 : 0 < n) (hb : b ≠ g ∧ w0.heap.size ≤ b)
    (hc : ∀ i (h : i < (hib (codeC ln L k) n).length), w.cell? ⟨b, 0 + i, none⟩ = some (.bool (hib (codeC ln L k) n)[i])) : CSt w0 (w.setCell ⟨g, k, none⟩ (.slice (some ⟨b, 0, none⟩) n c)) g ln L n (k + 1) := by
  obtain ⟨cur, hcur, hsz⟩ := h.box
  have hnew := heap_setCell_same w g k cur 115 (.slice (some ⟨b, 0, none⟩) n c) hcur
  have hcell : ∀ s, s < L → (w.setCell ⟨g, k, none⟩ (.slice (some ⟨b, 0, none⟩) n c)).cell? ⟨g, s, none⟩ = if s = k then some (.slice (some ⟨b, 0, none⟩) n c) else w.cell? ⟨g, s, none⟩ := by
    intro s hs
    rw [cell_of_row _ g s _ 115 (0, 0) hnew, cell_of_row w g s _ 115 (0, 0) hcur, Array.getElem?_setIfInBounds]
    by_cases he : s = k
    · subst he; rw [if_pos rfl, if_pos (by omega), if_pos rfl]
    · rw [if_neg (fun h => he h.symm), if_neg he]
  have hoth : ∀ b' i, b' ≠ g → (w.setCell ⟨g, k, none⟩ (.slice (some ⟨b, 0, none⟩) n c)).cell? ⟨b', i, none⟩ = w.cell? ⟨b', i, none⟩ := fun b' i hb' =>
    World.cell?_of_block (a := ⟨b', i, none⟩) (Below.heap_setCell w ⟨g, k, none⟩ _ b' hb')
  refine ⟨h.base, ⟨_, hnew, by simpa using hsz⟩, ?_, ?_, below_set h.bel h.base⟩
  · intro s hs hd
    rw [hcell s hs]
    by_cases he : s = k
    · subst he
      rw [if_pos rfl, hn]
      exact ⟨b, c, rfl, hb, fun i hi => by rw [hoth b _ hb.1]; exact hc i hi⟩
    · rw [if_neg he]
      obtain ⟨b', c', h1, h2, h3⟩ := h.yes s hs (by unfold Did at hd ⊢; omega)
      exact ⟨b', c', h1, h2, fun i hi => by rw [hoth b' _ h2.1]; exact h3 i hi⟩
  · intro s hs hd
    rw [hcell s hs]
    by_cases he : s = k
    · subst he; unfold Did at hd; omega
    · rw [if_neg he]
      exact h.no s hs (by unfold Did at hd ⊢; omega)
/-- A row of bits that is read, in a block from B on. -/
def BAtF (w : World) (B : Nat) (a : Option Addr) (l : List Bool) : Prop :=
  l = [] ∨ ∃ b off, B ≤ b ∧ a = some ⟨b, off, none⟩ ∧ ∀ i (h : i < l.length), w.cell? ⟨b, off + i, none⟩ = some (.bool l[i])
set_option maxRecDepth 100000 in
theorem BAtF.bat {w : World} {B : Nat} {a : Option Addr} {l : List Bool} (h : BAtF w B a l) : BAt w a l := by
  rcases h with h | ⟨b, off, _, h1, h2⟩
  · exact .inl h
  · exact .inr ⟨b, off, h1, h2⟩
/-- The rows of codes at a, each read by its place; all blocks from B on. -/
def CodesAt (w : World) (B : Nat) (a : Option Addr) (ln : Nat → Nat) (L : Nat) : Prop :=
  L = 0 ∨ ∃ g, B ≤ g ∧ a = some ⟨g, 0, none⟩ ∧ ∀ s, s < L → ∃ a' c', w.cell? ⟨g, s, none⟩ = some (.slice a' (ln s) c') ∧ BAtF w B a' (hib (codeC ln L s) (ln s))
set_option maxRecDepth 100000 in
theorem CSt.codes {w0 w : World} {g : Nat} {ln : Nat → Nat} {L n k : Nat} (h : CSt w0 w g ln L n k) (h15 : ∀ i, ln i < n) : CodesAt w w0.heap.size (some ⟨g, 0, none⟩) ln L := by
  refine .inr ⟨g, h.base, rfl, fun s hs => ?_⟩
  have := h15 s
  by_cases h0 : ln s = 0
  · have h1 := h.no s hs (by unfold Did; omega)
    exact ⟨none, 0, by rw [h1, h0], .inl (by rw [h0]; rfl)⟩
  · obtain ⟨b, c, h1, h2, h3⟩ := h.yes s hs (by unfold Did; omega)
    exact ⟨_, c, h1, .inr ⟨b, 0, h2.2, rfl, h3⟩⟩
set_option maxRecDepth 100000 in
theorem CodesAt.keep {w w' : World} {B : Nat} {a : Option Addr} {ln : Nat → Nat} {L : Nat} (h : CodesAt w B a ln L) (hk : ∀ k, B ≤ k → k < w.heap.size → w'.heap[k]? = w.heap[k]?) : CodesAt w' B a ln L := by
  rcases h with h | ⟨g, hB, h1, h2⟩
  · exact .inl h
  · refine .inr ⟨g, hB, h1, fun s hs => ?_⟩
    obtain ⟨a', c', h3, h4⟩ := h2 s hs
    refine ⟨a', c', (World.cell?_of_block (a := ⟨g, s, none⟩) (hk g hB (World.block_lt_of_cell? w _ h3))).trans h3, ?_⟩
    rcases h4 with h4 | ⟨b, off, h5, h6, h7⟩
    · exact .inl h4
    · exact .inr ⟨b, off, h5, h6, fun i hi => (World.cell?_of_block (a := ⟨b, off + i, none⟩) (hk b h5 (World.block_lt_of_cell? w _ (h7 i hi)))).trans (h7 i hi)⟩
set_option maxRecDepth 100000 in
theorem CodesAt.below {w w' : World} {B : Nat} {a : Option Addr} {ln : Nat → Nat} {L : Nat} (h : CodesAt w B a ln L) (hb : Below w.heap.size w w') : CodesAt w' B a ln L :=
  h.keep fun k _ h2 => hb.block k h2
set_option maxRecDepth 100000 in
theorem CodesAt.get {w : World} {B : Nat} {a : Option Addr} {ln : Nat → Nat} {L : Nat} (h : CodesAt w B a ln L) (s : Nat) (hs : s < L) : ∃ g a' c', a = some ⟨g, 0, none⟩ ∧ w.cell? ⟨g, s, none⟩ = some (.slice a' (ln s) c') ∧ BAt w a' (hib (codeC ln L s) (ln s)) := by
  rcases h with h | ⟨g, _, h1, h2⟩
  · omega
  · obtain ⟨a', c', h3, h4⟩ := h2 s hs
    exact ⟨g, a', c', h1, h3, h4.bat⟩
set_option maxRecDepth 100000 in
theorem BAt.drewN {w : World} {a : Option Addr} {l : List Bool} (h : BAt w a l) (n : Nat) : BAt (w.drewN n) a l := h
end Go.Proofs.YtddoemeellbhaaaGreatDoor
namespace Go.Proofs.YtddoemeellbhaaaGreatDoor
open Go.RowKit
/-- the document's stream: its bits, the place, what came out, the limit, the error -/
def XBox (w : World) (R : Nat) (bv : Value) (t : Nat) (v : Value) (most e : Nat) : Prop :=
  w.heap[R]? = some (.cells #[bv, .int .i64 (t : Int), v, .int .i64 (most : Int), .int .i64 (e : Int)] 118 (0, 0))
section
variable {w w' : World} {R t most e : Nat} {bv v : Value}
theorem XBox.c0 (h : XBox w R bv t v most e) : w.cell? ⟨R, 0, none⟩ = some bv := by rw [cell_of_row w R _ _ 118 (0, 0) h]; rfl
theorem XBox.c1 (h : XBox w R bv t v most e) : w.cell? ⟨R, 1, none⟩ = some (.int .i64 (t : Int)) := by rw [cell_of_row w R _ _ 118 (0, 0) h]; rfl
theorem XBox.c2 (h : XBox w R bv t v most e) : w.cell? ⟨R, 2, none⟩ = some v := by rw [cell_of_row w R _ _ 118 (0, 0) h]; rfl
theorem XBox.c3 (h : XBox w R bv t v most e) : w.cell? ⟨R, 3, none⟩ = some (.int .i64 (most : Int)) := by rw [cell_of_row w R _ _ 118 (0, 0) h]; rfl
theorem XBox.c4 (h : XBox w R bv t v most e) : w.cell? ⟨R, 4, none⟩ = some (.int .i64 (e : Int)) := by rw [cell_of_row w R _ _ 118 (0, 0) h]; rfl
theorem XBox.fz (h : XBox w R bv t v most e) (j : Nat) : w.frozen? ⟨R, j, none⟩ = false := frozen_of_row w R j _ 118 h
theorem XBox.lt (h : XBox w R bv t v most e) : R < w.heap.size := (Array.getElem?_eq_some_iff.1 h).1
theorem XBox.same (h : XBox w R bv t v most e) (hh : w'.heap[R]? = w.heap[R]?) : XBox w' R bv t v most e := hh.trans h
theorem XBox.set1 (h : XBox w R bv t v most e) (u : Nat) : XBox (w.setCell ⟨R, 1, none⟩ (.int .i64 (u : Int))) R bv u v most e := by unfold XBox; rw [heap_setCell_same w R _ _ 118 _ h]; rfl
theorem XBox.set2 (h : XBox w R bv t v most e) (u : Value) : XBox (w.setCell ⟨R, 2, none⟩ u) R bv t u most e := by unfold XBox; rw [heap_setCell_same w R _ _ 118 _ h]; rfl
theorem XBox.set4 (h : XBox w R bv t v most e) (u : Nat) : XBox (w.setCell ⟨R, 4, none⟩ (.int .i64 (u : Int))) R bv t v most u := by unfold XBox; rw [heap_setCell_same w R _ _ 118 _ h]; rfl
end
theorem BAt.block {w w' : World} {g : Nat} {l : List Bool} (h : BAt w (some ⟨g, 0, none⟩) l) (hg : w'.heap[g]? = w.heap[g]?) : BAt w' (some ⟨g, 0, none⟩) l := by
  rcases h with h0 | ⟨b, off, he, hc⟩
  · exact .inl h0
  · simp only [Option.some.injEq, Addr.mk.injEq, and_true] at he
    obtain ⟨rfl, rfl⟩ := he
    exact .inr ⟨g, 0, rfl, fun i hi => (World.cell?_of_block (a := ⟨g, 0 + i, none⟩) hg).trans (hc i hi)⟩
/-- the document's stream as it stands -/
structure StX (w : World) (R g c T : Nat) (X : List UInt8) (t most e : Nat) (v : Value) (o : List UInt8) : Prop where
  box : XBox w R (.slice (some ⟨g, 0, none⟩) T c) t v most e
  bits : BAt w (some ⟨g, 0, none⟩) (bitsL X)
  gR : g < R
  tot : T = total X
  cap : T ≤ c
  own : OwnB w (R + 1) v o
section
variable {w w' : World} {R g c T t most e : Nat} {X o : List UInt8} {v : Value}
theorem StX.drewN (h : StX w R g c T X t most e v o) (m : Nat) : StX (w.drewN m) R g c T X t most e v o := ⟨h.box, h.bits, h.gR, h.tot, h.cap, h.own⟩
theorem StX.only {t' e' : Nat} (h : StX w R g c T X t most e v o) (ho : Only R w w') (hb : XBox w' R (.slice (some ⟨g, 0, none⟩) T c) t' v most e') : StX w' R g c T X t' most e' v o :=
  ⟨hb, h.bits.block (ho.block g (by have := h.gR; omega)), h.gR, h.tot, h.cap, h.own.same fun k hk => ho.block k (by have := (h.own.ge hk).1; omega)⟩
theorem StX.later (h : StX w R g c T X t most e v o) (hb : Below w.heap.size w w') : StX w' R g c T X t most e v o :=
  ⟨h.box.same (hb.block R h.box.lt), h.bits.below hb, h.gR, h.tot, h.cap, h.own.same fun k hk => hb.block k (h.own.ge hk).2⟩
end
end Go.Proofs.YtddoemeellbhaaaGreatDoor
namespace Go.Proofs.YtddoemeellbhaaaGreatDoor
open Go.RowKit
/-- what the document's number answers -/
def NumPost (R g c T : Nat) (X : List UInt8) (t most n : Nat) (v : Value) (o : List UInt8) (e : Ending) (w' : World) : Prop :=
  (∃ x, num X t n = some x ∧ x < 2 ^ n ∧ t + n ≤ T ∧ e = .returned (.int .i64 (x : Int)) ∧ StX w' R g c T X (t + n) most 0 v o) ∨
  (num X t n = none ∧ e = .returned (.int .i64 0) ∧ StX w' R g c T X t most 6 v o)
end Go.Proofs.YtddoemeellbhaaaGreatDoor
namespace Go.Proofs.YtddoemeellbhaaaGreatDoor
open Go.RowKit
/-- a step of the stream: the box and the row of what came out alone have turned -/
structure Stp (R : Nat) (v v' : Value) (w w' : World) : Prop where
  below : Below R w w'
  sep : Sep R v v' w w'
theorem Stp.refl (R : Nat) (v : Value) (w : World) : Stp R v v w w := ⟨Below.refl _ _, Sep.refl _ _ _⟩
theorem Stp.trans {R : Nat} {v v' v'' : Value} {w w' w'' : World} (h : Stp R v v' w w') (k : Stp R v' v'' w' w'') : Stp R v v'' w w'' := ⟨h.below.trans k.below, h.sep.trans k.sep⟩
theorem Only.stp {R : Nat} {v : Value} {w w' : World} (h : Only R w w') : Stp R v v w w' :=
  ⟨⟨h.os, h.tape, h.output, by rw [h.size]; exact Nat.le_refl _, fun k hk => h.block k (by omega)⟩, fun g h1 h2 h3 => ⟨h.block g h2, h3, by rw [h.size]; exact h1⟩⟩
theorem Below.stp {R : Nat} {v : Value} {w w' : World} (h : Below w.heap.size w w') (hR : R ≤ w.heap.size) : Stp R v v w w' :=
  ⟨h.mono hR, fun g h1 _ h3 => ⟨h.block g h1, h3, Nat.lt_of_lt_of_le h1 h.size⟩⟩
theorem StX.grow {w w1 : World} {R g c T t most e : Nat} {X o : List UInt8} {v v' : Value} {x : UInt8} {ob : Obj} (h : StX w R g c T X t most e v o) (hg : (w.alloc ob).grownBy w1 v.ownBlock)
    (hown : w1.ownsRow (R + 1) 5 1 v' (o.length + 1) (bytesV o ++ [.int .u8 (x.toNat : Int)])) (hloc : v'.ownBlock = v.ownBlock ∨ v'.ownBlock = some (w.heap.size + 1)) :
    (w1.cell? ⟨R, 2, none⟩ = some v ∧ w1.frozen? ⟨R, 2, none⟩ = false) ∧ StX (w1.setCell ⟨R, 2, none⟩ v') R g c T X t most e v' (o ++ [x]) ∧ Stp R v v' w (w1.setCell ⟨R, 2, none⟩ v') := by
  have hlt := h.box.lt
  have hgR := h.gR
  have hsz : (w.alloc ob).heap.size = w.heap.size + 1 := by simp
  have far : ∀ k, k < w.heap.size → some k ≠ v.ownBlock → w1.heap[k]? = w.heap[k]? := fun k h1 h2 => (hg.block k (by omega) h2).trans (Below.heap_alloc w ob k h1)
  have n1 : some R ≠ v.ownBlock := fun e => by have := (h.own.ge e.symm).1; omega
  have n0 : some g ≠ v.ownBlock := fun e => by have := (h.own.ge e.symm).1; omega
  have b1 : XBox w1 R (.slice (some ⟨g, 0, none⟩) T c) t v most e := h.box.same (far _ hlt n1)
  have ho : OwnB w1 (R + 1) v' (o ++ [x]) := by
    unfold OwnB
    rw [bytesV_app, List.length_append]
    exact hown
  refine ⟨⟨b1.c2, b1.fz 2⟩, ⟨b1.set2 v', ?_, h.gR, h.tot, h.cap, ownsRow_setCell_below ho (show R < R + 1 by omega) v'⟩, ⟨?_, ?_⟩⟩
  · exact h.bits.block ((Below.heap_setCell w1 ⟨R, 2, none⟩ v' g (by show g ≠ R; omega)).trans (far g (by omega) n0))
  · refine ⟨?_, ?_, ?_, ?_, fun k hk => ?_⟩
    · exact hg.os
    · exact hg.tape
    · exact hg.output
    · have := hg.size; simp at this ⊢; omega
    · rw [Below.heap_setCell w1 ⟨R, 2, none⟩ v' k (by show k ≠ R; omega)]
      exact far k (by omega) (fun e => by have := (h.own.ge e.symm).1; omega)
  · intro k h1 h2 h3
    refine ⟨(Below.heap_setCell w1 ⟨R, 2, none⟩ v' k h2).trans (far k h1 h3), ?_, ?_⟩
    · rcases hloc with h4 | h4
      · rw [h4]; exact h3
      · rw [h4]; intro e; simp only [Option.some.injEq] at e; omega
    · have := hg.size; simp at this ⊢; omega
end Go.Proofs.YtddoemeellbhaaaGreatDoor
namespace Go.Proofs.YtddoemeellbhaaaGreatDoor
open Go.RowKit
theorem SymR.total (c : Cd) (X : List UInt8) (t : Nat) : ∃ r, SymR c X t r := by
  by_cases h : ∃ s, Next c X t s
  · obtain ⟨s, hs⟩ := h
    exact ⟨_, .hit s hs⟩
  · have hn : ∀ s, ¬ Next c X t s := fun s hs => h ⟨s, hs⟩
    rcases Nat.lt_or_ge (Go.Proofs.YtddoemeellbhaaaGreatDoor.total X) (t + lgs c.ln c.L) with h1 | h1
    · exact ⟨_, .short hn h1⟩
    · exact ⟨_, .none hn h1⟩
/-- the rows of a set's codes lie from B on -/
def CodR (w : World) (B : Nat) (a : Option Addr) (c : Cd) : Prop := CodesAt w B a c.ln c.L
end Go.Proofs.YtddoemeellbhaaaGreatDoor
namespace Go.Proofs.YtddoemeellbhaaaGreatDoor
open Go.RowKit
end Go.Proofs.YtddoemeellbhaaaGreatDoor
namespace Go.Proofs.YtddoemeellbhaaaGreatDoor
open Go.RowKit
/-- two rows of numbers of the call's own -/
structure TwoN (w : World) (B : Nat) (u : Value) (lu : List Nat) (v : Value) (lv : List Nat) : Prop where
  a : OwnN w B u lu
  b : OwnN w B v lv
  ne : ∀ g, u.ownBlock = some g → v.ownBlock ≠ some g
theorem OwnN.same {w w' : World} {B : Nat} {v : Value} {l : List Nat} (h : OwnN w B v l) (hh : ∀ g, v.ownBlock = some g → w'.heap[g]? = w.heap[g]?) : OwnN w' B v l := by
  refine ⟨h.1, ?_⟩
  rcases h.2 with h0 | ⟨g, cap, cur, hv, hg, hc, hr⟩
  · exact .inl h0
  · exact .inr ⟨g, cap, cur, hv, hg, by rw [hh g (by rw [hv]; rfl)]; exact hc, hr⟩
theorem OwnN.ge {w : World} {B : Nat} {v : Value} {l : List Nat} (h : OwnN w B v l) {g : Nat} (hg : v.ownBlock = some g) : B ≤ g ∧ g < w.heap.size := World.ownsRow.lt h g hg
theorem TwoN.swap {w : World} {B : Nat} {u v : Value} {lu lv : List Nat} (h : TwoN w B u lu v lv) : TwoN w B v lv u lu := ⟨h.b, h.a, fun g h1 h2 => h.ne g h2 h1⟩
theorem TwoN.push {w w1 : World} {B : Nat} {u v u' : Value} {lu lv : List Nat} {x : Nat} {ob : Obj} (h : TwoN w B u lu v lv) (hg : (w.alloc ob).grownBy w1 u.ownBlock)
    (hown : w1.ownsRow B 3 1 u' (lu.length + 1) (natsV lu ++ [.int .i64 (x : Int)])) (hloc : u'.ownBlock = u.ownBlock ∨ u'.ownBlock = some (w.heap.size + 1)) : TwoN w1 B u' (lu ++ [x]) v lv := by
  have hsz : (w.alloc ob).heap.size = w.heap.size + 1 := by simp
  refine ⟨?_, h.b.same fun g hg2 => ?_, fun g h1 h2 => ?_⟩
  · unfold OwnN
    rw [natsV_app, List.length_append]
    exact hown
  · have h3 := h.b.ge hg2
    exact (hg.block g (by omega) (fun e => h.ne g e.symm hg2)).trans (Below.heap_alloc w ob g h3.2)
  · have h3 := h.b.ge h2
    rcases hloc with h4 | h4
    · exact h.ne g (h4 ▸ h1) h2
    · rw [h4] at h1
      simp only [Option.some.injEq] at h1
      omega
theorem TwoN.below {w wr w1 : World} {B : Nat} {u v : Value} {lu lv : List Nat} {ob : Obj} (h : TwoN wr B u lu v lv) (hb : Below B w wr) (hB : B ≤ wr.heap.size) (hg : (wr.alloc ob).grownBy w1 u.ownBlock) : Below B w w1 :=
  (hb.alloc hB ob).grown hg (by simp; omega) (fun k hk => (h.a.ge hk).1)
/-- a table: the block, what it holds -/
def TabN (w : World) (B : Nat) (v : Value) (n : Nat) (f : Nat → Nat) : Prop := ∃ g c, v = .slice (some ⟨g, 0, none⟩) n c ∧ B ≤ g ∧ g < w.heap.size ∧ ∀ i, i < n → w.cell? ⟨g, i, none⟩ = some (.int .i64 (f i : Int))
theorem OwnN.tab {w : World} {B n : Nat} {v : Value} {f : Nat → Nat} (h : OwnN w B v ((List.range n).map f)) (hn : 0 < n) : TabN w B v n f := by
  obtain ⟨a, c, hv, hs⟩ := h.shape
  have hl : ((List.range n).map f).length = n := by simp
  obtain ⟨g, rfl, h1, h2, h3⟩ := hs (by omega)
  rw [hl] at hv
  refine ⟨g, c, hv, h1, h2, fun i hi => ?_⟩
  rw [h3 i (by omega)]
  simp
theorem TabN.keep {w w' : World} {B n : Nat} {v : Value} {f : Nat → Nat} (h : TabN w B v n f) (hk : ∀ k, B ≤ k → k < w.heap.size → w'.heap[k]? = w.heap[k]?) (hsz : w.heap.size ≤ w'.heap.size) : TabN w' B v n f := by
  obtain ⟨g, c, hv, h1, h2, h3⟩ := h
  exact ⟨g, c, hv, h1, by omega, fun i hi => (World.cell?_of_block (a := ⟨g, i, none⟩) (hk g h1 h2)).trans (h3 i hi)⟩
theorem TabN.base {w : World} {B B' n : Nat} {v : Value} {f : Nat → Nat} (h : TabN w B v n f) (hB : B' ≤ B) : TabN w B' v n f := by
  obtain ⟨g, c, hv, h1, h2, h3⟩ := h
  exact ⟨g, c, hv, by omega, h2, h3⟩
end Go.Proofs.YtddoemeellbhaaaGreatDoor
namespace Go.Proofs.YtddoemeellbhaaaGreatDoor
open Go.RowKit
end Go.Proofs.YtddoemeellbhaaaGreatDoor
namespace Go.Proofs.YtddoemeellbhaaaGreatDoor
open Go.RowKit
/-- what the document's symbols of a block do -/
def PackX (cl cd : Cd) (R g c T : Nat) (X : List UInt8) (t most : Nat) (v : Value) (o : List UInt8) (w w' : World) : Prop :=
  (∃ e v' o' t', e ≠ 0 ∧ (∀ last, Run X most (.sym last cl cd) t o (.bad e)) ∧ StX w' R g c T X t' most e v' o' ∧ Stp R v v' w w') ∨
  (∃ t' v' o', (∀ last r, Run X most (.blk last) t' o' r → Run X most (.sym last cl cd) t o r) ∧ t < t' ∧ t' ≤ T ∧ o'.length ≤ most ∧ StX w' R g c T X t' most 0 v' o' ∧ Stp R v v' w w')
/-- blocks from B to E stand as they stood, and none is the row of what came out -/
def Frz (B E : Nat) (w3 : World) (v : Value) (wr : World) : Prop := E ≤ wr.heap.size ∧ ∀ k, B ≤ k → k < E → wr.heap[k]? = w3.heap[k]? ∧ some k ≠ v.ownBlock
theorem Frz.stp {B E R : Nat} {w3 wr w' : World} {v v' : Value} (h : Frz B E w3 v wr) (hs : Stp R v v' wr w') (hR : R < B) : Frz B E w3 v' w' :=
  ⟨Nat.le_trans h.1 hs.below.size, fun k h1 h2 => by
    obtain ⟨h3, h4⟩ := h.2 k h1 h2
    obtain ⟨h5, h6, _⟩ := hs.sep k (Nat.lt_of_lt_of_le h2 h.1) (by omega) h4
    exact ⟨h5.trans h3, h6⟩⟩
theorem Frz.codes {B : Nat} {w3 wr : World} {v : Value} {a : Option Addr} {cd : Cd} (h : Frz B w3.heap.size w3 v wr) (hC : CodR w3 B a cd) : CodR wr B a cd :=
  CodesAt.keep hC fun k h1 h2 => (h.2 k h1 h2).1
theorem Frz.cell {B g n i : Nat} {w3 wr : World} {v : Value} {f : Nat → Nat} (h : Frz B w3.heap.size w3 v wr) (h1 : B ≤ g) (h2 : g < w3.heap.size) (h3 : ∀ i, i < n → w3.cell? ⟨g, i, none⟩ = some (.int .i64 (f i : Int))) (hi : i < n) : wr.cell? ⟨g, i, none⟩ = some (.int .i64 (f i : Int)) :=
  (World.cell?_of_block (a := ⟨g, i, none⟩) (h.2 g h1 h2).1).trans (h3 i hi)
/-- two cells of tables, and nothing but the stream's box has turned -/
def TabS2 (w : World) (R g1 g2 j : Nat) (A K : Nat) (w' : World) : Prop := w'.cell? ⟨g1, j, none⟩ = some (.int .i64 (A : Int)) ∧ w'.cell? ⟨g2, j, none⟩ = some (.int .i64 (K : Int)) ∧ Hid (Only R w w')
theorem TabS2.of {w V : World} {R g1 g2 j A K : Nat} (h1 : w.cell? ⟨g1, j, none⟩ = some (.int .i64 (A : Int))) (h2 : w.cell? ⟨g2, j, none⟩ = some (.int .i64 (K : Int))) (h : Hid (DrewOf w V)) : TabS2 w R g1 g2 j A K V := by
  obtain ⟨n, rfl⟩ := h
  exact ⟨h1, h2, (Only.refl R w).drewN n⟩
/-- the bits that were taken, as the box tells them -/
def bitX (R : Nat) (w : World) : Nat := match w.cell? ⟨R, 1, none⟩ with
  | some (.int _ x) => x.toNat
  | _ => 0
theorem StX.bit {w : World} {R g c T t most e : Nat} {X o : List UInt8} {v : Value} (h : StX w R g c T X t most e v o) : bitX R w = t := by
  unfold bitX; rw [h.box.c1]; simp
theorem OwnB.cellAt {w : World} {B : Nat} {v : Value} {l : List UInt8} (h : OwnB w B v l) {i : Nat} {b : UInt8} (hi : l[i]? = some b) : ∃ g c, v = .slice (some ⟨g, 0, none⟩) l.length c ∧ w.cell? ⟨g, i, none⟩ = some (.int .u8 (b.toNat : Int)) := by
  have hil : i < l.length := (List.getElem?_eq_some_iff.1 hi).1
  rcases h.2 with ⟨h0, h1⟩ | ⟨g, cap, cur, hv, hg, hc, hr⟩
  · omega
  · subst hv
    refine ⟨g, cap, rfl, ?_⟩
    have hb : l[i] = b := (List.getElem?_eq_some_iff.1 hi).2
    have := World.ownsRow.cells h (g := g) rfl i (.int .u8 (b.toNat : Int)) (by rw [← hb]; exact bytesV_at l i hil)
    rw [Addr.add_lit, Nat.zero_add] at this
    exact this
end Go.Proofs.YtddoemeellbhaaaGreatDoor
namespace Go.Proofs.YtddoemeellbhaaaGreatDoor
open Go.RowKit
end Go.Proofs.YtddoemeellbhaaaGreatDoor
namespace Go.Proofs.YtddoemeellbhaaaGreatDoor
open Go.RowKit
/-- a block's symbols were read -/
theorem PackX.next {cl cd : Cd} {R g c T t t0 most : Nat} {X o o0 : List UInt8} {v v0 : Value} {w w' : World} {last : Bool} (h : PackX cl cd R g c T X t most v o w w') (hR : ∀ r, Run X most (.sym last cl cd) t o r → Run X most (.blk false) t0 o0 r) (_h0 : v = v0) (hT : t0 ≤ t) :
    (∃ e t' v' o', e ≠ 0 ∧ Run X most (.blk false) t0 o0 (.bad e) ∧ StX w' R g c T X t' most e v' o' ∧ Below R w w') ∨
    (∃ t' v' o', (∀ r, Run X most (.blk last) t' o' r → Run X most (.blk false) t0 o0 r) ∧ t0 < t' ∧ t' ≤ T ∧ o'.length ≤ most ∧ StX w' R g c T X t' most 0 v' o' ∧ Below R w w') := by
  rcases h with ⟨e, v', o', t', he, h1, h2, h3⟩ | ⟨t', v', o', h1, h2, h3, h4, h5, h6⟩
  · exact .inl ⟨e, t', v', o', he, hR _ (h1 last), h2, h3.below⟩
  · exact .inr ⟨t', v', o', fun r hr => hR r (h1 last r hr), by omega, h3, h4, h5, h6.below⟩
end Go.Proofs.YtddoemeellbhaaaGreatDoor
namespace Go.Proofs.YtddoemeellbhaaaGreatDoor
open Go.RowKit
/-- nineteen numbers that lie in a block -/
def C19 (w : World) (g : Nat) (h : Nat → Value) : Prop := ∀ i, i < 19 → w.cell? ⟨g, i, none⟩ = some (h i) ∧ w.frozen? ⟨g, i, none⟩ = false
theorem C19.block {w w' : World} {g : Nat} {f : Nat → Value} (h : C19 w g f) (hh : w'.heap[g]? = w.heap[g]?) : C19 w' g f := fun i hi =>
  ⟨(World.cell?_of_block (a := ⟨g, i, none⟩) hh).trans (h i hi).1, (World.frozen?_of_block (a := ⟨g, i, none⟩) hh).trans (h i hi).2⟩
theorem C19.set {w : World} {g p : Nat} {f : Nat → Value} (h : C19 w g f) (u : Value) : C19 (w.setCell ⟨g, p, none⟩ u) g (upd f p u) := fun i hi => by
  refine ⟨?_, by rw [World.frozen?_setCell]; exact (h i hi).2⟩
  by_cases hp : i = p
  · subst hp
    rw [World.cell?_setCell_same _ _ _ (h i hi).1]
    simp [upd]
  · rw [World.cell?_setCell_other _ _ _ _ (fun e => hp (by simp only [Addr.mk.injEq] at e; omega)), (h i hi).1]
    simp [upd, hp]
/-- a cell that is turned in a block of the call's own -/
theorem Stp.setNew {R g o : Nat} {v : Value} {w w' : World} (h : Stp R v v w w') (hR : R ≤ g) (hg : w.heap.size ≤ g) (u : Value) : Stp R v v w (w'.setCell ⟨g, o, none⟩ u) :=
  ⟨h.below.trans ⟨rfl, rfl, rfl, by simp, fun k hk => Below.heap_setCell w' ⟨g, o, none⟩ u k (by show k ≠ g; omega)⟩,
   fun k h1 h2 h3 => by
    obtain ⟨h4, h5, h6⟩ := h.sep k h1 h2 h3
    exact ⟨(Below.heap_setCell w' ⟨g, o, none⟩ u k (by show k ≠ g; omega)).trans h4, h5, by simpa using h6⟩⟩
theorem StX.setNew {w : World} {R g c T t most e q p : Nat} {X o : List UInt8} {v : Value} (h : StX w R g c T X t most e v o) (hR : R < q) (hv : ∀ k, v.ownBlock = some k → k < q) (u : Value) : StX (w.setCell ⟨q, p, none⟩ u) R g c T X t most e v o := by
  have hs : ∀ k, k < q → (w.setCell ⟨q, p, none⟩ u).heap[k]? = w.heap[k]? := fun k hk => Below.heap_setCell w ⟨q, p, none⟩ u k (by show k ≠ q; omega)
  exact ⟨h.box.same (hs R hR), h.bits.block (hs g (by have := h.gR; omega)), h.gR, h.tot, h.cap, h.own.same fun k hk => hs k (hv k hk)⟩
/-- the first set's lengths, so far -/
structure FsS (R g c T : Nat) (X : List UInt8) (t0 most : Nat) (v : Value) (o : List UInt8) (w : World) (g1 g2 j : Nat) (wr : World) : Prop where
  st : StX wr R g c T X (t0 + 3 * j) most 0 v o
  le : t0 + 3 * j ≤ T
  fst : C19 wr g1 (hK X t0 j)
  plc : C19 wr g2 (fun i => .int .i64 (plK i : Int))
  stp : Stp R v v w wr
/-- where the blocks lie -/
structure FsB (R : Nat) (v : Value) (w : World) (g1 g2 : Nat) : Prop where
  r : R < w.heap.size
  a : w.heap.size ≤ g1
  b : w.heap.size ≤ g2
  ne : g1 ≠ g2
  own : ∀ k, v.ownBlock = some k → k < w.heap.size
/-- an error behind which nothing is read -/
def ErX (R g c T : Nat) (X : List UInt8) (most : Nat) (v : Value) (o : List UInt8) (w : World) (e : Nat) (wr : World) : Prop := e ≠ 0 ∧ (∃ t, StX wr R g c T X t most e v o) ∧ Stp R v v w wr
theorem FsS.next {R g c T t0 most g1 g2 j x : Nat} {X o : List UInt8} {v : Value} {w wr w9 : World} (h : FsS R g c T X t0 most v o w g1 g2 j wr) (hB : FsB R v w g1 g2) (hj : j < 19) (hn : num X (t0 + 3 * j) 3 = some x) (hle : t0 + 3 * j + 3 ≤ T) (hs : StX w9 R g c T X (t0 + 3 * j + 3) most 0 v o) (ho : Only R wr w9) :
    FsS R g c T X t0 most v o w g1 g2 (j + 1) (w9.setCell ⟨g1, plK j, none⟩ (.int .i64 (x : Int))) := by
  have hr := hB.r; have ha := hB.a; have hb := hB.b; have hne := hB.ne
  have hx : x = bitsN X (t0 + 3 * j) 3 := by unfold num at hn; split at hn; · simp at hn; omega
                                             · cases hn
  have e3 : t0 + 3 * (j + 1) = t0 + 3 * j + 3 := by omega
  refine ⟨?_, by omega, ?_, ?_, ?_⟩
  · rw [e3]; exact hs.setNew (by omega) (fun k hk => by have := hB.own k hk; omega) _
  · rw [← hK_next X t0 j hj, hx]
    exact (h.fst.block (ho.block g1 (by omega))).set _
  · exact (h.plc.block (ho.block g2 (by omega))).block (Below.heap_setCell w9 _ _ g2 (by show g2 ≠ g1; omega))
  · exact (h.stp.trans (ho.stp (v := v))).setNew (by omega) (by omega) _
theorem FsS.bad {R g c T t0 most g1 g2 j t' e p : Nat} {X o : List UInt8} {v u : Value} {w wr w9 : World} (h : FsS R g c T X t0 most v o w g1 g2 j wr) (hB : FsB R v w g1 g2) (he : e ≠ 0) (hs : StX w9 R g c T X t' most e v o) (ho : Only R wr w9) :
    ErX R g c T X most v o w e (w9.setCell ⟨g1, p, none⟩ u) := by
  have hr := hB.r; have ha := hB.a
  exact ⟨he, ⟨t', hs.setNew (by omega) (fun k hk => by have := hB.own k hk; omega) _⟩, (h.stp.trans (ho.stp (v := v))).setNew (by omega) (by omega) _⟩
/-- the lengths, so far -/
structure LnS (R g c T : Nat) (X : List UInt8) (tr most e : Nat) (v : Value) (o : List UInt8) (w w4 : World) (u : Value) (lr : List Nat) (wr : World) : Prop where
  st : StX wr R g c T X tr most e v o
  own : OwnN wr w4.heap.size u lr
  sz : w4.heap.size ≤ wr.heap.size
  frz : ∀ k, w.heap.size ≤ k → k < w4.heap.size → wr.heap[k]? = w4.heap[k]?
  stp : Stp R v v w wr
theorem LnS.only {R g c T tr most e tr' e' : Nat} {X o : List UInt8} {v u : Value} {lr : List Nat} {w w4 wr w' : World} (h : LnS R g c T X tr most e v o w w4 u lr wr) (hR : R < w.heap.size) (h4 : w.heap.size ≤ w4.heap.size) (ho : Only R wr w') (hs : StX w' R g c T X tr' most e' v o) : LnS R g c T X tr' most e' v o w w4 u lr w' :=
  ⟨hs, h.own.only ho (by omega), by rw [ho.size]; exact h.sz, fun k h1 h2 => (ho.block k (by omega)).trans (h.frz k h1 h2), h.stp.trans (ho.stp (v := v))⟩
theorem LnS.codes {R g c T tr most e B : Nat} {X o : List UInt8} {v u : Value} {lr : List Nat} {w w4 wr : World} {a : Option Addr} {cd : Cd} (h : LnS R g c T X tr most e v o w w4 u lr wr) (hB : w.heap.size ≤ B) (hC : CodR w4 B a cd) : CodR wr B a cd :=
  CodesAt.keep hC fun k h1 h2 => h.frz k (by omega) h2
theorem LnS.push {R g c T tr most e x : Nat} {X o : List UInt8} {v u u' : Value} {lr : List Nat} {w w4 wr w1 : World} {ob : Obj} (h : LnS R g c T X tr most e v o w w4 u lr wr) (hR : R < w.heap.size) (h4 : w.heap.size ≤ w4.heap.size) (hv : ∀ k, v.ownBlock = some k → k < w.heap.size)
    (hg : (wr.alloc ob).grownBy w1 u.ownBlock) (hown : w1.ownsRow w4.heap.size 3 1 u' (lr.length + 1) (natsV lr ++ [.int .i64 (x : Int)])) : LnS R g c T X tr most e v o w w4 u' (lr ++ [x]) w1 := by
  have hsz := h.sz
  have far : ∀ k, k < w4.heap.size → w1.heap[k]? = wr.heap[k]? := fun k hk => (hg.block k (by simp; omega) (fun e => by have := (h.own.ge e.symm).1; omega)).trans (Below.heap_alloc wr ob k (by omega))
  have hs1 : wr.heap.size ≤ w1.heap.size := by have := hg.size; simp at this; omega
  refine ⟨⟨h.st.box.same (far R (by omega)), h.st.bits.block (far g (by have := h.st.gR; omega)), h.st.gR, h.st.tot, h.st.cap, h.st.own.same fun k hk => far k (by have := hv k hk; omega)⟩, ?_, by omega, fun k h1 h2 => (far k h2).trans (h.frz k h1 h2), ⟨h.stp.below.trans ⟨hg.os, hg.tape, hg.output, hs1, fun k hk => far k (by omega)⟩, fun k h1 h2 h3 => ?_⟩⟩
  · unfold OwnN
    rw [natsV_app, List.length_append]
    exact hown
  · obtain ⟨h5, h6, h7⟩ := h.stp.sep k h1 h2 h3
    exact ⟨(far k (by omega)).trans h5, h6, by omega⟩
end Go.Proofs.YtddoemeellbhaaaGreatDoor
