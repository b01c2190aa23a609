/-
  Walks of the document's semver: Parse.
  Walks of the document's semver: Parse, of what may be a version.
  Walks of the document's semver: Parse of any text, Canonical; the law SemverParses.
-/
import Derived.Test.YtmhjdahmmdfbcaaGreatDoorJRefC
namespace Go.Proofs.YtmhjdahmmdfbcaaGreatDoor
open Go.RowKit
/-- the two boxes of the document's Parse: what it answers, and v -/
structure PR (w : World) (cs : Array Value) (V : World) : Prop where
  bel : Below w.heap.size w V
  z : V.heap[w.heap.size]? = some (.cells zero23 37)
  v : V.heap[w.heap.size + 1]? = some (.cells cs 37)
theorem PR.next {w V V' : World} {cs : Array Value} (H : PR w cs V) (hb : Below V.heap.size V V') : PR w cs V' := ⟨H.bel.trans (hb.mono H.bel.size), box_kept H.z hb, box_kept H.v hb⟩
theorem PR.set {w V : World} {cs : Array Value} (H : PR w cs V) (i : Nat) (x : Value) : PR w (cs.setIfInBounds i x) (V.setCell ⟨w.heap.size + 1, i, none⟩ x) := by
  refine ⟨H.bel.trans ⟨rfl, rfl, rfl, by simp, fun k hk => Below.heap_setCell V ⟨w.heap.size + 1, i, none⟩ x k (by simp; omega)⟩, ?_, ?_⟩
  · rw [← H.z]; exact Below.heap_setCell V ⟨w.heap.size + 1, i, none⟩ x w.heap.size (by simp)
  · rw [setCell_eq_setRow V _ i cs 37 (0, 0) x H.v]
    exact setRow_heap V _ cs _ 37 (0, 0) H.v
theorem PR.cell {w V : World} {cs : Array Value} (H : PR w cs V) (i : Nat) : V.cell? ⟨w.heap.size + 1, i, none⟩ = cs[i]? := cell_of_row _ _ _ _ 37 (0, 0) H.v
theorem PR.free {w V : World} {cs : Array Value} (H : PR w cs V) (i : Nat) : V.frozen? ⟨w.heap.size + 1, i, none⟩ = false := by simp [World.frozen?, H.v]
theorem PR.start (w : World) : PR w zero23 ((w.alloc (.cells zero23 37)).alloc (.cells zero23 37)) :=
  ⟨((Below.refl _ w).alloc (Nat.le_refl _) _).alloc (by simp) _, heap_alloc2_old _ _ _, heap_alloc2_new _ _ _⟩
theorem PR.grow {w V V' : World} {cs : Array Value} (H : PR w cs V) (hb : Below (w.heap.size + 2) V V') : PR w cs V' :=
  ⟨H.bel.trans (hb.mono (by omega)), by rw [hb.block _ (by omega)]; exact H.z, by rw [hb.block _ (by omega)]; exact H.v⟩
end Go.Proofs.YtmhjdahmmdfbcaaGreatDoor
namespace Go.Proofs.YtmhjdahmmdfbcaaGreatDoor
open Go.RowKit
theorem StrsAt.set {w : World} {g b : Nat} {l : List ByteArray} (h : StrsAt w g l) (hne : g ≠ b) (i : Nat) (v : Value) : StrsAt (w.setCell ⟨b, i, none⟩ v) g l := fun j hj => by
  rw [World.cell?_setCell_other _ _ _ _ (by intro e; simp only [Addr.mk.injEq] at e; exact hne e.1.symm)]
  exact h j hj
end Go.Proofs.YtmhjdahmmdfbcaaGreatDoor
namespace Go.Proofs.YtmhjdahmmdfbcaaGreatDoor
open Go.RowKit
end Go.Proofs.YtmhjdahmmdfbcaaGreatDoor
