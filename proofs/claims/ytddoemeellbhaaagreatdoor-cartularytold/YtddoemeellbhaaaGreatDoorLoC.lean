/-
  Walks of the law's own: Few of a text, Short.
-/
import Derived.Test.YtddoemeellbhaaaGreatDoorLoB
namespace Go.Proofs.YtddoemeellbhaaaGreatDoor
open Go.RowKit Go.Sort

def fewS (s : ByteArray) : ByteArray := if 400 < s.size then s.extract 0 400 else s
theorem fewS_size (s : ByteArray) : (fewS s).size ≤ 400 := by
  unfold fewS
  split
  · rw [ByteArray.size_extract]; omega
  · omega
set_option maxRecDepth 100000 in
theorem fewL_any (s : ByteArray) (w : World) : Calls Tryz.prog 9 #[.string s, .int .i64 400] w fun e w' => e = .returned (.string (fewS s)) ∧ w' = w := by
  unfold fewS
  by_cases h : 400 < s.size
  · rw [if_pos h]
    have g1 : (400 : Int) < (s.size : Int) := by omega
    have g2 : (400 : Int) ≤ (s.size : Int) := by omega
    go_enter Tryz.func9, Tryz.ntmps9
    go_wp2
    go_ret
    exact ⟨rfl, rfl⟩
  · rw [if_neg h]
    have g1 : ¬ (400 : Int) < (s.size : Int) := by omega
    go_enter Tryz.func9, Tryz.ntmps9
    go_wp2
    go_ret
    exact ⟨rfl, rfl⟩
/-- files in a row of the call's own, into which it may store -/
def FilesW (V : World) (g : Nat) (fs : List FileB) : Prop := ∀ i (h : i < fs.length), V.cell? ⟨g, i * 2, none⟩ = some (.string fs[i].1) ∧ V.cell? ⟨g, i * 2 + 1, none⟩ = some (.string fs[i].2) ∧ V.frozen? ⟨g, i * 2 + 1, none⟩ = false
theorem FilesW.at {V : World} {g : Nat} {fs : List FileB} (h : FilesW V g fs) : FilesAt V g 0 fs := fun i hi => by
  rw [Nat.zero_add]
  exact ⟨(h i hi).1, (h i hi).2.1⟩
theorem FilesW.of {V : World} {g : Nat} {fs : List FileB} (h : HoldsK encF 2 V g 0 fs.toArray) : FilesW V g fs := fun i hi => by
  have ha := FilesAt.of_holds h i hi
  rw [Nat.zero_add] at ha
  have h2 := (HoldsK.cell h (i := i) (c := 1) (by simpa using hi) (by decide)).2
  rw [Nat.zero_add] at h2
  exact ⟨ha.1, ha.2, h2⟩
theorem FilesW.set {V : World} {g k : Nat} {fs : List FileB} (h : FilesW V g fs) (hk : k < fs.length) (t : ByteArray) : FilesW (V.setCell ⟨g, k * 2 + 1, none⟩ (.string t)) g (fs.set k (fs[k].1, t)) := fun i hi => by
  have hi' : i < fs.length := by rw [List.length_set] at hi; exact hi
  obtain ⟨a, b, c⟩ := h i hi'
  by_cases e : i = k
  · subst e
    rw [List.getElem_set_self]
    refine ⟨?_, World.cell?_setCell_same _ _ _ b, by rw [World.frozen?_setCell]; exact c⟩
    rw [World.cell?_setCell_other _ _ _ _ (by simp)]
    exact a
  · rw [List.getElem_set_ne (by omega)]
    refine ⟨?_, ?_, by rw [World.frozen?_setCell]; exact c⟩
    · rw [World.cell?_setCell_other _ _ _ _ (by intro x; injection x with _ x2; omega)]; exact a
    · rw [World.cell?_setCell_other _ _ _ _ (by intro x; injection x with _ x2; omega)]; exact b
end Go.Proofs.YtddoemeellbhaaaGreatDoor
