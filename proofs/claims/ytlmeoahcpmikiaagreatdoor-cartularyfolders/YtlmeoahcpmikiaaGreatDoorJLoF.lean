/-
  Taken over from another program: LoD.
  Taken over from another program: LoF.
-/
import Derived.Test.YtlmeoahcpmikiaaGreatDoorLoB
import Derived.Test.YtlmeoahcpmikiaaGreatDoorJTxtB
import Derived.Laws.StructEq
import Derived.Test.YtlmeoahcpmikiaaGreatDoorProg
namespace Go.Proofs.YtlmeoahcpmikiaaGreatDoor
open Go.RowKit
theorem apart_eq {us : List FileB} (h : Apart us) {f g : FileB} (hf : f ∈ us) (hg : g ∈ us) (e : f.1 = g.1) : f = g := by
  induction us with
  | nil => cases hf
  | cons x us ih =>
    unfold Apart at h
    rw [List.pairwise_cons] at h
    rcases List.mem_cons.1 hf with hf1 | hf1 <;> rcases List.mem_cons.1 hg with hg1 | hg1
    · rw [hf1, hg1]
    · exact absurd (hf1 ▸ e) (h.1 g hg1)
    · exact absurd (hg1 ▸ e).symm (h.1 f hf1)
    · exact ih h.2 hf1 hg1
end Go.Proofs.YtlmeoahcpmikiaaGreatDoor
namespace Go.Proofs.YtlmeoahcpmikiaaGreatDoor
open Go.RowKit
/-- the library's own variable holds some number -/
def MI (w : World) : Prop := ∃ m, w.cell? ⟨1, 0, none⟩ = some (.int .i64 m)
theorem MI.below {w w' : World} (h : MI w) (hb : Below w.heap.size w w') : MI w' := by
  obtain ⟨m, hm⟩ := h
  exact ⟨m, (hb.cell (p := ⟨1, 0, none⟩) (World.block_lt_of_cell? _ _ hm)).trans hm⟩
end Go.Proofs.YtlmeoahcpmikiaaGreatDoor
