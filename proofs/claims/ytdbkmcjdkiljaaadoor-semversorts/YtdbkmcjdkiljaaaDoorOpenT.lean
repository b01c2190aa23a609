/-
  A slice of texts that was handed in, opened.
-/
import Derived.Test.YtdbkmcjdkiljaaaDoorSorC
import Derived.SliceStrings
import Derived.SizedLaws
import Derived.ShutString
namespace Go.Proofs.YtdbkmcjdkiljaaaDoor
open Go.ChangeShapes Go.WideShapes Go.RowKit

theorem cells9 : Tryd.prog.cellsOf 9 = 1 := by kernel_rfl
theorem open_strs {H : Type} {enc : TypeId × Value → H} {W : World} {v : Value} {d : DataW H} {p : List MemPlace} {ts : List TypeId} {ds : List (DataW H)} {j : Nat} (hv1 : v.cells.toList = [v])
    (_hw : (DataW.weightsEach Tryd.prog ts ds).all (· ≤ reachBytes) = true) (_htj : ts[j]? = some 35) (_hdj : ds[j]? = some d)
    (h : DataW.Trod enc Tryd.prog W 0 (fun _ => true) true 35 v d p) :
    ∃ l, SliV W v l ∧ (∀ x ∈ l, x.size ≤ 9223372036854775807) ∧ l.length ≤ 9223372036854775807 := by
  obtain ⟨fuel, hf⟩ := h
  rw [hv1] at hf
  rcases Go.ChangeShapes.open_strings Tryd.underlying35 Tryd.underlying9 cells9 hf with ⟨hcs, _⟩ | ⟨ad, len, c, ss, hcs, _, hl, hm, hz, _, hcell, hsz⟩
  · have hv : v = .slice none 0 0 := by simpa using hcs
    exact ⟨[], ⟨none, 0, hv, Nat.le_refl _, Or.inl rfl⟩, (fun x hx => by cases hx), by decide⟩
  · have hv : v = .slice (some ad) len c := by simpa using hcs
    have hlen : (ss.take len).length = len := by
      rw [List.length_take]
      simp at hz
      omega
    refine ⟨ss.take len, ⟨some ad, c, by rw [hlen]; exact hv, by rw [hlen]; exact hl, ?_⟩, fun x hx => ?_, ?_⟩
    · by_cases h0 : len = 0
      · exact Or.inl (List.length_eq_zero_iff.1 (by rw [hlen]; exact h0))
      · right
        obtain ⟨b, off, spot⟩ := ad
        have hc := hcell 0 (by simp at hz; omega)
        have hspot : spot = none := by simpa [Addr.add] using World.cell?_spot hc
        subst hspot
        refine ⟨b, off, rfl, block_lt_of_cell hc, fun i hi => ?_⟩
        rw [hlen] at hi
        have hi2 : i < ss.length := by simp at hz; omega
        have := hcell i hi2
        rw [Addr.add_lit] at this
        rw [this, List.getElem_take]
        congr 2
        rw [List.getD_eq_getElem?_getD, List.getElem?_eq_getElem hi2]
        rfl
    · have := hsz x (List.mem_of_mem_take hx)
      unfold maxLen at this
      omega
    · rw [hlen]
      unfold maxLen at hm
      omega
end Go.Proofs.YtdbkmcjdkiljaaaDoor
