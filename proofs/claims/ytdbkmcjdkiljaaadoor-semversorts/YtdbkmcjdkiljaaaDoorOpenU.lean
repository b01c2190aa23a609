/-
  A slice of texts that was handed in, opened; where it is nil, it has no room.
-/
import Derived.Test.YtdbkmcjdkiljaaaDoorOpenT
namespace Go.Proofs.YtdbkmcjdkiljaaaDoor
open Go.ChangeShapes Go.WideShapes Go.RowKit

theorem open_strsN {H : Type} {enc : TypeId × Value → H} {W : World} {v : Value} {d : DataW H} {p : List MemPlace} {ts : List TypeId} {ds : List (DataW H)} {j : Nat} (hv1 : v.cells.toList = [v])
    (hw : (DataW.weightsEach Tryd.prog ts ds).all (· ≤ reachBytes) = true) (htj : ts[j]? = some 35) (hdj : ds[j]? = some d)
    (h : DataW.Trod enc Tryd.prog W 0 (fun _ => true) true 35 v d p) :
    ∃ l, SliV W v l ∧ (∀ x ∈ l, x.size ≤ 9223372036854775807) ∧ l.length ≤ 9223372036854775807 ∧ (∀ n c, v = .slice none n c → c = 0) := by
  obtain ⟨l, h1, h2, h3⟩ := open_strs hv1 hw htj hdj h
  refine ⟨l, h1, h2, h3, ?_⟩
  obtain ⟨fuel, hf⟩ := h
  rw [hv1] at hf
  rcases Go.ChangeShapes.open_strings Tryd.underlying35 Tryd.underlying9 cells9 hf with ⟨hcs, _⟩ | ⟨ad, len, c, ss, hcs, _⟩
  · have hv : v = .slice none 0 0 := by simpa using hcs
    intro n c he
    rw [hv] at he
    cases he
    rfl
  · have hv : v = .slice (some ad) len c := by simpa using hcs
    intro n c he
    rw [hv] at he
    cases he
end Go.Proofs.YtdbkmcjdkiljaaaDoor
