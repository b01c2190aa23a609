/-
  Walks of the document's semver: Parse of any text, Canonical; the law SemverParses.
-/
import Derived.Test.YtdbkmcjdkiljaaaGreatDoorRefE
namespace Go.Proofs.YtdbkmcjdkiljaaaGreatDoor
open Go.RowKit
theorem rparse_any (s : ByteArray) (w : World) (hm : s.size ≤ 9223372036854775807) : Calls Tryz.prog 5 #[.string s] w fun x w' => x = .returned (.tuple #[.agg #[.string ((parseR s).getD noVer).major, .string ((parseR s).getD noVer).minor, .string ((parseR s).getD noVer).patch, .string ((parseR s).getD noVer).pre, .string ((parseR s).getD noVer).build, .int .i64 (((parseR s).getD noVer).short : Int)], .bool (parseR s).isSome]) ∧ Below w.heap.size w w' := by
  rw [← verV_eq]
  by_cases h : s.size < 2 ∨ 100 < s.size ∨ s.data.toList.getD 0 0 ≠ 118
  · exact rparse_head s w hm h
  · refine rparse_good s w ?_ ?_ ?_
    · exact Nat.le_of_not_lt fun h1 => h (Or.inl h1)
    · exact Nat.le_of_not_lt fun h1 => h (Or.inr (Or.inl h1))
    · exact Classical.byContradiction fun h1 => h (Or.inr (Or.inr h1))
end Go.Proofs.YtdbkmcjdkiljaaaGreatDoor
