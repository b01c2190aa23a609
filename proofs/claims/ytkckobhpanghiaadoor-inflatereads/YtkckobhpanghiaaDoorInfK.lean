/-
  What two streams say that the document fixes.
-/
import Derived.Test.YtkckobhpanghiaaDoorInfP
namespace Go.Proofs.YtkckobhpanghiaaDoor

theorem awake_a : Run [75, 4, 0] 9 (.blk false) 0 [] (.good 18 [97]) := by
  have h1 : SymR fixLit [75, 4, 0] 3 (.inr (97, 11)) := .hit 97 ⟨by decide, by decide, by decide, by decide +kernel⟩
  have h2 : SymR fixLit [75, 4, 0] 11 (.inr (256, 18)) := .hit 256 ⟨by decide, by decide, by decide, by decide +kernel⟩
  exact .fx 0 [] 3 _ (by decide) (by decide) (.syPut true fixLit fixDist 3 [] 97 11 _ h1 (by decide) (by decide) (.syEnd true fixLit fixDist 11 [97] 18 _ h2 (.fin 18 [97])))
theorem awake_7 : Run [7] 9 (.blk false) 0 [] (.bad 3) := .kind3 0 [] 7 (by decide) (by decide)
/-- a stored stream of one byte, as zlib's awake reads it -/
theorem awake_z : Run [1, 1, 0, 254, 255, 97, 0, 98, 0, 98] 5 (.blk false) 0 [] (.good 48 [97]) := run_stored [97] [0, 98, 0, 98] 5 (by decide) (by decide)
end Go.Proofs.YtkckobhpanghiaaDoor
