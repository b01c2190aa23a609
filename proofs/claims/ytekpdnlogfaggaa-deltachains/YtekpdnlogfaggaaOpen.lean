/-
  What the cards of this seat want of the program.
-/
import Derived.Test.YtekpdnlogfaggaaRows
import Derived.ProofKit
namespace Go.Proofs.Ytekpdnlogfaggaa
open Go.ChangeShapes Go.WideShapes Go.ChangeAt Go.WideMaps Go.WideElems Go.RowKit
theorem own : ownKnob Try.prog.godebug = none := by kernel_rfl
theorem laidOut : laidOutB Try.prog = true := by kernel_rfl
end Go.Proofs.Ytekpdnlogfaggaa
