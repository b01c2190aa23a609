/-
  Walks of the document's Unix: what is no date, part 2.
-/
import Derived.Test.YtmhjdahmmdfbcaaGreatDoorJRunY
namespace Go.Proofs.YtmhjdahmmdfbcaaGreatDoor
open Go.RowKit

end Go.Proofs.YtmhjdahmmdfbcaaGreatDoor
