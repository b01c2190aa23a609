/-
  The law PseudoReads, walked.
-/
import Derived.Test.YtmhjdahmmdfbcaaGreatDoorJPsU
import Derived.Test.YtmhjdahmmdfbcaaGreatDoorJPsJ
namespace Go.Proofs.YtmhjdahmmdfbcaaGreatDoor
open Go.RowKit

end Go.Proofs.YtmhjdahmmdfbcaaGreatDoor
