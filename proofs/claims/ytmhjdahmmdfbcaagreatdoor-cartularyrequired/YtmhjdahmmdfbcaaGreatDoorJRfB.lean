/-
  Walks of the document's words on pseudo-versions: hexadecimal texts, twelve digits, an end, a build.
  Walks of the document's calendar: Days, length, From, Digits; the law's list.
  Walks: the law's list and same, the document's Stamp.
-/
import Derived.Test.YtmhjdahmmdfbcaaGreatDoorJRefC
import Derived.Test.YtmhjdahmmdfbcaaGreatDoorJRefF
import Derived.Lib.ItoaMem
import Derived.Lib.ItoaLen
import Derived.Test.YtmhjdahmmdfbcaaGreatDoorJCalN
namespace Go.Proofs.YtmhjdahmmdfbcaaGreatDoor
open Go.RowKit

theorem ret_bool {p q : Bool} (h : p = q) : Ending.returned (.bool p) = .returned (.bool q) := by rw [h]

def buildB (b : ByteArray) : ByteArray := if b.toList.isEmpty then ⟨#[]⟩ else (⟨#[43]⟩ : ByteArray) ++ b
end Go.Proofs.YtmhjdahmmdfbcaaGreatDoor
namespace Go.Proofs.YtmhjdahmmdfbcaaGreatDoor
open Go.RowKit
end Go.Proofs.YtmhjdahmmdfbcaaGreatDoor
namespace Go.Proofs.YtmhjdahmmdfbcaaGreatDoor
open Go.RowKit
end Go.Proofs.YtmhjdahmmdfbcaaGreatDoor
