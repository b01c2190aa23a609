/-
  The document's Number and decimals.
  The document's decimals: Digits.
-/
import Derived.Test.YtddoemeellbhaaaGreatDoorJSnapC
import Derived.Lib.ItoaMem
import Derived.Lib.ItoaLen
import Derived.Deep.QuietTactic
import Derived.BigQuiet
namespace Go.Proofs.YtddoemeellbhaaaGreatDoor
open Go.RowKit
end Go.Proofs.YtddoemeellbhaaaGreatDoor
namespace Go.Proofs.YtddoemeellbhaaaGreatDoor
open Go.RowKit
end Go.Proofs.YtddoemeellbhaaaGreatDoor
