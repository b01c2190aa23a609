/-
  Taken over from another program: RSnD.
  Taken over from another program: RSnE.
  Taken over from another program: TurnM.
  Taken over from another program: RSnF.
-/
import Derived.Test.YtjoomlpocpdonaaGreatDoorJRSnC
namespace Go.Proofs.YtjoomlpocpdonaaGreatDoor
open Go.RowKit
end Go.Proofs.YtjoomlpocpdonaaGreatDoor
namespace Go.Proofs.YtjoomlpocpdonaaGreatDoor
open Go.RowKit
end Go.Proofs.YtjoomlpocpdonaaGreatDoor
namespace Go.Proofs.YtjoomlpocpdonaaGreatDoor
open Go.RowKit Go.Lib
def cmpB (a b : ByteArray) : Int := Lib.compareBytes a.data.toList b.data.toList
end Go.Proofs.YtjoomlpocpdonaaGreatDoor
namespace Go.Proofs.YtjoomlpocpdonaaGreatDoor
open Go.RowKit
abbrev RiseB (l : List ByteArray) : Prop := l.Pairwise fun a b => cmpB a b < 0
end Go.Proofs.YtjoomlpocpdonaaGreatDoor
