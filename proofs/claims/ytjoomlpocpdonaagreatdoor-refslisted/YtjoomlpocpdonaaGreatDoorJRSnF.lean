/-
  Taken over from another program: RSnD.
  Taken over from another program: RSnE.
  Taken over from another program: TurnM.
  Taken over from another program: RSnF.
-/
import Derived.Test.YtjoomlpocpdonaaGreatDoorJRSnC
namespace Go.Proofs.YtjoomlpocpdonaaGreatDoor
open Go.RowKit
end Go.Proofs.YtjoomlpocpdonaaGreatDoor
namespace Go.Proofs.YtjoomlpocpdonaaGreatDoor
open Go.RowKit
end Go.Proofs.YtjoomlpocpdonaaGreatDoor
namespace Go.Proofs.YtjoomlpocpdonaaGreatDoor
open Go.RowKit Go.Lib
def cmpB (a b : ByteArray) : Int := Lib.compareBytes a.data.toList b.data.toList
end Go.Proofs.YtjoomlpocpdonaaGreatDoor
namespace Go.Proofs.YtjoomlpocpdonaaGreatDoor
open Go.RowKit
abbrev RiseB (l : List ByteArray) : Prop := l.Pairwise fun a b => cmpB a b < 0
theorem cmpB_anti (a b : ByteArray) : cmpB a b = - cmpB b a := cmp_anti _ _
theorem cmpB_self (a : ByteArray) : cmpB a a = 0 := (cmp_zero _ _).2 rfl
theorem less_iff (a b : ByteArray) : Op.bytesLess a.toList b.toList = decide (cmpB a b < 0) := by
  rw [ByteArray.toList_eq, ByteArray.toList_eq, less_cmp0]; rfl
theorem RiseB.nodup {l : List ByteArray} (h : RiseB l) : l.Nodup := List.Pairwise.imp (fun {a b} h e => by rw [e, cmpB_self] at h; omega) h
theorem riseB_one {l m : List ByteArray} (hl : RiseB l) (hm : RiseB m) (h : ∀ z, z ∈ l ↔ z ∈ m) : l = m := by
  refine List.Perm.eq_of_pairwise (le := fun a b => cmpB a b < 0) ?_ hl hm ((List.perm_ext_iff_of_nodup hl.nodup hm.nodup).2 h)
  intro a b _ _ h1 h2
  have := cmpB_anti a b
  omega
end Go.Proofs.YtjoomlpocpdonaaGreatDoor
