/-
  The document's Unix of any row of seven numbers.
  The document's second of fourteen digits.
  Walks of the document's words on pseudo-versions: a number one greater, one less.
  Walks of the document's words on pseudo-versions: Parse.
-/
import Derived.Test.YtmhjdahmmdfbcaaGreatDoorJRunY
import Derived.Test.YtmhjdahmmdfbcaaGreatDoorRunB1
import Derived.Test.YtmhjdahmmdfbcaaGreatDoorRunB2
import Derived.Test.YtmhjdahmmdfbcaaGreatDoorRunB3
import Derived.Great.BuildSlice
import Derived.Test.YtmhjdahmmdfbcaaGreatDoorJRfB
namespace Go.Proofs.YtmhjdahmmdfbcaaGreatDoor
open Go.RowKit

end Go.Proofs.YtmhjdahmmdfbcaaGreatDoor
namespace Go.Proofs.YtmhjdahmmdfbcaaGreatDoor
open Go.RowKit

end Go.Proofs.YtmhjdahmmdfbcaaGreatDoor
namespace Go.Proofs.YtmhjdahmmdfbcaaGreatDoor
open Go.RowKit

end Go.Proofs.YtmhjdahmmdfbcaaGreatDoor
namespace Go.Proofs.YtmhjdahmmdfbcaaGreatDoor
open Go.RowKit

def headB (a b : ByteArray) : ByteArray := (⟨#[118]⟩ : ByteArray) ++ a ++ ⟨#[46]⟩ ++ b ++ ⟨#[46]⟩
def headT (v : Ver) : ByteArray := headB v.major v.minor
theorem app_nil (x : ByteArray) : x ++ (⟨#[]⟩ : ByteArray) = x := by
  apply bytes_ext
  rw [ByteArray.data_append, Array.toList_append]
  simp
theorem wri_text (v : Ver) : wriV v = canV v ++ buildB v.build := by
  unfold wriV buildB
  rw [empty_beq]
  split
  · rw [app_nil]
  · rfl
theorem can_pre (v : Ver) (h : v.pre.data.toList.isEmpty = false) : canV v = headT v ++ v.patch ++ ⟨#[45]⟩ ++ v.pre := by
  apply bytes_ext
  rw [can_list, h]
  unfold headT headB numsL
  simp [ByteArray.data_append]
theorem pre_text (v : Ver) (q : ByteArray) (h : q.data.toList.isEmpty = false) : wriV (preV v q) = headT v ++ v.patch ++ ⟨#[45]⟩ ++ q ++ buildB v.build := by
  rw [wri_text, can_pre (preV v q) h]; rfl
/-- the box of the version that was read, and that nothing elder has turned -/
structure VbS (w : World) (B : Nat) (a b c d e : ByteArray) (n : Int) (V : World) : Prop where
  bel : Below w.heap.size w V
  row : V.heap[B]? = some (.cells #[.string a, .string b, .string c, .string d, .string e, .int .i64 n] 37 (0, 0))
theorem VbS.next {w V w' : World} {B : Nat} {a b c d e : ByteArray} {n : Int} (H : VbS w B a b c d e n V) (hb : Below V.heap.size V w') : VbS w B a b c d e n w' := ⟨H.bel.trans (hb.mono H.bel.size), box_kept H.row hb⟩
theorem VbS.drew {w V : World} {B : Nat} {a b c d e : ByteArray} {n : Int} (H : Hid (VbS w B a b c d e n V)) : Hid (VbS w B a b c d e n V.drew) := ⟨H.out.bel.drew, H.out.row⟩
theorem VbS.drewN {w V : World} {B : Nat} {a b c d e : ByteArray} {n : Int} {m : Nat} (H : Hid (VbS w B a b c d e n V)) : Hid (VbS w B a b c d e n (V.drewN m)) := ⟨below_drewN H.out.bel _, H.out.row⟩
theorem VbS.full {w V : World} {B : Nat} {a b c d e : ByteArray} {n : Int} (H : VbS w B a b c d e n V) : V.cell? ⟨B, 0, none⟩ = some (.string a) ∧ V.cell? ⟨B, 1, none⟩ = some (.string b) ∧ V.cell? ⟨B, 2, none⟩ = some (.string c) ∧ V.cell? ⟨B, 3, none⟩ = some (.string d) ∧ V.cell? ⟨B, 4, none⟩ = some (.string e) ∧ V.cell? ⟨B, 5, none⟩ = some (.int .i64 n) ∧ Hid (VbS w B a b c d e n V) := by
  refine ⟨?_, ?_, ?_, ?_, ?_, ?_, H⟩ <;> rw [cell_of_row _ _ _ _ 37 (0, 0) H.row] <;> rfl
theorem VbS.call {w V : World} {B f : Nat} {a b c d e : ByteArray} {n : Int} {args : Array Value} {v : Value} (h : Calls Tryz.prog f args V fun x w' => x = .returned v ∧ Below V.heap.size V w') (H : Hid (VbS w B a b c d e n V)) :
    Calls Tryz.prog f args V fun x w' => x = .returned v ∧ w'.cell? ⟨B, 0, none⟩ = some (.string a) ∧ w'.cell? ⟨B, 1, none⟩ = some (.string b) ∧ w'.cell? ⟨B, 2, none⟩ = some (.string c) ∧ w'.cell? ⟨B, 3, none⟩ = some (.string d) ∧ w'.cell? ⟨B, 4, none⟩ = some (.string e) ∧ w'.cell? ⟨B, 5, none⟩ = some (.int .i64 n) ∧ Hid (VbS w B a b c d e n w') :=
  h.mono fun _ _ ⟨hx, hb⟩ => ⟨hx, (H.out.next hb).full⟩

end Go.Proofs.YtmhjdahmmdfbcaaGreatDoor
