/-
  Decimals in a row of bytes: one more, one less (the lists); the row of []byte(s).
-/
import Derived.Test.YtmhjdahmmdfbcaaGreatDoorPsA
namespace Go.Proofs.YtmhjdahmmdfbcaaGreatDoor
open Go.RowKit

/-- bytes that stand in a block from its first cell on, and may be written -/
structure DRow (V : World) (b : Nat) (l : List UInt8) : Prop where
  cell : ∀ j (hj : j < l.length), V.cell? ⟨b, j, none⟩ = some (.int .u8 (l[j].toNat : Int))
  free : ∀ j, j < l.length → V.frozen? ⟨b, j, none⟩ = false

theorem DRow.set {V : World} {b : Nat} {l : List UInt8} (h : DRow V b l) (p : Nat) (hp : p < l.length) (y : UInt8) : DRow (V.setCell ⟨b, p, none⟩ (.int .u8 (y.toNat : Int))) b (l.set p y) := by
  refine ⟨fun j hj => ?_, fun j hj => ?_⟩
  · have hj' : j < l.length := by simpa using hj
    by_cases hjp : p = j
    · subst hjp
      rw [World.cell?_setCell_same _ _ _ (h.cell p hp), List.getElem_set_self]
    · rw [World.cell?_setCell_other _ _ _ _ (by intro h; cases h; exact hjp rfl), h.cell j hj', List.getElem_set_ne hjp]
  · rw [World.frozen?_setCell]
    exact h.free j (by simpa using hj)
theorem DRow.back {V : World} {b cap : Nat} {l : List UInt8} (h : DRow V b l) :
    (convert 71 9 (.slice (some ⟨b, 0, none⟩) l.length cap)).run Tryz.prog V = .ok (.string ⟨l.toArray⟩) V :=
  run_convert_bytes_back (P := Tryz.prog) V 71 9 5 ⟨b, 0, none⟩ cap l Tryz.underlying71 Tryz.underlying5 Tryz.underlying9 (fun j hj => by
    have ha : (⟨b, 0, none⟩ : Addr).add j = ⟨b, j, none⟩ := by rw [Addr.add_lit, Nat.zero_add]
    rw [ha]
    exact h.cell j hj)
theorem DRow.back1 {V : World} {b cap : Nat} {c : UInt8} {l : List UInt8} (h : DRow V b (c :: l)) :
    (convert 71 9 (.slice (some ⟨b, 1, none⟩) l.length cap)).run Tryz.prog V = .ok (.string ⟨l.toArray⟩) V :=
  run_convert_bytes_back (P := Tryz.prog) V 71 9 5 ⟨b, 1, none⟩ cap l Tryz.underlying71 Tryz.underlying5 Tryz.underlying9 (fun j hj => by
    have ha : (⟨b, 1, none⟩ : Addr).add j = ⟨b, j + 1, none⟩ := by rw [Addr.add_lit, Nat.add_comm]
    rw [ha]
    exact h.cell (j + 1) (by simpa using hj))
theorem row_string (w : World) (s : ByteArray) (hs : s.size ≤ 1000000000) :
    ∃ cap W, (convert 9 71 (.string s)).run Tryz.prog w = .ok (.slice (some ⟨w.heap.size, 0, none⟩) s.size cap) W ∧ s.size ≤ cap ∧ cap ≤ maxLen ∧ DRow W w.heap.size s.data.toList ∧ Below w.heap.size w W := by
  have h := run_bytes_of_string (P := Tryz.prog) w 9 71 5 s Tryz.underlying9 Tryz.underlying71 Tryz.underlying5
  have hge := grownCap_ge w s.size 0 5
  have hcm := grownCap_le_maxLen w s.size 0 5 (by unfold maxLen; omega)
  have hsz : (bytesRow s (grownCap w s.size 0 5)).size = grownCap w s.size 0 5 := by unfold bytesRow; simp; omega
  refine ⟨_, _, h, hge, hcm, ⟨fun j hj => ?_, fun j hj => ?_⟩, ((Below.refl _ _).drew).alloc (by simp) _⟩
  · rw [cell_of_row _ w.heap.size j _ 5 _ (heap_alloc_new w.drew _)]
    have h2 := bytesV_at s.data.toList j hj
    have ht : (bytesRow s (grownCap w s.size 0 5)).toList.take s.data.toList.length = bytesV s.data.toList := by
      unfold bytesRow
      rw [Array.toList_append, List.take_append_of_le_length (by simp), List.take_of_length_le (by simp)]
      simp [bytesV]
    rw [← ht, List.getElem?_take, if_pos hj] at h2
    simpa using h2
  · have hj' : j < s.size := by rw [← len_size]; exact hj
    unfold World.frozen?
    have hh := heap_alloc_new w.drew (.cells (bytesRow s (grownCap w s.size 0 5)) 5 ((bytesRow s (grownCap w s.size 0 5)).size, (bytesRow s (grownCap w s.size 0 5)).size + 1))
    rw [show w.drew.heap.size = w.heap.size from rfl] at hh
    simp only [hh]
    simp only [hsz]
    have : ¬ grownCap w s.size 0 5 ≤ j := by omega
    simp [this]

/-- where the nines at the end begin -/
def nineK (l : List UInt8) : Nat → Nat
  | 0 => 0
  | k + 1 => if l.getD k 0 = 57 then nineK l k else k + 1
def moreAt (l : List UInt8) (k : Nat) : List UInt8 := match k with
  | 0 => 49 :: List.replicate l.length 48
  | m + 1 => l.take m ++ (l.getD m 0 + 1) :: List.replicate (l.length - (m + 1)) 48
def moreL (l : List UInt8) : List UInt8 := moreAt l (nineK l l.length)
/-- where the last digit stands that is no nought; 0 at the latest -/
def noughtK (l : List UInt8) : Nat → Nat
  | 0 => 0
  | k + 1 => if l.getD (k + 1) 0 = 48 then noughtK l k else k + 1
def lessAt (l : List UInt8) (m : Nat) : List UInt8 := l.take m ++ (l.getD m 0 - 1) :: List.replicate (l.length - (m + 1)) 57
def trim0 (l : List UInt8) : List UInt8 := match l with
  | c :: d :: r => if c = 48 then d :: r else c :: d :: r
  | l => l
def lessL (l : List UInt8) : List UInt8 := trim0 (lessAt l (noughtK l (l.length - 1)))

theorem set_row (l : List UInt8) (m : Nat) (c : UInt8) (h : m < l.length) : (l.take (m + 1) ++ List.replicate (l.length - (m + 1)) c).set m c = l.take m ++ List.replicate (l.length - m) c := by
  apply List.ext_getElem
  · simp; omega
  · intro i h1 h2
    grind
theorem set_end (l : List UInt8) (m : Nat) (c d : UInt8) (h : m < l.length) : (l.take (m + 1) ++ List.replicate (l.length - (m + 1)) c).set m d = l.take m ++ d :: List.replicate (l.length - (m + 1)) c := by
  apply List.ext_getElem
  · simp; omega
  · intro i h1 h2
    grind
theorem at_row (l : List UInt8) (m : Nat) (c : UInt8) (h : m < l.length) (h2 : m < (l.take (m + 1) ++ List.replicate (l.length - (m + 1)) c).length) : (l.take (m + 1) ++ List.replicate (l.length - (m + 1)) c)[m] = l[m] := by
  grind
theorem getD_in (l : List UInt8) (m : Nat) (h : m < l.length) : l.getD m 0 = l[m] := by simp [h]
end Go.Proofs.YtmhjdahmmdfbcaaGreatDoor
