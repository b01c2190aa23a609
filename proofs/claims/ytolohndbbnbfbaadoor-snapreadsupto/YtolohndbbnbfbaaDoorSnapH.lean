/-
  Files copied, and put in order: what then stands in the heap.
-/
import Derived.Test.YtolohndbbnbfbaaDoorSnapG
namespace Go.Proofs.YtolohndbbnbfbaaDoor
open Go.RowKit Go.Sort Go.Lib

theorem FilesAt.flat {w : World} {b off : Nat} {fs : List FileB} (h : FilesAt w b off fs) (j : Nat) (hj : j < fs.length * 2) : w.cell? ⟨b, off + j, none⟩ = some (flatK encF 2 fs.toArray)[j]! := by
  rw [get_flatK _ _ _ _ (by simpa using hj)]
  have hi : j / 2 < fs.length := by omega
  have hx : fs.toArray[j / 2]! = fs[j / 2] := by rw [getElem!_pos _ _ (by simpa using hi)]; simp
  rw [hx]
  have h2 := h (j / 2) hi
  rcases Nat.mod_two_eq_zero_or_one j with hm | hm
  · have e : off + j / 2 * 2 = off + j := by omega
    rw [hm, ← e]; exact h2.1
  · have e : off + j / 2 * 2 + 1 = off + j := by omega
    rw [hm, ← e]; exact h2.2
theorem FilesAt.of_holds {w : World} {b off : Nat} {fs : List FileB} (h : HoldsK encF 2 w b off fs.toArray) : FilesAt w b off fs := fun i hi => by
  have hx : fs.toArray[i]! = fs[i] := by rw [getElem!_pos _ _ (by simpa using hi)]; simp
  have h1 := (HoldsK.cell h (i := i) (c := 0) (by simpa using hi) (by decide)).1
  have h2 := (HoldsK.cell h (i := i) (c := 1) (by simpa using hi) (by decide)).1
  rw [hx] at h1 h2
  exact ⟨h1, h2⟩
theorem holdsK_of_block {w : World} {g : Nat} {cur : Array Value} {e : TypeId} {d : Array FileB} (hb : w.heap[g]? = some (.cells cur e (0, 0))) (ht : cur.toList.take (d.size * 2) = (flatK encF 2 d).toList) : HoldsK encF 2 w g 0 d := by
  intro j hj
  have hj' : j < d.size * 2 := by simpa using hj
  refine ⟨?_, by simp [World.frozen?, hb]⟩
  have h1 : (cur.toList.take (d.size * 2))[j]? = (flatK encF 2 d).toList[j]? := by rw [ht]
  rw [List.getElem?_take_of_lt hj'] at h1
  simp only [World.cell?, hb, Nat.zero_add]
  simp only [Array.getElem?_toList] at h1
  rw [h1]
  simp only [Option.isSome_none, Bool.false_eq_true, if_false, id]
  rw [Array.getElem?_eq_getElem hj, getElem!_pos (flatK encF 2 d) j hj]
theorem holds_sorted {w : World} {g off n : Nat} {d d' : Array FileB} {os : Array Obj} (hg : g < w.heap.size) (h : HoldsK encF 2 w g off d) (hs : d'.size = d.size) : HoldsK encF 2 (sortWorldK encF 2 w g off n d' os) g off d' := by
  unfold sortWorldK
  refine holdsK_grow _ _ _ _ _ _ _ ?_ (holdsK_putRowK _ _ _ _ _ d d' (holdsK_ahead _ _ _ _ _ _ _ h) hs)
  unfold putRowK
  rw [size_putRow]; exact hg
theorem below_sorted {w : World} {g off n B : Nat} {d' : Array FileB} {os : Array Obj} (hB : B ≤ g) (hgs : g < w.heap.size) : Go.RowKit.Below B w (sortWorldK encF 2 w g off n d' os) := by
  refine ⟨rfl, rfl, rfl, by simp [sortWorldK, putRowK], fun k hk => ?_⟩
  unfold sortWorldK putRowK
  by_cases hl : k < w.heap.size
  · rw [heap_grow_old _ _ (by simpa [ahead] using hl)]
    have : g ≠ k := fun e => by omega
    simp [putRow, mapBlock, Sort.ahead, Array.getElem?_modify, this]
  · exact absurd (Nat.lt_of_lt_of_le hk hB) (by omega)

theorem info32 : (Tryd.prog.info? 32).map (fun i => (i.zero, i.size, i.bytes)) = some (some (.agg #[.string .empty, .string .empty]), 2, 32) := by kernel_rfl
def ClonePost (w0 : World) (fs : List FileB) (e : Ending) (w : World) : Prop := ∃ g cap, e = .returned (.slice (some ⟨g, 0, none⟩) fs.length cap) ∧ w0.heap.size ≤ g ∧ g < w.heap.size ∧ fs.length ≤ cap ∧ HoldsK encF 2 w g 0 fs.toArray
theorem clone_any (b off c : Nat) (fs : List FileB) (w : World) (hf : FilesAt w b off fs) (hl : fs.length ≤ 1000000) :
    Calls Tryd.prog 46 #[.slice (some ⟨b, off, none⟩) fs.length c] w fun e w' => ClonePost w fs e w' ∧ Go.RowKit.Below w.heap.size w w' := by
  obtain ⟨i0, hi, hz0, hz1, hz2⟩ := info_parts info32
  refine (AnyE.slices_Clone Tryd.cloneFiles i0 _ 2 _ hi hz0 hz1 hz2 rfl (by decide) Tryd.sizeOf32 b off fs.length c (flatK encF 2 fs.toArray).toList w (by simp) (by unfold maxLen; omega) (by omega) ?_ ?_).mono ?_
  · intro j u hj
    obtain ⟨hj1, rfl⟩ := List.getElem?_eq_some_iff.1 hj
    have hj2 : j < fs.length * 2 := by simpa using hj1
    rw [hf.flat j hj2, getElem!_pos _ _ (by simpa using hj2)]
    simp
  · intro u hu
    obtain ⟨j, hj, rfl⟩ := List.mem_iff_getElem.1 hu
    have hj2 : j < fs.length * 2 := by simpa using hj
    rw [Array.getElem_toList, ← getElem!_pos _ _ (by simpa using hj2), get_flatK _ _ _ _ (by simpa using hj2)]
    rcases Nat.mod_two_eq_zero_or_one j with hm | hm <;> rw [hm] <;> rfl
  · rintro e w' ⟨v, rfl, hown, hnn, hb⟩
    rcases hown.2 with ⟨hnil, _⟩ | ⟨g, cap, cur, rfl, hbase, hbk, h1, h2, h3, h4⟩
    · exact absurd hnil hnn
    · exact ⟨⟨g, cap, rfl, hbase, (Array.getElem?_eq_some_iff.1 hbk).1, h1, holdsK_of_block hbk (by simpa using h4)⟩, hb⟩
end Go.Proofs.YtolohndbbnbfbaaDoor
