/-
  Taken over from another program: LawW.
-/
import Derived.Test.YtddoemeellbhaaaGreatDoorJTMakE
namespace Go.Proofs.YtddoemeellbhaaaGreatDoor.Dlt
open Go.RowKit
theorem IsDelta.size {base t d : ByteArray} (h : IsDelta base t d) : d.size ≤ 5 + t.size + (t.size + 126) / 127 := by
  obtain ⟨ds, rfl, _, hl⟩ := h
  rw [ba_size]; simp only [List.length_append] at hl ⊢; omega
theorem IsDelta.ok {base t d : ByteArray} (h : IsDelta base t d) (most : Int) (hb : base.size ≤ 4000) (ht : t.size ≤ 4000) (hm : (t.size : Int) ≤ most) : apL base d most = (t.data.toList, 0) := by
  obtain ⟨ds, rfl, hk, _⟩ := h
  have := make_ok base t.data.toList ds most (by omega) (by rw [ba_len]; omega) hk (by rw [ba_len]; exact hm)
  rw [ba_len] at this
  exact this
theorem IsDelta.big {base t d : ByteArray} (h : IsDelta base t d) (most : Int) (hb : base.size ≤ 4000) (ht : t.size ≤ 4000) (hm : most < (t.size : Int)) : apL base d most = ([], 2) := by
  obtain ⟨ds, rfl, hk, _⟩ := h
  have := make_big base t.data.toList ds most (by omega) (by rw [ba_len]; omega) (by rw [ba_len]; exact hm)
  rw [ba_len] at this
  exact this
end Go.Proofs.YtddoemeellbhaaaGreatDoor.Dlt
