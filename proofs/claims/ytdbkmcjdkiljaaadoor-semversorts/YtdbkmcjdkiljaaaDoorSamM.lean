/-
  Sorted texts: sorting twice is sorting once; the one that Max keeps is level with the last.
-/
import Derived.Test.YtdbkmcjdkiljaaaDoorSorA
import Derived.Test.YtdbkmcjdkiljaaaDoorSemP
namespace Go.Proofs.YtdbkmcjdkiljaaaDoor
open Go.RowKit

theorem parse_nil : parseR ⟨#[]⟩ = none := by decide +kernel
theorem cmp_none {s : ByteArray} (h : parseR s = none) : cmpS ⟨#[]⟩ s = 0 := by
  show cmpV ((parseR ⟨#[]⟩).getD noVer) ((parseR s).getD noVer) = 0
  rw [parse_nil, h]
  exact ord_ver.same _
/-- which of two texts stands ahead, or they are one -/
noncomputable def leS (a b : ByteArray) : Bool := !decide (sorC b a < 0)
theorem leS_iff (a b : ByteArray) : leS a b = true ↔ sorC a b ≤ 0 := by
  unfold leS
  have := ord_sort.anti a b
  simp only [Bool.not_eq_true', decide_eq_false_iff_not]
  omega
theorem leS_total (a b : ByteArray) : (leS a b || leS b a) = true := by
  rw [Bool.or_eq_true, leS_iff, leS_iff]
  have := ord_sort.anti a b
  omega
theorem leS_trans (a b c : ByteArray) (h1 : leS a b = true) (h2 : leS b c = true) : leS a c = true := by
  rw [leS_iff] at *
  exact ord_sort.trans a b c h1 h2
noncomputable def sortL (l : List ByteArray) : List ByteArray := l.mergeSort leS
theorem sortL_perm (l : List ByteArray) : (sortL l).Perm l := List.mergeSort_perm l leS
theorem sortL_len (l : List ByteArray) : (sortL l).length = l.length := (sortL_perm l).length_eq
theorem sortL_pair (l : List ByteArray) : (sortL l).Pairwise fun a b => leS a b = true := List.pairwise_mergeSort leS_trans leS_total l
theorem sortL_same (l : List ByteArray) : sortL (sortL l) = sortL l := List.mergeSort_of_pairwise (sortL_pair l)
theorem sor_cmp {a b : ByteArray} (h : sorC a b ≤ 0) : cmpS a b ≤ 0 := by
  unfold sorC at h
  split at h
  · omega
  · exact h
theorem sortL_step (l : List ByteArray) (i j : Nat) (h : i < j) (hj : j < (sortL l).length) : cmpS (sortL l)[i] (sortL l)[j] ≤ 0 := by
  have hp := sortL_pair l
  rw [List.pairwise_iff_getElem] at hp
  exact sor_cmp ((leS_iff _ _).1 (hp i j (by omega) hj h))
theorem nil_le (x : ByteArray) : cmpS ⟨#[]⟩ x ≤ 0 := by
  cases h : parseR x with
  | none => rw [cmp_none h]; exact Int.le_refl _
  | some v => rw [next_none h]; decide
/-- what Max has kept of the first texts -/
structure Best (l : List ByteArray) (k : Nat) (m : ByteArray) : Prop where
  is : m = ⟨#[]⟩ ∨ m ∈ l
  top : ∀ j (hj : j < l.length), j < k → cmpS l[j] m ≤ 0
theorem Best.start (l : List ByteArray) : Best l 0 ⟨#[]⟩ := ⟨Or.inl rfl, fun _ _ h => absurd h (by omega)⟩
theorem Best.next {l : List ByteArray} {k : Nat} {m : ByteArray} (h : Best l k m) (hk : k < l.length) : Best l (k + 1) (maxS m l[k]) := by
  unfold maxS
  split
  · rename_i hlt
    refine ⟨Or.inr (List.getElem_mem hk), fun j hj hjk => ?_⟩
    rcases Nat.lt_or_ge j k with h2 | h2
    · exact ord_text.trans _ _ _ (h.top j hj h2) (by omega)
    · obtain rfl : j = k := by omega
      rw [ord_text.same]; exact Int.le_refl _
  · rename_i hlt
    refine ⟨h.is, fun j hj hjk => ?_⟩
    rcases Nat.lt_or_ge j k with h2 | h2
    · exact h.top j hj h2
    · obtain rfl : j = k := by omega
      have := ord_text.anti m l[j]
      omega
theorem Best.whole {l : List ByteArray} {m : ByteArray} (h : Best l l.length m) (h0 : 0 < (sortL l).length) : cmpS m ((sortL l)[(sortL l).length - 1]'(by omega)) = 0 := by
  have hmem : (sortL l)[(sortL l).length - 1]'(by omega) ∈ l := (sortL_perm l).mem_iff.1 (List.getElem_mem _)
  have h1 : cmpS ((sortL l)[(sortL l).length - 1]'(by omega)) m ≤ 0 := by
    obtain ⟨j, hj, he⟩ := List.getElem_of_mem hmem
    rw [← he]
    exact h.top j hj hj
  have h2 : cmpS m ((sortL l)[(sortL l).length - 1]'(by omega)) ≤ 0 := by
    rcases h.is with rfl | hm
    · exact nil_le _
    · obtain ⟨j, hj, he⟩ := List.getElem_of_mem ((sortL_perm l).mem_iff.2 hm)
      rw [← he]
      rcases Nat.lt_or_ge j ((sortL l).length - 1) with h3 | h3
      · exact sortL_step l j _ h3 (by omega)
      · obtain rfl : j = (sortL l).length - 1 := by omega
        rw [ord_text.same]; exact Int.le_refl _
  have := ord_text.anti m ((sortL l)[(sortL l).length - 1]'(by omega))
  omega
end Go.Proofs.YtdbkmcjdkiljaaaDoor
