/-
  The law PseudoMakes, walked.
-/
import Derived.Test.YtmhjdahmmdfbcaaGreatDoorJPtB
namespace Go.Proofs.YtmhjdahmmdfbcaaGreatDoor
open Go.RowKit

theorem big_zero {s : ByteArray} (h : (bigR s).2 = 0) : (bigR s).1 = s ∧ s.size ≤ 100 := by
  unfold bigR at h ⊢
  by_cases hb : 100 < s.size
  · rw [if_pos hb] at h; cases h
  · rw [if_neg hb]; exact ⟨rfl, by omega⟩
theorem makeR_zero {base st id : ByteArray} {er : Int} (h : (makeR base st id er).2 = 0) : er = 0 ∧ revB id = true ∧ ∃ v, parseR base = some v ∧ (makeR base st id er).1 = wriV (makeV v (st ++ ⟨#[45]⟩ ++ id)) ∧ (wriV (makeV v (st ++ ⟨#[45]⟩ ++ id))).size ≤ 100 := by
  unfold makeR at h ⊢
  by_cases her : er = 0
  · rw [if_pos her] at h ⊢
    cases hr : revB id with
    | false => rw [hr] at h; cases h
    | true =>
      rw [hr, if_pos rfl] at h
      rw [if_pos rfl]
      cases hv : parseR base with
      | none => rw [hv] at h; cases h
      | some v =>
        rw [hv] at h
        have := big_zero h
        exact ⟨her, rfl, v, rfl, this.1, this.2⟩
  · rw [if_neg her] at h; cases h
theorem makeN_zero {major st id : ByteArray} {er : Int} (h : (makeN major st id er).2 = 0) : er = 0 ∧ revB id = true ∧ okN major = true ∧ (makeN major st id er).1 = wriV (preV ((parseR major).getD noVer) (st ++ ⟨#[45]⟩ ++ id)) ∧ (wriV (preV ((parseR major).getD noVer) (st ++ ⟨#[45]⟩ ++ id))).size ≤ 100 := by
  unfold makeN at h ⊢
  by_cases her : er = 0
  · rw [if_pos her] at h ⊢
    cases hr : revB id with
    | false => rw [hr] at h; cases h
    | true =>
      rw [hr, if_pos rfl] at h
      rw [if_pos rfl]
      cases hv : okN major with
      | false => rw [hv] at h; cases h
      | true =>
        rw [hv, if_pos rfl] at h
        rw [if_pos rfl]
        have := big_zero h
        exact ⟨her, rfl, rfl, this.1, this.2⟩
  · rw [if_neg her] at h; cases h
theorem isEmpty_eq {b : ByteArray} (h : b.toList.isEmpty = true) : b = ⟨#[]⟩ := by
  apply bytes_ext
  rw [empty_beq] at h
  rw [List.isEmpty_iff.1 h]
end Go.Proofs.YtmhjdahmmdfbcaaGreatDoor
