/-
  The document's Check, Text and Id.
  A text that was made is told apart again, and back.
  ObjectTexts: the walk.
-/
import Derived.Test.YtddoemeellbhaaaGreatDoorJRefX
import Derived.Test.YtddoemeellbhaaaGreatDoorJDecA
namespace Go.Proofs.YtddoemeellbhaaaGreatDoor
open Go.RowKit
end Go.Proofs.YtddoemeellbhaaaGreatDoor
namespace Go.Proofs.YtddoemeellbhaaaGreatDoor
open Go.RowKit
theorem splitC_app (c : UInt8) (p q : List UInt8) (h : c ∉ p) : splitC c (p ++ c :: q) = some (p, q) := by
  induction p with
  | nil => unfold splitC; simp
  | cons b p ih =>
    have h1 : b ≠ c := fun e => h (by simp [e])
    show splitC c (b :: (p ++ c :: q)) = _
    unfold splitC
    rw [if_neg h1, ih (fun hc => h (by simp [hc]))]
    rfl
theorem cutR_app (c : UInt8) (p q : List UInt8) (h : c ∉ p) : cutR c (p ++ c :: q) = (p, q, true) := by
  unfold cutR; rw [splitC_app c p q h]
theorem nm_signs : ∀ i, i < 5 → ∀ c ∈ nm i, c ≠ 0 ∧ c ≠ 32 := by decide
theorem nameL_signs (k : Int) (c : UInt8) (h : c ∈ nameL k) : c ≠ 0 ∧ c ≠ 32 := by
  unfold nameL at h
  split at h
  · by_cases h5 : k.toNat < 5
    · exact nm_signs _ h5 c h
    · rw [nm_big _ (by omega)] at h; simp at h
  · simp at h
theorem dig_signs (n : Nat) (c : UInt8) (h : c ∈ Lib.itoa (n : Nat)) : c ≠ 0 ∧ c ≠ 32 := by
  unfold Lib.itoa at h
  rw [if_neg (by omega)] at h
  have h1 := dd_digs _ c h
  unfold isDig at h1
  constructor
  · intro e; rw [e] at h1; revert h1; decide
  · intro e; rw [e] at h1; revert h1; decide
theorem kind_name (k : Int) (h : nameL k ≠ []) : kindL (nameL k) = k.toNat ∧ 1 ≤ k ∧ k ≤ 4 := by
  have h1 : 1 ≤ k ∧ k ≤ 4 := by
    refine Classical.byContradiction fun hn => h ?_
    unfold nameL
    split
    · by_cases h5 : 5 ≤ k.toNat
      · exact nm_big _ h5
      · have : k = 0 := by omega
        subst this; rfl
    · rfl
  obtain rfl | rfl | rfl | rfl : k = 1 ∨ k = 2 ∨ k = 3 ∨ k = 4 := by omega
  all_goals exact ⟨by decide, by decide, by decide⟩
theorem encL_shape (k : Int) (d : List UInt8) : encL k d = (nameL k ++ 32 :: Lib.itoa (d.length : Nat)) ++ 0 :: d := by
  unfold encL; simp
theorem dec_enc (k : Int) (d : List UInt8) (hk : nameL k ≠ []) (hd : d.length ≤ 65000) : decR (encL k d) = (k.toNat, d, 0) := by
  have h0 : (0 : UInt8) ∉ nameL k ++ 32 :: Lib.itoa (d.length : Nat) := by
    intro h
    rcases List.mem_append.1 h with h | h
    · exact (nameL_signs k 0 h).1 rfl
    · rcases List.mem_cons.1 h with h | h
      · revert h; decide
      · exact (dig_signs _ 0 h).1 rfl
  have h32 : (32 : UInt8) ∉ nameL k := fun h => (nameL_signs k 32 h).2 rfl
  have hok : NumOk (Lib.itoa (d.length : Nat)) := (itoa_ok _).2 ⟨by omega, by omega⟩
  unfold decR
  rw [encL_shape, cutR_app 0 _ _ h0]
  simp only
  rw [cutR_app 32 _ _ h32]
  simp only
  rw [numT_yes hok, numV_yes hok, itoa_val _ (by omega), (kind_name k hk).1]
  unfold decQ
  have hkk := (kind_name k hk).2
  rw [if_neg (by decide), if_neg (by omega), if_neg (by omega), if_neg (by omega), if_neg (by omega)]
end Go.Proofs.YtddoemeellbhaaaGreatDoor
namespace Go.Proofs.YtddoemeellbhaaaGreatDoor
open Go.RowKit
theorem encL_len (k : Int) (d : List UInt8) (hd : d.length ≤ 65000) : (encL k d).length ≤ 65100 := by
  unfold encL
  have h1 := nameL_len k
  have h2 := Lib.itoa_length_le (d.length : Nat) (by omega) (by omega)
  simp only [List.length_append, List.length_cons, List.length_nil]
  omega
end Go.Proofs.YtddoemeellbhaaaGreatDoor
