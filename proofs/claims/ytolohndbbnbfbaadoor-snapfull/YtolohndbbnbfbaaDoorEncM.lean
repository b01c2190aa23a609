/-
  A text that was made is told apart again, and back.
-/
import Derived.Test.YtolohndbbnbfbaaDoorDecA
namespace Go.Proofs.YtolohndbbnbfbaaDoor
open Go.RowKit

theorem splitC_app (c : UInt8) (p q : List UInt8) (h : c ∉ p) : splitC c (p ++ c :: q) = some (p, q) := by
  induction p with
  | nil => unfold splitC; simp
  | cons b p ih =>
    have h1 : b ≠ c := fun e => h (by simp [e])
    show splitC c (b :: (p ++ c :: q)) = _
    unfold splitC
    rw [if_neg h1, ih (fun hc => h (by simp [hc]))]
    rfl
theorem cutR_app (c : UInt8) (p q : List UInt8) (h : c ∉ p) : cutR c (p ++ c :: q) = (p, q, true) := by
  unfold cutR; rw [splitC_app c p q h]
theorem nm_signs : ∀ i, i < 5 → ∀ c ∈ nm i, c ≠ 0 ∧ c ≠ 32 := by decide
theorem nameL_signs (k : Int) (c : UInt8) (h : c ∈ nameL k) : c ≠ 0 ∧ c ≠ 32 := by
  unfold nameL at h
  split at h
  · by_cases h5 : k.toNat < 5
    · exact nm_signs _ h5 c h
    · rw [nm_big _ (by omega)] at h; simp at h
  · simp at h
theorem dig_signs (n : Nat) (c : UInt8) (h : c ∈ Lib.itoa (n : Nat)) : c ≠ 0 ∧ c ≠ 32 := by
  unfold Lib.itoa at h
  rw [if_neg (by omega)] at h
  have h1 := dd_digs _ c h
  unfold isDig at h1
  constructor
  · intro e; rw [e] at h1; revert h1; decide
  · intro e; rw [e] at h1; revert h1; decide
theorem kind_name (k : Int) (h : nameL k ≠ []) : kindL (nameL k) = k.toNat ∧ 1 ≤ k ∧ k ≤ 4 := by
  have h1 : 1 ≤ k ∧ k ≤ 4 := by
    refine Classical.byContradiction fun hn => h ?_
    unfold nameL
    split
    · by_cases h5 : 5 ≤ k.toNat
      · exact nm_big _ h5
      · have : k = 0 := by omega
        subst this; rfl
    · rfl
  obtain rfl | rfl | rfl | rfl : k = 1 ∨ k = 2 ∨ k = 3 ∨ k = 4 := by omega
  all_goals exact ⟨by decide, by decide, by decide⟩
theorem encL_shape (k : Int) (d : List UInt8) : encL k d = (nameL k ++ 32 :: Lib.itoa (d.length : Nat)) ++ 0 :: d := by
  unfold encL; simp
theorem dec_enc (k : Int) (d : List UInt8) (hk : nameL k ≠ []) (hd : d.length ≤ 65000) : decR (encL k d) = (k.toNat, d, 0) := by
  have h0 : (0 : UInt8) ∉ nameL k ++ 32 :: Lib.itoa (d.length : Nat) := by
    intro h
    rcases List.mem_append.1 h with h | h
    · exact (nameL_signs k 0 h).1 rfl
    · rcases List.mem_cons.1 h with h | h
      · revert h; decide
      · exact (dig_signs _ 0 h).1 rfl
  have h32 : (32 : UInt8) ∉ nameL k := fun h => (nameL_signs k 32 h).2 rfl
  have hok : NumOk (Lib.itoa (d.length : Nat)) := (itoa_ok _).2 ⟨by omega, by omega⟩
  unfold decR
  rw [encL_shape, cutR_app 0 _ _ h0]
  simp only
  rw [cutR_app 32 _ _ h32]
  simp only
  rw [numT_yes hok, numV_yes hok, itoa_val _ (by omega), (kind_name k hk).1]
  unfold decQ
  have hkk := (kind_name k hk).2
  rw [if_neg (by decide), if_neg (by omega), if_neg (by omega), if_neg (by omega), if_neg (by omega)]
theorem kindL_pos (l : List UInt8) (h : kindL l ≠ 0) : nameL (kindL l : Nat) = l ∧ kindL l ≤ 4 := by
  unfold kindL at h ⊢
  split
  · rename_i he; exact ⟨he.symm ▸ rfl, by decide⟩
  · split
    · rename_i he; exact ⟨he.symm ▸ rfl, by decide⟩
    · split
      · rename_i he; exact ⟨he.symm ▸ rfl, by decide⟩
      · split
        · rename_i he; exact ⟨he.symm ▸ rfl, by decide⟩
        · simp_all
theorem enc_dec (l : List UInt8) (h : (decR l).2.2 = 0) : encL ((decR l).1 : Nat) (decR l).2.1 = l ∧ nameL ((decR l).1 : Nat) ≠ [] ∧ (decR l).2.1.length ≤ 65000 := by
  unfold decR at h ⊢
  cases h0 : splitC 0 l with
  | none => unfold cutR at h; rw [h0] at h; simp only at h; unfold decQ at h; simp at h
  | some x =>
    obtain ⟨p, q⟩ := x
    have hc0 : cutR 0 l = (p, q, true) := by unfold cutR; rw [h0]
    obtain ⟨_, h2, _⟩ := split_some h0
    rw [hc0] at h ⊢
    simp only at h ⊢
    cases h3 : splitC 32 p with
    | none => unfold cutR at h; rw [h3] at h; simp only at h; unfold decQ at h; simp at h
    | some y =>
      obtain ⟨a, b⟩ := y
      have hc1 : cutR 32 p = (a, b, true) := by unfold cutR; rw [h3]
      obtain ⟨_, h5, _⟩ := split_some h3
      rw [hc1] at h ⊢
      simp only at h ⊢
      by_cases hk : NumOk b
      · rw [numT_yes hk, numV_yes hk] at h ⊢
        unfold decQ at h ⊢
        rw [if_neg (by decide)] at h ⊢
        by_cases c1 : kindL a = 0
        · rw [if_pos c1] at h; simp at h
        rw [if_neg c1] at h ⊢
        by_cases c2 : 65000 < valL b
        · rw [if_pos c2] at h; simp at h
        rw [if_neg c2] at h ⊢
        by_cases c3 : q.length < valL b
        · rw [if_pos c3] at h; simp at h
        rw [if_neg c3] at h ⊢
        by_cases c4 : valL b < q.length
        · rw [if_pos c4] at h; simp at h
        rw [if_neg c4]
        simp only
        have hk1 := kindL_pos a c1
        refine ⟨?_, ?_, by omega⟩
        · rw [encL_shape, hk1.1, show q.length = valL b by omega, itoa_back b hk, h2, h5]
        · rw [hk1.1]
          intro he
          rw [he] at c1
          exact c1 (by decide)
      · rw [numT_no hk] at h; unfold decQ at h; simp at h
theorem dec_err (l : List UInt8) (h : (decR l).2.2 ≠ 0) : (decR l).1 = 0 ∧ (decR l).2.1 = [] := by
  unfold decR at h ⊢
  unfold decQ at h ⊢
  split at h <;> simp_all
  split <;> simp_all
  split <;> simp_all
  split <;> simp_all
  split <;> simp_all
end Go.Proofs.YtolohndbbnbfbaaDoor
