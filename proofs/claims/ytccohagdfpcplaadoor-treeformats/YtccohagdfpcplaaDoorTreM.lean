/-
  Plain mathematics of tree: numbers to the base 8, names, keys.
-/
import Derived.Test.YtccohagdfpcplaaDoorProg
namespace Go.Proofs.YtccohagdfpcplaaDoor

/-- a number to the base 8 -/
def octN (n : Nat) : List UInt8 := if h : n < 8 then [UInt8.ofNat (48 + n)] else octN (n / 8) ++ [UInt8.ofNat (48 + n % 8)]
termination_by n
decreasing_by omega
theorem octN_lt {n : Nat} (h : n < 8) : octN n = [UInt8.ofNat (48 + n)] := by rw [octN, dif_pos h]
theorem octN_ge {n : Nat} (h : ¬ n < 8) : octN n = octN (n / 8) ++ [UInt8.ofNat (48 + n % 8)] := by rw [octN, dif_neg h]
def valO (l : List UInt8) : Nat := l.foldl (fun a c => 8 * a + (c.toNat - 48)) 0
theorem valO_app (l : List UInt8) (c : UInt8) : valO (l ++ [c]) = 8 * valO l + (c.toNat - 48) := by unfold valO; rw [List.foldl_append]; rfl
theorem dig_nat {n : Nat} (h : n < 8) : (UInt8.ofNat (48 + n)).toNat = 48 + n := by rw [UInt8.toNat_ofNat']; omega
theorem valO_oct (n : Nat) : valO (octN n) = n := by
  induction n using Nat.strongRecOn with
  | _ n ih =>
    by_cases h : n < 8
    · rw [octN_lt h]
      show 8 * 0 + ((UInt8.ofNat (48 + n)).toNat - 48) = n
      rw [dig_nat h]; omega
    · rw [octN_ge h, valO_app, ih (n / 8) (by omega), dig_nat (by omega)]; omega
theorem octN_dig (n : Nat) : ∀ c ∈ octN n, 48 ≤ c.toNat ∧ c.toNat ≤ 55 := by
  induction n using Nat.strongRecOn with
  | _ n ih =>
    intro c hc
    by_cases h : n < 8
    · rw [octN_lt h, List.mem_singleton] at hc
      rw [hc, dig_nat h]; omega
    · rw [octN_ge h, List.mem_append, List.mem_singleton] at hc
      rcases hc with hc | hc
      · exact ih (n / 8) (by omega) c hc
      · rw [hc, dig_nat (by omega)]; omega
theorem octN_len (n k : Nat) (hk : 0 < k) (h : n < 8 ^ k) : (octN n).length ≤ k := by
  induction k generalizing n with
  | zero => omega
  | succ k ih =>
    by_cases h8 : n < 8
    · rw [octN_lt h8]; simp
    · rw [octN_ge h8, List.length_append]
      have h1 : n / 8 < 8 ^ k := by rw [Nat.div_lt_iff_lt_mul (by decide)]; rw [Nat.pow_succ] at h; exact h
      have hk0 : 0 < k := by
        rcases Nat.eq_zero_or_pos k with h0 | h0
        · subst h0; simp at h1; omega
        · exact h0
      have := ih (n / 8) hk0 h1
      simp; omega
theorem octN_pos (n : Nat) : 0 < (octN n).length := by
  by_cases h : n < 8
  · rw [octN_lt h]; simp
  · rw [octN_ge h]; simp
/-- with its sign -/
def octZ (m : Int) : List UInt8 := if m < 0 then 45 :: octN m.natAbs else octN m.natAbs
theorem octZ_inj {a b : Int} (h : octZ a = octZ b) : a = b := by
  have head : ∀ n m : Nat, octN n ≠ 45 :: octN m := fun n m e => by
    have := octN_dig n 45 (by rw [e]; exact List.mem_cons_self)
    revert this; decide
  unfold octZ at h
  by_cases ha : a < 0 <;> by_cases hb : b < 0
  · rw [if_pos ha, if_pos hb] at h
    have h1 := congrArg valO (List.cons.inj h).2
    rw [valO_oct, valO_oct] at h1; omega
  · rw [if_pos ha, if_neg hb] at h
    exact absurd h.symm (head _ _)
  · rw [if_neg ha, if_pos hb] at h
    exact absurd h (head _ _)
  · rw [if_neg ha, if_neg hb] at h
    have h1 := congrArg valO h
    rw [valO_oct, valO_oct] at h1; omega
theorem octN_step {n : Nat} (h : 8 ≤ n) (t : List UInt8) : octN n ++ t = octN (n / 8) ++ (UInt8.ofNat (48 + n % 8) :: t) := by
  rw [octN_ge (by omega), List.append_assoc]; rfl
/-- the five modes -/
def modesL : List Int := [16384, 33188, 33261, 40960, 57344]
/-- small letters -/
def lowC (c : UInt8) : UInt8 := if 65 ≤ c.toNat ∧ c.toNat ≤ 90 then c + 32 else c
def dotGit : List UInt8 := [46, 103, 105, 116]
/-- may an entry be called so -/
def nameB (l : List UInt8) : Bool := decide (1 ≤ l.length ∧ l.length ≤ 100 ∧ (47 : UInt8) ∉ l ∧ (0 : UInt8) ∉ l ∧ l ≠ [46] ∧ l ≠ [46, 46] ∧ l.map lowC ≠ dotGit)
/-- an entry -/
structure Ent where
  mode : Int
  name : List UInt8
  id : List UInt8
end Go.Proofs.YtccohagdfpcplaaDoor
