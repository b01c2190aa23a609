/-
  Plain mathematics: digits of base 64 and of hexadecimal. It names nothing of the program.
-/
import Derived.Test.YtbodjopdhciaeaaDoorCrc
namespace Go.Proofs.YtbodjopdhciaeaaDoor
open Go

def alphaL : List UInt8 := [65, 66, 67, 68, 69, 70, 71, 72, 73, 74, 75, 76, 77, 78, 79, 80, 81, 82, 83, 84, 85, 86, 87, 88, 89, 90, 97, 98, 99, 100, 101, 102, 103, 104, 105, 106, 107, 108, 109, 110, 111, 112, 113, 114, 115, 116, 117, 118, 119, 120, 121, 122, 48, 49, 50, 51, 52, 53, 54, 55, 56, 57, 43, 47]
def alphaS : ByteArray := ⟨alphaL.toArray⟩
def alphaN (q : Nat) : UInt8 := alphaL.getD q 0
theorem alpha_at (q : Nat) (h : q < 64) : alphaS[q]'h = alphaN q := by
  unfold alphaN
  rw [List.getD_eq_getElem?_getD, List.getElem?_eq_getElem (h := h)]
  rfl

theorem foldB_small (l : List UInt8) : ∀ x n, x < 256 ^ n → l.foldl (fun x c => (x * 256 + c.toNat) % M64) x < 256 ^ (n + l.length) := by
  induction l with
  | nil => intro x n h; simpa using h
  | cons c l ih =>
    intro x n h
    have hc := byte_lt c
    have h1 : (x * 256 + c.toNat) % M64 < 256 ^ (n + 1) := by
      rw [Nat.pow_succ]
      exact Nat.lt_of_le_of_lt (Nat.mod_le _ _) (by omega)
    have := ih _ (n + 1) h1
    rw [List.foldl_cons, List.length_cons, show n + (l.length + 1) = n + 1 + l.length by omega]
    exact this
theorem numB_small (l : List UInt8) : numB l < 256 ^ l.length := by
  have := foldB_small l 0 0 (by decide)
  simpa [numB] using this

/-- The number of three bytes, those that lack being 0. -/
def gNum (g : List UInt8) : Nat := numB g * 2 ^ (8 * (3 - g.length))
theorem gNum_lt (g : List UInt8) (h1 : 1 ≤ g.length) (h2 : g.length ≤ 3) : gNum g < 16777216 := by
  have h := numB_small g
  unfold gNum
  rcases (by omega : g.length = 1 ∨ g.length = 2 ∨ g.length = 3) with e | e | e <;> rw [e] at h ⊢ <;> omega
def gDigit (g : List UInt8) (i : Nat) : UInt8 := if g.length < i then 61 else alphaN (gNum g / 2 ^ (18 - 6 * i) % 64)
def g64 (g : List UInt8) (n : Nat) : List UInt8 := (List.range n).map (gDigit g)
theorem g64_succ (g : List UInt8) (n : Nat) : g64 g (n + 1) = g64 g n ++ [gDigit g n] := by simp [g64, List.range_succ]
theorem g64_len (g : List UInt8) (n : Nat) : (g64 g n).length = n := by simp [g64]

theorem and63 (a : Nat) (ha : a < 16777216) : bits .and .u64 (a : Int) 63 = ((a % 64 : Nat) : Int) := by
  have := u64_and_nat a 63 (by omega) (by omega)
  rw [nat_mask6] at this
  exact this
theorem pick64 (n j : Nat) (h : n < 16777216) : bits .and .u64 ((n : Int) / 2 ^ j) 63 = ((n / 2 ^ j % 64 : Nat) : Int) := by
  have e : ((n : Int) / 2 ^ j) = ((n / 2 ^ j : Nat) : Int) := by simp
  rw [e]
  exact and63 _ (Nat.lt_of_le_of_lt (Nat.div_le_self _ _) h)
theorem wrapN (n : Nat) (h : n < 16777216) : IntKind.u64.wrap (n : Int) = (n : Int) := by rw [u64_wrap]; omega

/-- Base 64, three bytes at a time; the fuel is the length. -/
def b64F : Nat → List UInt8 → List UInt8
  | 0, _ => []
  | f + 1, l => if l.length ≥ 3 then g64 (l.take 3) 4 ++ b64F f (l.drop 3) else if l.length = 0 then [] else g64 l 4
theorem b64F_more (f : Nat) : ∀ (l : List UInt8) (f' : Nat), l.length < f → l.length < f' → b64F f l = b64F f' l := by
  induction f with
  | zero => intro l f' h; omega
  | succ f ih =>
    intro l f' h h'
    rcases f' with _ | f'
    · omega
    · unfold b64F
      by_cases h3 : l.length ≥ 3
      · rw [if_pos h3, if_pos h3, ih (l.drop 3) f' (by simp; omega) (by simp; omega)]
      · rw [if_neg h3, if_neg h3]
def b64 (l : List UInt8) : List UInt8 := b64F (l.length + 1) l
theorem b64_three (l : List UInt8) (h : l.length ≥ 3) : b64 l = g64 (l.take 3) 4 ++ b64 (l.drop 3) := by
  unfold b64
  conv => lhs; unfold b64F
  rw [if_pos h, b64F_more l.length (l.drop 3) ((l.drop 3).length + 1) (by simp; omega) (by omega)]
theorem b64_short (l : List UInt8) (h : l.length < 3) (h0 : 0 < l.length) : b64 l = g64 l 4 := by
  unfold b64 b64F
  rw [if_neg (by omega), if_neg (by omega)]
theorem b64_nil : b64 [] = [] := rfl
theorem b64_len (l : List UInt8) : (b64 l).length = (l.length + 2) / 3 * 4 := by
  have : ∀ n, ∀ l : List UInt8, l.length ≤ n → (b64 l).length = (l.length + 2) / 3 * 4 := by
    intro n
    induction n with
    | zero => intro l h; have : l = [] := List.eq_nil_of_length_eq_zero (by omega); subst this; rfl
    | succ n ih =>
      intro l h
      by_cases h3 : l.length ≥ 3
      · rw [b64_three l h3, List.length_append, g64_len, ih _ (by simp; omega)]; simp; omega
      · by_cases h0 : l.length = 0
        · have : l = [] := List.eq_nil_of_length_eq_zero h0
          subst this; rfl
        · rw [b64_short l (by omega) (by omega), g64_len]; omega
  exact this _ l (Nat.le_refl _)

end Go.Proofs.YtbodjopdhciaeaaDoor
