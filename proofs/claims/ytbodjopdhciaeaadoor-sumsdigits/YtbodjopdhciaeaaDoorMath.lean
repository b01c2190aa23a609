/-
  Plain mathematics for the walks of this seat: numbers as bytes, the cyclic sum, Adler's sum, digits. It names nothing of the program.
-/
import Derived.Laws.BitsAllLaws
namespace Go.Proofs.YtbodjopdhciaeaaDoor
open Go

/-! ### numbers as bytes -/
def M64 : Nat := 18446744073709551616
def numB (l : List UInt8) : Nat := l.foldl (fun x c => (x * 256 + c.toNat) % M64) 0

theorem numB_snoc (l : List UInt8) (c : UInt8) : numB (l ++ [c]) = (numB l * 256 + c.toNat) % M64 := by
  simp [numB, List.foldl_append]

theorem take_snoc (s : ByteArray) (k : Nat) (h : k < s.size) : s.data.toList.take (k + 1) = s.data.toList.take k ++ [s[k]] := by
  rw [List.take_succ_eq_append_getElem (by simpa using h)]; rfl

theorem numB_take (s : ByteArray) (k : Nat) (h : k < s.size) : numB (s.data.toList.take (k + 1)) = (numB (s.data.toList.take k) * 256 + s[k].toNat) % M64 := by
  rw [take_snoc s k h, numB_snoc]

theorem u64_wrap (n : Int) : IntKind.u64.wrap n = n % 18446744073709551616 := by
  simp [IntKind.wrap, IntKind.bits, IntKind.signed]

theorem byte_lt (c : UInt8) : c.toNat < 256 := UInt8.toNat_lt c

theorem or_step (y : Nat) (c : UInt8) : bits .or .u64 (IntKind.u64.wrap ((y : Int) * 256)) (IntKind.u64.wrap (c.toNat : Int)) = (((y * 256 + c.toNat) % M64 : Nat) : Int) := by
  have hc := byte_lt c
  rw [u64_wrap, u64_wrap]
  have e1 : ((y : Int) * 256) % 18446744073709551616 = ((y * 256 % 18446744073709551616 : Nat) : Int) := by omega
  have e2 : (c.toNat : Int) % 18446744073709551616 = (c.toNat : Int) := by omega
  rw [e1, e2, u64_or_nat _ _ (by omega) (by omega), nat_join 8 _ _ (by omega) (by omega)]
  unfold M64
  omega

theorem add_step (y : Nat) (c : UInt8) : IntKind.u64.wrap (IntKind.u64.wrap (256 * (y : Int)) + IntKind.u64.wrap (c.toNat : Int)) = (((y * 256 + c.toNat) % M64 : Nat) : Int) := by
  have hc := byte_lt c
  simp only [u64_wrap]
  unfold M64
  omega

/-- The bytes of x in n places, the lowest first. -/
def littleL (x : Nat) : Nat → List UInt8
  | 0 => []
  | n + 1 => UInt8.ofNat (x % 256) :: littleL (x / 256) n
def bigL (x n : Nat) : List UInt8 := (littleL x n).reverse

theorem littleL_len (n : Nat) : ∀ x, (littleL x n).length = n := by
  induction n with
  | zero => intro x; rfl
  | succ n ih => intro x; simp [littleL, ih]
theorem bigL_len (x n : Nat) : (bigL x n).length = n := by simp [bigL, littleL_len]
theorem littleL_zero (n : Nat) : littleL 0 n = List.replicate n 0 := by
  induction n with
  | zero => rfl
  | succ n ih => simp [littleL, ih, List.replicate_succ]
theorem bigL_zero (n : Nat) : bigL 0 n = List.replicate n 0 := by simp [bigL, littleL_zero]
theorem bigL_succ (x n : Nat) : bigL x (n + 1) = bigL (x / 256) n ++ [UInt8.ofNat (x % 256)] := by simp [bigL, littleL]

theorem byte_of (x : Nat) : (UInt8.ofNat (x % 256)).toNat = x % 256 := by simp

theorem numB_bound (l : List UInt8) : numB l < M64 := by
  rcases List.eq_nil_or_concat l with h | ⟨l', c, h⟩
  · subst h; decide
  · subst h; rw [List.concat_eq_append, numB_snoc]; exact Nat.mod_lt _ (by decide)

/-- A number below 256^n, written in n bytes, is read back. -/
theorem numB_bigL (n : Nat) : ∀ x, x < 256 ^ n → x < M64 → numB (bigL x n) = x := by
  induction n with
  | zero => intro x h _; simp at h; subst h; rfl
  | succ n ih =>
    intro x h hM
    rw [bigL_succ, numB_snoc, ih (x / 256) (by rw [Nat.pow_succ] at h; omega) (by unfold M64 at *; omega), byte_of]
    unfold M64 at *
    omega

theorem set_last {α : Type} (k : Nat) (z c : α) (T : List α) : (List.replicate (k + 1) z ++ T).set k c = List.replicate k z ++ (c :: T) := by
  rw [List.replicate_succ']
  simp
theorem set_first {α : Type} (P : List α) (k : Nat) (z c : α) : (P ++ List.replicate (k + 1) z).set P.length c = (P ++ [c]) ++ List.replicate k z := by
  rw [List.replicate_succ]
  simp

end Go.Proofs.YtbodjopdhciaeaaDoor
