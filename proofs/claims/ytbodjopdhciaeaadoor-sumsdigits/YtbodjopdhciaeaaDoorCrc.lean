/-
  Plain mathematics: the cyclic sum by halves of bytes and bit by bit; Adler's sum. It names nothing of the program.
-/
import Derived.Test.YtbodjopdhciaeaaDoorMath
namespace Go.Proofs.YtbodjopdhciaeaaDoor
open Go

def tabL : List Nat := [0, 498536548, 997073096, 651767980, 1994146192, 1802195444, 1303535960, 1342533948, 3988292384, 4027552580, 3604390888, 3412177804, 2607071920, 2262029012, 2685067896, 3183342108]
def tabN (i : Nat) : Nat := tabL.getD i 0
def nib (c : Nat) : Nat := (c / 16) ^^^ tabN (c % 16)
def crcStep (c : Nat) (b : UInt8) : Nat := nib (nib (c ^^^ b.toNat))
def crcRaw (c : Nat) (l : List UInt8) : Nat := l.foldl crcStep c
def ones32 : Nat := 4294967295
def flip32 (c : Nat) : Nat := ones32 ^^^ c
def poly : Nat := 3988292384
def bit1 (c : Nat) : Nat := (c / 2) ^^^ (if c % 2 = 1 then poly else 0)

theorem xor_half (x y : Nat) : (x ^^^ y) / 2 = x / 2 ^^^ y / 2 := by
  have := Nat.shiftRight_xor_distrib (a := x) (b := y) (i := 1)
  simpa [Nat.shiftRight_eq_div_pow] using this
theorem xor_par (x y : Nat) : (x ^^^ y) % 2 = (x % 2 + y % 2) % 2 := by
  have := Nat.xor_mod_two_pow (a := x) (b := y) (n := 1)
  rw [Nat.pow_one] at this
  rw [this]
  have hx := Nat.mod_two_eq_zero_or_one x
  have hy := Nat.mod_two_eq_zero_or_one y
  rcases hx with hx | hx <;> rcases hy with hy | hy <;> rw [hx, hy] <;> rfl

theorem bit1_xor (x y : Nat) : bit1 (x ^^^ y) = bit1 x ^^^ bit1 y := by
  unfold bit1
  rw [xor_half, xor_par]
  have hx := Nat.mod_two_eq_zero_or_one x
  have hy := Nat.mod_two_eq_zero_or_one y
  rcases hx with hx | hx <;> rcases hy with hy | hy <;> simp only [hx, hy]
  · simp
  · simp [Nat.xor_assoc]
  · simp; rw [Nat.xor_assoc, Nat.xor_assoc, Nat.xor_comm poly]
  · simp; rw [Nat.xor_assoc, Nat.xor_comm (y / 2) poly, ← Nat.xor_assoc poly poly, Nat.xor_self, Nat.zero_xor]

theorem bit1_even (h : Nat) : bit1 (2 * h) = h := by
  unfold bit1
  rw [show 2 * h / 2 = h by omega, show 2 * h % 2 = 0 by omega]
  simp

theorem split16 (c : Nat) : (16 * (c / 16)) ^^^ (c % 16) = c := by
  apply Nat.eq_of_testBit_eq
  intro i
  have h1 := Nat.testBit_two_pow_mul (i := 4) (a := c / 16) (j := i)
  have h2 := Nat.testBit_mod_two_pow c 4 i
  have h3 := Nat.testBit_div_two_pow (n := 4) c (i - 4)
  rw [show (2 : Nat) ^ 4 = 16 by rfl] at h1 h2 h3
  rw [Nat.testBit_xor, h1, h2, h3]
  by_cases hi : i < 4
  · have g : ¬ 4 ≤ i := by omega
    simp [hi, g]
  · have e : i - 4 + 4 = i := by omega
    have g : i ≥ 4 := by omega
    simp [hi, g, e]

theorem nib_bits (c : Nat) : nib c = bit1 (bit1 (bit1 (bit1 c))) := by
  have hs := split16 c
  have hl : ∀ l, l < 16 → bit1 (bit1 (bit1 (bit1 l))) = tabN l := by decide
  have hh : bit1 (bit1 (bit1 (bit1 (16 * (c / 16))))) = c / 16 := by
    rw [show 16 * (c / 16) = 2 * (8 * (c / 16)) by omega, bit1_even, show 8 * (c / 16) = 2 * (4 * (c / 16)) by omega, bit1_even,
      show 4 * (c / 16) = 2 * (2 * (c / 16)) by omega, bit1_even, bit1_even]
  conv => rhs; rw [← hs, bit1_xor, bit1_xor, bit1_xor, bit1_xor, hh, hl _ (Nat.mod_lt _ (by decide))]
  rfl

/-- The document's way: bit i of the byte is held against the lowest bit of the sum. -/
def refBit (b : Nat) (c i : Nat) : Nat := if ((c ^^^ (b / 2 ^ i)) % 2 = 1) then (c / 2) ^^^ poly else c / 2
theorem refBit_eq (b c i : Nat) : refBit b c i ^^^ (b / 2 ^ (i + 1)) = bit1 (c ^^^ (b / 2 ^ i)) := by
  unfold refBit bit1
  rw [xor_half, Nat.pow_succ, ← Nat.div_div_eq_div_mul]
  split <;> rename_i h
  · rw [Nat.xor_assoc, Nat.xor_assoc, Nat.xor_comm poly]
  · simp
def refByte (c b : Nat) : Nat := (List.range 8).foldl (refBit b) c
theorem refByte_eq (c : Nat) (b : UInt8) : refByte c b.toNat = crcStep c b := by
  have hb := byte_lt b
  have h0 : b.toNat / 2 ^ 8 = 0 := by omega
  have e : refByte c b.toNat = refByte c b.toNat ^^^ (b.toNat / 2 ^ (7 + 1)) := by simp only [h0, Nat.xor_zero, show 7 + 1 = 8 by rfl]
  rw [e]
  unfold refByte
  simp only [List.range, List.range.loop, List.foldl_cons, List.foldl_nil]
  simp only [refBit_eq]
  unfold crcStep
  rw [nib_bits, nib_bits]
  simp

theorem tabN_lt (i : Nat) : tabN i < 4294967296 := by
  by_cases h : i < 16
  · have : ∀ j, j < 16 → tabN j < 4294967296 := by decide
    exact this i h
  · unfold tabN; rw [List.getD_eq_getElem?_getD, List.getElem?_eq_none (by simp [tabL]; omega)]; exact (by decide : (0 : Nat) < 4294967296)
theorem xor_lt {a b : Nat} (ha : a < 4294967296) (hb : b < 4294967296) : a ^^^ b < 4294967296 := Nat.xor_lt_two_pow (n := 32) ha hb
theorem nib_lt (c : Nat) (h : c < 4294967296) : nib c < 4294967296 := xor_lt (by omega) (tabN_lt _)
theorem crcStep_lt (c : Nat) (b : UInt8) (h : c < 4294967296) : crcStep c b < 4294967296 := by
  unfold crcStep
  exact nib_lt _ (nib_lt _ (xor_lt h (by have := byte_lt b; omega)))
theorem flip32_lt (c : Nat) (h : c < 4294967296) : flip32 c < 4294967296 := xor_lt (by unfold ones32; omega) h
theorem xor_twice (o c : Nat) : o ^^^ (o ^^^ c) = c := by rw [← Nat.xor_assoc, Nat.xor_self, Nat.zero_xor]
theorem flip32_eq (c : Nat) : flip32 c = ones32 ^^^ c := rfl
theorem flip32_flip (c : Nat) : flip32 (flip32 c) = c := by rw [flip32_eq, flip32_eq, xor_twice]
theorem crcRaw_lt (l : List UInt8) : ∀ c, c < 4294967296 → crcRaw c l < 4294967296 := by
  induction l with
  | nil => intro c h; exact h
  | cons b l ih => intro c h; exact ih _ (crcStep_lt c b h)
theorem crcRaw_snoc (c : Nat) (l : List UInt8) (b : UInt8) : crcRaw c (l ++ [b]) = crcStep (crcRaw c l) b := by simp [crcRaw, List.foldl_append]
theorem crcRaw_app (c : Nat) (l m : List UInt8) : crcRaw c (l ++ m) = crcRaw (crcRaw c l) m := by simp [crcRaw, List.foldl_append]
/-- What is kept behind a text was written. -/
def crcW (c : Nat) (l : List UInt8) : Nat := flip32 (crcRaw (flip32 c) l)
theorem crcW_app (c : Nat) (l m : List UInt8) : crcW (crcW c l) m = crcW c (l ++ m) := by unfold crcW; rw [flip32_flip, crcRaw_app]
theorem crcW_lt (c : Nat) (l : List UInt8) (h : c < 4294967296) : crcW c l < 4294967296 := flip32_lt _ (crcRaw_lt _ _ (flip32_lt _ h))
theorem crcW_take (c : Nat) (s : ByteArray) (k : Nat) (h : k < s.size) : crcRaw c (s.data.toList.take (k + 1)) = crcStep (crcRaw c (s.data.toList.take k)) s[k] := by rw [take_snoc s k h, crcRaw_snoc]

/-! ### a changed byte changes the cyclic sum -/
def back1 (d : Nat) : Nat := if 2147483648 ≤ d then 2 * (d ^^^ poly) + 1 else 2 * d
theorem high_xor (x : Nat) (h : x < 2147483648) : 2147483648 ≤ x ^^^ poly := by
  have hx : x.testBit 31 = false := Nat.testBit_lt_two_pow (by simpa using h)
  have hp : poly.testBit 31 = true := by decide
  have ht : (x ^^^ poly).testBit 31 = true := by rw [Nat.testBit_xor, hx, hp]; rfl
  have := Nat.ge_two_pow_of_testBit ht
  simpa using this
theorem back1_bit1 (c : Nat) (h : c < 4294967296) : back1 (bit1 c) = c := by
  unfold bit1 back1
  rcases Nat.mod_two_eq_zero_or_one c with hp | hp
  · simp only [hp]
    have : ¬ 2147483648 ≤ c / 2 := by omega
    simp [this]; omega
  · simp only [hp]
    have := high_xor (c / 2) (by omega)
    simp only [if_true, this]
    rw [Nat.xor_assoc, Nat.xor_self, Nat.xor_zero]; omega
theorem bit1_lt (c : Nat) (h : c < 4294967296) : bit1 c < 4294967296 := by
  unfold bit1
  refine xor_lt (by omega) ?_
  split
  · decide
  · omega
theorem bit1_inj {c d : Nat} (hc : c < 4294967296) (hd : d < 4294967296) (h : bit1 c = bit1 d) : c = d := by
  rw [← back1_bit1 c hc, ← back1_bit1 d hd, h]
theorem nib_inj {c d : Nat} (hc : c < 4294967296) (hd : d < 4294967296) (h : nib c = nib d) : c = d := by
  rw [nib_bits, nib_bits] at h
  have l1 := fun x hx => bit1_lt x hx
  exact bit1_inj hc hd (bit1_inj (l1 _ hc) (l1 _ hd) (bit1_inj (l1 _ (l1 _ hc)) (l1 _ (l1 _ hd)) (bit1_inj (l1 _ (l1 _ (l1 _ hc))) (l1 _ (l1 _ (l1 _ hd))) h)))
theorem xor_right_inj {a b c : Nat} (h : a ^^^ c = b ^^^ c) : a = b := by
  have := congrArg (· ^^^ c) h
  simpa [Nat.xor_assoc, Nat.xor_self] using this
theorem crcStep_inj_state {c d : Nat} (b : UInt8) (hc : c < 4294967296) (hd : d < 4294967296) (h : crcStep c b = crcStep d b) : c = d := by
  have hb := byte_lt b
  have hx := xor_lt hc (show b.toNat < 4294967296 by omega)
  have hy := xor_lt hd (show b.toNat < 4294967296 by omega)
  exact xor_right_inj (nib_inj hx hy (nib_inj (nib_lt _ hx) (nib_lt _ hy) h))
theorem crcStep_inj_byte {c : Nat} (b b' : UInt8) (hc : c < 4294967296) (h : crcStep c b = crcStep c b') : b = b' := by
  have hb := byte_lt b
  have hb' := byte_lt b'
  have hx := xor_lt hc (show b.toNat < 4294967296 by omega)
  have hy := xor_lt hc (show b'.toNat < 4294967296 by omega)
  have := nib_inj hx hy (nib_inj (nib_lt _ hx) (nib_lt _ hy) h)
  rw [Nat.xor_comm c, Nat.xor_comm c] at this
  exact UInt8.toNat_inj.1 (xor_right_inj this)
theorem crcRaw_inj (l : List UInt8) : ∀ {c d : Nat}, c < 4294967296 → d < 4294967296 → crcRaw c l = crcRaw d l → c = d := by
  induction l with
  | nil => intro c d _ _ h; exact h
  | cons b l ih => intro c d hc hd h; exact crcStep_inj_state b hc hd (ih (crcStep_lt c b hc) (crcStep_lt d b hd) h)
theorem crc_apart (p q : List UInt8) (b b' : UInt8) (hne : b ≠ b') : crcW 0 (p ++ b :: q) ≠ crcW 0 (p ++ b' :: q) := by
  intro h
  unfold crcW at h
  have h1 : crcRaw (flip32 0) (p ++ b :: q) = crcRaw (flip32 0) (p ++ b' :: q) := by rw [← flip32_flip (crcRaw _ (p ++ b :: q)), h, flip32_flip]
  rw [crcRaw_app, crcRaw_app] at h1
  have hs : crcRaw (flip32 0) p < 4294967296 := crcRaw_lt _ _ (flip32_lt _ (by omega))
  have h2 := crcRaw_inj q (crcStep_lt _ b hs) (crcStep_lt _ b' hs) h1
  exact hne (crcStep_inj_byte b b' hs h2)

/-! ### Adler's sum -/
def adS (s : Nat × Nat) (c : UInt8) : Nat × Nat := ((s.1 + c.toNat) % 65521, (s.2 + (s.1 + c.toNat) % 65521) % 65521)
def adR (s : Nat × Nat) (l : List UInt8) : Nat × Nat := l.foldl adS s
def adSum (l : List UInt8) : Nat := (adR (1, 0) l).2 * 65536 + (adR (1, 0) l).1
theorem adR_snoc (s : Nat × Nat) (l : List UInt8) (c : UInt8) : adR s (l ++ [c]) = adS (adR s l) c := by simp [adR, List.foldl_append]
theorem adR_app (s : Nat × Nat) (l m : List UInt8) : adR s (l ++ m) = adR (adR s l) m := by simp [adR, List.foldl_append]
theorem adR_lt (l : List UInt8) : ∀ s : Nat × Nat, s.1 < 65521 → s.2 < 65521 → (adR s l).1 < 65521 ∧ (adR s l).2 < 65521 := by
  induction l with
  | nil => intro s h1 h2; exact ⟨h1, h2⟩
  | cons c l ih => intro s h1 h2; exact ih _ (Nat.mod_lt _ (by decide)) (Nat.mod_lt _ (by decide))
theorem adR_take (s0 : Nat × Nat) (s : ByteArray) (k : Nat) (h : k < s.size) : adR s0 (s.data.toList.take (k + 1)) = adS (adR s0 (s.data.toList.take k)) s[k] := by rw [take_snoc s k h, adR_snoc]

/-- The first sum alone. -/
theorem adR_first (l : List UInt8) : ∀ s t : Nat × Nat, s.1 < 65521 → t.1 < 65521 → s.1 ≠ t.1 → (adR s l).1 ≠ (adR t l).1 := by
  induction l with
  | nil => intro s t _ _ h; exact h
  | cons c l ih =>
    intro s t hs ht h
    have hc := byte_lt c
    refine ih (adS s c) (adS t c) (Nat.mod_lt _ (by decide)) (Nat.mod_lt _ (by decide)) ?_
    show (s.1 + c.toNat) % 65521 ≠ (t.1 + c.toNat) % 65521
    omega
theorem adler_apart (p q : List UInt8) (b b' : UInt8) (hne : b ≠ b') : adSum (p ++ b :: q) ≠ adSum (p ++ b' :: q) := by
  intro h
  unfold adSum at h
  have hp := adR_lt p (1, 0) (by decide) (by decide)
  have hb := byte_lt b
  have hb' := byte_lt b'
  have hn : b.toNat ≠ b'.toNat := fun e => hne (UInt8.toNat_inj.1 e)
  have h1 := adR_first q (adS (adR (1, 0) p) b) (adS (adR (1, 0) p) b') (Nat.mod_lt _ (by decide)) (Nat.mod_lt _ (by decide)) (by
    show ((adR (1, 0) p).1 + b.toNat) % 65521 ≠ ((adR (1, 0) p).1 + b'.toNat) % 65521
    omega)
  have e1 : ∀ x, adR (1, 0) (p ++ x :: q) = adR (adS (adR (1, 0) p) x) q := fun x => by rw [adR_app]; rfl
  rw [e1, e1] at h
  have l1 := adR_lt q (adS (adR (1, 0) p) b) (Nat.mod_lt _ (by decide)) (Nat.mod_lt _ (by decide))
  have l2 := adR_lt q (adS (adR (1, 0) p) b') (Nat.mod_lt _ (by decide)) (Nat.mod_lt _ (by decide))
  omega

end Go.Proofs.YtbodjopdhciaeaaDoor
