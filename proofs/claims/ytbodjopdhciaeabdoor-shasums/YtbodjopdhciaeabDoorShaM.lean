/-
  Plain mathematics: words of 32 bits, SHA-1's and SHA-256's steps. It names nothing of the program.
-/
import Derived.Laws.BitsAllLaws
namespace Go.Proofs.YtbodjopdhciaeabDoor
open Go

def rotl (s x : Nat) : Nat := x * 2 ^ s % 4294967296 + x / 2 ^ (32 - s)
theorem rotl_or (s x : Nat) (h2 : s < 32) (hx : x < 4294967296) : (x * 2 ^ s % 4294967296) ||| (x / 2 ^ (32 - s)) = rotl s x := by
  unfold rotl
  refine nat_join s _ _ ?_ ?_
  · have : (4294967296 : Nat) = 2 ^ s * 2 ^ (32 - s) := by rw [← Nat.pow_add, show s + (32 - s) = 32 by omega]
    rw [this, Nat.mul_comm x, Nat.mul_mod_mul_left, Nat.mul_mod_right]
  · rw [Nat.div_lt_iff_lt_mul (Nat.two_pow_pos _), ← Nat.pow_add, show s + (32 - s) = 32 by omega]
    exact hx
theorem rotl_lt (s x : Nat) (h2 : s < 32) (hx : x < 4294967296) : rotl s x < 4294967296 := by
  rw [← rotl_or s x h2 hx]
  exact Nat.or_lt_two_pow (n := 32) (Nat.mod_lt _ (by decide)) (Nat.lt_of_le_of_lt (Nat.div_le_self _ _) hx)

theorem byte_lt (c : UInt8) : c.toNat < 256 := UInt8.toNat_lt c
def be4 (a b c d : Nat) : Nat := a * 16777216 + b * 65536 + c * 256 + d
theorem be4_lt (a b c d : Nat) (ha : a < 256) (hb : b < 256) (hc : c < 256) (hd : d < 256) : be4 a b c d < 4294967296 := by unfold be4; omega
theorem be4_or (a b c d : Nat) (ha : a < 256) (hb : b < 256) (hc : c < 256) (hd : d < 256) :
    bits .or .u32 (bits .or .u32 (bits .or .u32 ((a : Int) % 4294967296 * 16777216 % 4294967296) ((b : Int) % 4294967296 * 65536 % 4294967296)) ((c : Int) % 4294967296 * 256 % 4294967296)) ((d : Int) % 4294967296) = ((be4 a b c d : Nat) : Int) := by
  rw [show ((a : Int) % 4294967296 * 16777216 % 4294967296) = ((a * 16777216 : Nat) : Int) by omega, show ((b : Int) % 4294967296 * 65536 % 4294967296) = ((b * 65536 : Nat) : Int) by omega,
    show ((c : Int) % 4294967296 * 256 % 4294967296) = ((c * 256 : Nat) : Int) by omega, show ((d : Int) % 4294967296) = (d : Int) by omega,
    u32_or_nat _ _ (by omega) (by omega), nat_join 24 _ _ (by omega) (by omega), u32_or_nat _ _ (by omega) (by omega), nat_join 16 _ _ (by omega) (by omega),
    u32_or_nat _ _ (by omega) (by omega), nat_join 8 _ _ (by omega) (by omega)]
  rfl
def wordB (x : Nat) : List UInt8 := [UInt8.ofNat (x / 16777216 % 256), UInt8.ofNat (x / 65536 % 256), UInt8.ofNat (x / 256 % 256), UInt8.ofNat (x % 256)]
theorem wordB_len (x : Nat) : (wordB x).length = 4 := rfl
def wordsB (l : List Nat) : List UInt8 := l.flatMap wordB
theorem wordsB_snoc (l : List Nat) (x : Nat) : wordsB (l ++ [x]) = wordsB l ++ wordB x := by simp [wordsB]
theorem wordsB_len (l : List Nat) : (wordsB l).length = 4 * l.length := by
  induction l with
  | nil => rfl
  | cons x l ih => show (wordB x ++ wordsB l).length = _; rw [List.length_append, ih, wordB_len]; simp; omega

def ones32 : Nat := 4294967295
theorem ones32_lt : ones32 < 4294967296 := by decide
theorem umax32 : IntKind.u32.max = ((ones32 : Nat) : Int) := by decide
theorem xor_lt {a b : Nat} (ha : a < 4294967296) (hb : b < 4294967296) : a ^^^ b < 4294967296 := Nat.xor_lt_two_pow (n := 32) ha hb
theorem and_lt {a b : Nat} (hb : b < 4294967296) : a &&& b < 4294967296 := Nat.and_lt_two_pow (n := 32) a hb
theorem or_lt {a b : Nat} (ha : a < 4294967296) (hb : b < 4294967296) : a ||| b < 4294967296 := Nat.or_lt_two_pow (n := 32) ha hb

/-! ### SHA-1 -/
def f1 (i b c d : Nat) : Nat :=
  if i < 20 then (b &&& c) ||| ((ones32 ^^^ b) &&& d) else if i < 40 then (b ^^^ c) ^^^ d else if i < 60 then ((b &&& c) ||| (b &&& d)) ||| (c &&& d) else (b ^^^ c) ^^^ d
def k1 (i : Nat) : Nat := if i < 20 then 1518500249 else if i < 40 then 1859775393 else if i < 60 then 2400959708 else 3395469782
theorem f1_lt (i b c d : Nat) (hb : b < 4294967296) (hc : c < 4294967296) (hd : d < 4294967296) : f1 i b c d < 4294967296 := by
  unfold f1
  split
  · exact or_lt (and_lt hc) (and_lt hd)
  · split
    · exact xor_lt (xor_lt hb hc) hd
    · split
      · exact or_lt (or_lt (and_lt hc) (and_lt hd)) (and_lt hd)
      · exact xor_lt (xor_lt hb hc) hd
theorem k1_lt (i : Nat) : k1 i < 4294967296 := by
  unfold k1
  split
  · decide
  · split
    · decide
    · split <;> decide

/-- Word i of a block of 64 bytes. -/
def blkW (p : List UInt8) (i : Nat) : Nat := be4 (p.getD (4 * i) 0).toNat (p.getD (4 * i + 1) 0).toNat (p.getD (4 * i + 2) 0).toNat (p.getD (4 * i + 3) 0).toNat
theorem blkW_lt (p : List UInt8) (i : Nat) : blkW p i < 4294967296 := be4_lt _ _ _ _ (byte_lt _) (byte_lt _) (byte_lt _) (byte_lt _)
def words16 (p : List UInt8) : List Nat := (List.range 16).map (blkW p)
/-- The next word of a row. -/
def nxt1 (l : List Nat) (i : Nat) : Nat := rotl 1 (((l.getD (i - 3) 0 ^^^ l.getD (i - 8) 0) ^^^ l.getD (i - 14) 0) ^^^ l.getD (i - 16) 0)
def ext1 : Nat → List Nat → List Nat
  | 0, l => l
  | n + 1, l => ext1 n (l ++ [nxt1 l l.length])
def sched1 (p : List UInt8) : List Nat := ext1 64 (words16 p)
def st1 (w : List Nat) (s : Nat × Nat × Nat × Nat × Nat) (i : Nat) : Nat × Nat × Nat × Nat × Nat :=
  let (a, b, c, d, e) := s
  ((((((rotl 5 a + f1 i b c d) % 4294967296 + e) % 4294967296 + k1 i) % 4294967296) + w.getD i 0) % 4294967296, a, rotl 30 b, c, d)
def rounds1 (w : List Nat) (s : Nat × Nat × Nat × Nat × Nat) (n : Nat) : Nat × Nat × Nat × Nat × Nat := (List.range n).foldl (st1 w) s
theorem rounds1_succ (w : List Nat) (s : Nat × Nat × Nat × Nat × Nat) (n : Nat) : rounds1 w s (n + 1) = st1 w (rounds1 w s n) n := by
  unfold rounds1; rw [List.range_succ, List.foldl_append]; rfl
def add32 (a b : Nat) : Nat := (a + b) % 4294967296
def mixL1 (h : List Nat) (p : List UInt8) : List Nat :=
  let r := rounds1 (sched1 p) (h.getD 0 0, h.getD 1 0, h.getD 2 0, h.getD 3 0, h.getD 4 0) 80
  [add32 (h.getD 0 0) r.1, add32 (h.getD 1 0) r.2.1, add32 (h.getD 2 0) r.2.2.1, add32 (h.getD 3 0) r.2.2.2.1, add32 (h.getD 4 0) r.2.2.2.2]
end Go.Proofs.YtbodjopdhciaeabDoor
