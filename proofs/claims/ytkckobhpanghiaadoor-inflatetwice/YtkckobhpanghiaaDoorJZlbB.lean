/-
  sums in this seat: Big, Adler32.
  Walks of zlib: heads, the sum of a frame.
  Walks of zlib: Read.
-/
import Derived.Test.YtkckobhpanghiaaDoorJInfR
import Derived.WalkSpells
import Derived.WalkLawsBesides
import Derived.Laws.IdiomStrings
import Derived.Laws.BitsAllLaws
import Derived.Deep.QuietTactic
import Derived.BigQuiet
import Derived.OwnWalk
import Derived.Deep.RegionLaw
import Derived.Test.YtkckobhpanghiaaDoorInfL
import Derived.Test.YtkckobhpanghiaaDoorJInfV
namespace Go.Proofs.YtkckobhpanghiaaDoor
open Go.RowKit

/-- The bytes of x in n places, the lowest first. -/
def littleL (x : Nat) : Nat → List UInt8
  | 0 => []
  | n + 1 => UInt8.ofNat (x % 256) :: littleL (x / 256) n

def bigL (x n : Nat) : List UInt8 := (littleL x n).reverse

set_option maxRecDepth 100000 in
theorem littleL_zero (n : Nat) : littleL 0 n = List.replicate n 0 := by
  induction n with
  | zero => rfl
  | succ n ih => simp [littleL, ih, List.replicate_succ]

set_option maxRecDepth 100000 in
theorem bytesV_rep (n : Nat) : bytesV (List.replicate n 0) = List.replicate n (.int .u8 0) := by simp [bytesV]

set_option maxRecDepth 100000 in
theorem bytesV_set (l : List UInt8) (j : Nat) (c : UInt8) : (bytesV l).set j (.int .u8 (c.toNat : Int)) = bytesV (l.set j c) := by simp [bytesV, List.map_set]

set_option maxRecDepth 100000 in
theorem u8_wrap (x : Nat) : IntKind.u8.wrap (x : Int) = ((UInt8.ofNat (x % 256)).toNat : Int) := by
  rw [byte_of, IntKind.wrap_u8']; omega

set_option maxHeartbeats 400000 in
set_option maxRecDepth 100000 in
theorem noughts_some (n : Nat) (w : World) (h0 : 1 ≤ n) (h1 : n ≤ 2147483647) :
    Calls Tryd.prog 88 #[.int .i64 n] w fun e w' => e = .returned (.slice (some ⟨w.heap.size, 0, none⟩) n n) ∧ w'.ownsRow w.heap.size 5 1 (.slice (some ⟨w.heap.size, 0, none⟩) n n) n (bytesV (List.replicate n 0)) ∧ Below w.heap.size w w' ∧ w.heap.size < w'.heap.size := by
  obtain ⟨i0, hi, hz0, hz1, hz2⟩ := info_parts Tryd.info5
  go_enter Tryd.func88, Tryd.ntmps88
  go_wp2_with (at_make; refine wpList_make_full _ rfl _ _ 34 rfl w.heap.size 5 i0 (.int .u8 0) 1 Tryd.underlying34 hi hz0 hz1 .i64 .i64 _ _ n rfl rfl rfl rfl ?c1 ?c2 ?c3 ?_)
  case c1 => rw [hz2]; omega
  case c2 => unfold maxLen; omega
  case c3 => exact Nat.le_refl _
  intro w1 hown hgrow
  have hlt := (hown.lt w.heap.size rfl).2
  have hown2 : w1.ownsRow w.heap.size 5 1 (.slice (some ⟨w.heap.size, 0, none⟩) n n) n (bytesV (List.replicate n 0)) := by
    rw [bytesV_rep, ← toList_madeCells_one]
    simpa using hown
  have hbel : Below w.heap.size w w1 := (Below.refl _ _).grown hgrow (Nat.le_refl _) (by intro k hk; cases hk)
  clear hown hgrow
  go_wp2
  go_ret
  exact ⟨rfl, hown2, hbel, hlt⟩

def adS (s : Nat × Nat) (c : UInt8) : Nat × Nat := ((s.1 + c.toNat) % 65521, (s.2 + (s.1 + c.toNat) % 65521) % 65521)

def adR (s : Nat × Nat) (l : List UInt8) : Nat × Nat := l.foldl adS s

def adSum (l : List UInt8) : Nat := (adR (1, 0) l).2 * 65536 + (adR (1, 0) l).1

set_option maxRecDepth 100000 in
theorem Only.cell {b : Nat} {w w' : World} (h : Only b w w') {p : Addr} (hp : p.block ≠ b) : w'.cell? p = w.cell? p := World.cell?_of_block (h.block _ hp)

set_option maxRecDepth 100000 in
theorem Only.frozen {b : Nat} {w w' : World} (h : Only b w w') {p : Addr} (hp : p.block ≠ b) : w'.frozen? p = w.frozen? p := World.frozen?_of_block (h.block _ hp)

/-- A box of Adler's: a is one less than it is told. -/
structure AdBox (w : World) (b : Nat) (s : Nat × Nat) : Prop where
  lt1 : s.1 < 65521
  lt2 : s.2 < 65521
  c0 : w.cell? ⟨b, 0, none⟩ = some (.int .u32 ((s.1 + 65520) % 65521 : Nat))
  c1 : w.cell? ⟨b, 1, none⟩ = some (.int .u32 (s.2 : Nat))
  f0 : w.frozen? ⟨b, 0, none⟩ = false
  f1 : w.frozen? ⟨b, 1, none⟩ = false

set_option maxRecDepth 100000 in
theorem AdBox.only {w w' : World} {b c : Nat} {s : Nat × Nat} (h : AdBox w b s) (ho : Only c w w') (hne : b ≠ c) : AdBox w' b s :=
  ⟨h.lt1, h.lt2, (ho.cell (p := ⟨b, 0, none⟩) hne).trans h.c0, (ho.cell (p := ⟨b, 1, none⟩) hne).trans h.c1, (ho.frozen (p := ⟨b, 0, none⟩) hne).trans h.f0, (ho.frozen (p := ⟨b, 1, none⟩) hne).trans h.f1⟩

set_option maxRecDepth 100000 in
theorem AdBox.below {w w' : World} {b B : Nat} {s : Nat × Nat} (h : AdBox w b s) (ho : Below B w w') (hlt : b < B) : AdBox w' b s :=
  ⟨h.lt1, h.lt2, (ho.cell (p := ⟨b, 0, none⟩) hlt).trans h.c0, (ho.cell (p := ⟨b, 1, none⟩) hlt).trans h.c1, (ho.frozen (p := ⟨b, 0, none⟩) hlt).trans h.f0, (ho.frozen (p := ⟨b, 1, none⟩) hlt).trans h.f1⟩

end Go.Proofs.YtkckobhpanghiaaDoor
namespace Go.Proofs.YtkckobhpanghiaaDoor
open Go.RowKit

def headB (a b : Nat) : Bool := decide (a % 16 = 8 ∧ a / 16 ≤ 7 ∧ (256 * a + b) % 31 = 0 ∧ b / 32 % 2 = 0)
/-- a text's sum as a frame has it -/
def zsum (l : List UInt8) : List UInt8 := bigL (adSum l) 4
end Go.Proofs.YtkckobhpanghiaaDoor
namespace Go.Proofs.YtkckobhpanghiaaDoor
open Go.RowKit

/-- what zlib.Read says of a text -/
def ZQ (l : List UInt8) (a m : Int) (r : List UInt8 × Nat × Nat) : Prop :=
  ((a < 0 ∨ (l.length : Int) < a ∨ m < 0 ∨ 65536 < m) ∧ r = ([], 0, 1)) ∨
  (∃ A M : Nat, a = A ∧ m = M ∧ A ≤ l.length ∧ M ≤ 65536 ∧
    ((l.length < A + 2 ∧ r = ([], 0, 6)) ∨
     (A + 2 ≤ l.length ∧ headB (l.getD A 0).toNat (l.getD (A + 1) 0).toNat = false ∧ r = ([], 0, 3)) ∨
     (A + 2 ≤ l.length ∧ headB (l.getD A 0).toNat (l.getD (A + 1) 0).toNat = true ∧ ∃ o n e, InfQ l ((A + 2 : Nat) : Int) (M : Int) (o, n, e) ∧
       ((e ≠ 0 ∧ r = ([], 0, e)) ∨
        (e = 0 ∧ l.length < A + 2 + n + 4 ∧ r = ([], 0, 6)) ∨
        (e = 0 ∧ A + 2 + n + 4 ≤ l.length ∧ (l.drop (A + 2 + n)).take 4 ≠ zsum o ∧ r = ([], 0, 5)) ∨
        (e = 0 ∧ A + 2 + n + 4 ≤ l.length ∧ (l.drop (A + 2 + n)).take 4 = zsum o ∧ r = (o, n + 6, 0))))))
theorem bytes_ext {a b : ByteArray} (h : a.data.toList = b.data.toList) : a = b := by
  cases a
  cases b
  simp only at h
  rw [Array.toList_inj.1 h]
theorem getD_byte (s : ByteArray) (k : Nat) (h : k < s.size) : s.data.toList.getD k 0 = s[k] := by
  have h2 : k < s.data.toList.length := by rw [Array.length_toList]; exact h
  rw [List.getD_eq_getElem?_getD, List.getElem?_eq_getElem h2]
  rfl
end Go.Proofs.YtkckobhpanghiaaDoor
