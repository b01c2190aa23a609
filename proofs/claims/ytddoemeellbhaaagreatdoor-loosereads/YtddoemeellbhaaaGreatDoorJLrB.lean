/-
  Plain mathematics of what Deflate writes.
  The finder: its map with keys of three bytes, beginnings, the newest one, a place is added, how much is alike, the longest, a new one.
  Inflate, the writing side: what the writer leaves as it was, lengths and distances, a fixed block, Deflate.
  The document's Stored.
  The law InflateWrites, walked.
  Walks of zlib: Write; a frame is read within other bytes.
  The program's Write (f22): an object's file.
  At most so many files, copied and cut, in a row to which one may append.
  What is read back of an object's file; the document's Path (f16).
  The document's Decode.
  The document's answers of loose: is it a name, the object of a file's bytes, the object of a name among files.
-/
import Derived.Test.YtddoemeellbhaaaGreatDoorJBitZ
import Derived.Test.YtddoemeellbhaaaGreatDoorJInfR
import Derived.Test.YtddoemeellbhaaaGreatDoorJInfV
import Derived.Test.YtddoemeellbhaaaGreatDoorRows
import Derived.DeepKeys4
import Derived.Maps.OwnSet
import Derived.Test.YtddoemeellbhaaaGreatDoorJInfX
import Derived.Laws.ResultCell
import Derived.Test.YtddoemeellbhaaaGreatDoorJZlbB
import Derived.OwnWalk
import Derived.Test.YtddoemeellbhaaaGreatDoorJFixC
import Derived.Test.YtddoemeellbhaaaGreatDoorJZrdA
import Derived.Test.YtddoemeellbhaaaGreatDoorJLoC
import Derived.Test.YtddoemeellbhaaaGreatDoorJTxtB
import Derived.Test.YtddoemeellbhaaaGreatDoorJLrA
import Derived.Test.YtddoemeellbhaaaGreatDoorJRefX
namespace Go.Proofs.YtddoemeellbhaaaGreatDoor
theorem rv_bit (V n i : Nat) : (rv V n).testBit i = (decide (i < n) && V.testBit (n - 1 - i)) := by
  induction n generalizing i with
  | zero => simp [rv]
  | succ n ih =>
    rw [rv]
    cases i with
    | zero =>
      rw [Nat.testBit_zero]
      have h1 : (2 * rv V n + V / 2 ^ n % 2) % 2 = V / 2 ^ n % 2 := by omega
      rw [h1, show n + 1 - 1 - 0 = n by omega, Nat.testBit_eq_decide_div_mod_eq]
      simp
    | succ i =>
      rw [Nat.testBit_succ]
      have h1 : (2 * rv V n + V / 2 ^ n % 2) / 2 = rv V n := by omega
      rw [h1, ih, show n + 1 - 1 - (i + 1) = n - 1 - i by omega]
      simp
/-- The turned number of a code. -/
def turned (c n : Nat) : Nat := rev32 c / 2 ^ (32 - n)
theorem rv_turned (c n : Nat) (hn : n ≤ 32) (hc : c < 2 ^ n) : rv (turned c n) n = c := by
  apply Nat.eq_of_testBit_eq
  intro i
  rw [rv_bit]
  by_cases hi : i < n
  · unfold turned
    rw [Nat.testBit_div_two_pow, rev32_bit c _ (by omega), show 31 - (n - 1 - i + (32 - n)) = i by omega]
    simp [hi]
  · rw [Nat.testBit_lt_two_pow (Nat.lt_of_lt_of_le hc (Nat.pow_le_pow_right (by decide) (by omega)))]
    simp [hi]
theorem code32 (ln : Nat → Nat) (L s : Nat) (h15 : ∀ i, ln i ≤ 15) (hk : kr ln L 15 ≤ 32768) (hs : s < L) : codeC ln L s < 2 ^ ln s ∧ codeC ln L s < 4294967296 := by
  have h1 := codeC_lt ln L s hs (h15 s) hk
  have h2 : 2 ^ ln s ≤ 2 ^ 15 := Nat.pow_le_pow_right (by decide) (h15 s)
  exact ⟨h1, by simp at h2; omega⟩
/-- a text's first T bits are those of N -/
def Pre (X : List UInt8) (T N : Nat) : Prop := le X % 2 ^ T = N ∧ T ≤ total X
theorem Pre.back {X : List UInt8} {T n N x : Nat} (h : Pre X (T + n) (N + 2 ^ T * x)) (hN : N < 2 ^ T) : Pre X T N ∧ bitsN X T n = x := by
  obtain ⟨h1, h2⟩ := h
  rw [Nat.pow_add, Nat.mod_mul] at h1
  have hm := Nat.mod_lt (le X) (Nat.pow_pos (n := T) (show 0 < 2 by decide))
  have e1 : (le X % 2 ^ T + 2 ^ T * (le X / 2 ^ T % 2 ^ n)) % 2 ^ T = le X % 2 ^ T := by rw [Nat.add_mul_mod_self_left, Nat.mod_mod]
  have e2 : (N + 2 ^ T * x) % 2 ^ T = N := by rw [Nat.add_mul_mod_self_left, Nat.mod_eq_of_lt hN]
  have e3 : le X % 2 ^ T = N := by rw [← e1, h1, e2]
  have e4 : 2 ^ T * (le X / 2 ^ T % 2 ^ n) = 2 ^ T * x := by rw [e3] at h1; omega
  exact ⟨⟨e3, by omega⟩, Nat.eq_of_mul_eq_mul_left (Nat.pow_pos (by decide)) e4⟩
/-- a code that was written is read -/
theorem Pre.code {c : Cd} (hc : c.Ok) {X : List UInt8} {T N s : Nat} (hs : s < c.L) (h0 : 0 < c.ln s) (h : Pre X (T + c.ln s) (N + 2 ^ T * turned (codeC c.ln c.L s) (c.ln s))) (hN : N < 2 ^ T) : Pre X T N ∧ SymR c X T (.inr (s, T + c.ln s)) := by
  have h15 := hc.short s
  have h32 := code32 c.ln c.L s hc.short hc.fits hs
  obtain ⟨h1, h2⟩ := h.back hN
  refine ⟨h1, .hit s ⟨hs, h0, h.2, ?_⟩⟩
  rw [rv_bits, h2, rv_turned _ _ (by omega) h32.1]
theorem Pre.num {X : List UInt8} {T n N x : Nat} (h : Pre X (T + n) (N + 2 ^ T * x)) (hN : N < 2 ^ T) : Pre X T N ∧ num X T n = some x := by
  obtain ⟨h1, h2⟩ := h.back hN
  refine ⟨h1, ?_⟩
  unfold Go.Proofs.YtddoemeellbhaaaGreatDoor.num
  rw [if_pos h.2, h2]
end Go.Proofs.YtddoemeellbhaaaGreatDoor
namespace Go.Proofs.YtddoemeellbhaaaGreatDoor
open Go.RowKit Go.Maps
theorem laidOutF : laidOutB Tryz.prog = true := by kernel_rfl
theorem row125 : 260 < Tryz.prog.types.size := of_decide_eq_true (by kernel_rfl)
theorem key125 : Keyed Tryz.prog 260 := Keyed.of_law (deep_law_laid laidOutF (m := 2) (by decide) row125 (by kernel_rfl) (by kernel_rfl))
theorem kt125 : Tryz.prog.keyType 260 = true := by kernel_rfl
theorem cells125 : Tryz.prog.cellsOf 260 = 3 := by kernel_rfl
theorem cells5 : Tryz.prog.cellsOf 5 = 1 := by kernel_rfl
theorem wf_u8 (a : UInt8) : (Lit.int .u8 (a.toNat : Int)).wf = true := by
  have := a.toNat_lt
  show (decide (IntKind.u8.min ≤ (a.toNat : Int)) && decide ((a.toNat : Int) ≤ IntKind.u8.max)) = true
  have h3 : IntKind.u8.min = 0 := by decide
  have h4 : IntKind.u8.max = 255 := by decide
  rw [h3, h4, Bool.and_eq_true, decide_eq_true_eq, decide_eq_true_eq]
  omega
/-- three bytes as a map's key -/
def kV (a b c : UInt8) : Value := .agg #[.int .u8 (a.toNat : Int), .int .u8 (b.toNat : Int), .int .u8 (c.toNat : Int)]
theorem key3 (a b c : UInt8) : ∃ kl : List UInt8, keyOf Tryz.prog 260 (kV a b c) = some (.string kl) := by
  obtain ⟨N, hN⟩ : ∃ N, Tryz.prog.types.size + 1 = N + 2 := ⟨Tryz.prog.types.size - 1, by have := row125; omega⟩
  have hf : Value.formed Tryz.prog 260 (kV a b c) = true := by
    unfold kV Value.formed
    rw [Tryz.underlying260, cells125]
    rfl
  unfold keyOf
  rw [Tryz.underlying260]
  simp only [kt125, hf, Bool.true_and, if_true]
  rw [hN]
  unfold Program.keyLits kV
  rw [Tryz.underlying260]
  simp [Value.cells, cells125, cells5, Program.keyLits, Tryz.underlying5, wf_u8, List.range, List.range.loop]
/-- each number that is there is a place of the text below A, with three bytes behind it -/
def GoodFI (A L : Nat) (D : DataW Unit) : Prop :=
  ∀ (k : List UInt8) (c : Int), Maps.has D (.string k) = true → D.atKey (.string k) (.lit (.int .i64 0)) = .lit (.int .i64 c) → ∃ p : Nat, c = (p : Int) ∧ p < A ∧ p + 3 ≤ L
theorem GoodFI.more {A A' L : Nat} {D : DataW Unit} (h : GoodFI A L D) (hA : A ≤ A') : GoodFI A' L D := fun k c h1 h2 => by
  obtain ⟨p, q1, q2, q3⟩ := h k c h1 h2
  exact ⟨p, q1, by omega, q3⟩
theorem goodF_put {A L : Nat} {D : DataW Unit} (h : GoodFI A L D) (hD : IsMap D) (kl : List UInt8) (p : Nat) (hp : p < A) (hp3 : p + 3 ≤ L) : GoodFI A L (D.put (.string kl) (.lit (.int .i64 (p : Int)))) := by
  intro k c hh ha
  by_cases hk : k = kl
  · subst hk
    rw [atKey_put_same hD (show WideAt.IsKeyLit (.string _) from trivial)] at ha
    simp only [DataW.lit.injEq, Lit.int.injEq, true_and] at ha
    exact ⟨p, ha.symm, hp, hp3⟩
  · have hne : (Lit.string k) ≠ .string kl := fun e => hk (by simpa using e)
    rw [has_put_other hne] at hh
    rw [atKey_put_other hne] at ha
    exact h k c hh ha
/-- the finder's map -/
def FMap (w : World) (b A L n : Nat) : Prop := ∃ D : DataW Unit, w.ownsMap Tryz.prog 260 (plainElem Tryz.prog 3) b n D ∧ GoodFI A L D
theorem FMap.same {w w' : World} {b A L n : Nat} (h : FMap w b A L n) (hb : w'.heap[b]? = w.heap[b]?) : FMap w' b A L n := by
  obtain ⟨D, ⟨es, clock, h1, h2⟩, h3⟩ := h
  exact ⟨D, ⟨es, clock, hb.trans h1, h2⟩, h3⟩
theorem FMap.lt {w : World} {b A L n : Nat} (h : FMap w b A L n) : b < w.heap.size := by
  obtain ⟨D, h1, _⟩ := h
  exact h1.lt
theorem zero3 (w : World) : (zeroValue 3).run Tryz.prog w = .ok (.int .i64 0) w := Tryz.zeroValue3 w
theorem FMap.look {w : World} {b A L n : Nat} (h : FMap w b A L n) (x y z : UInt8) :
    ∃ (v : Int) (f : Bool), (∀ k, (Instr.lookup 256 (.map (some b)) (kV x y z) true).run Tryz.prog (w.drewN k) = .ok (.tuple #[.int .i64 v, .bool f]) (w.drewN k)) ∧ (f = true → ∃ p : Nat, v = (p : Int) ∧ p < A ∧ p + 3 ≤ L) := by
  obtain ⟨D, hD, hG⟩ := h
  obtain ⟨kl, hk⟩ := key3 x y z
  have key : ∀ k, ∃ v : Int, (Instr.lookup 256 (.map (some b)) (kV x y z) true).run Tryz.prog (w.drewN k) = .ok (.tuple #[.int .i64 v, .bool (has D (.string kl))]) (w.drewN k) ∧ D.atKey (.string kl) (.lit (.int .i64 0)) = .lit (.int .i64 v) := fun k => by
    have hDk : (w.drewN k).ownsMap Tryz.prog 260 (plainElem Tryz.prog 3) b n D := hD
    obtain ⟨v, ps, h1, h2⟩ := hDk.look_ok key125 Tryz.underlying256 (zero3 _) (plainElem_int Tryz.underlying3 (WalkArith.wf_i64 ⟨by decide, by decide⟩)) hk
    obtain ⟨a, rfl, h3, _⟩ := plainElem_int_inv Tryz.underlying3 h2
    simp only [Prod.mk.injEq] at h3
    exact ⟨a, h1, h3.1⟩
  obtain ⟨v, h1, h2⟩ := key 0
  refine ⟨v, has D (.string kl), fun k => ?_, fun hf => hG kl v hf h2⟩
  obtain ⟨v', h3, h4⟩ := key k
  rw [h2] at h4
  simp only [DataW.lit.injEq, Lit.int.injEq, true_and] at h4
  rw [h4]
  exact h3
theorem FMap.put {w : World} {b A L n : Nat} (h : FMap w b A L n) (hn : n < maxLen) (x y z : UInt8) (p : Nat) (hp : p < A) (hp3 : p + 3 ≤ L) (hL : L ≤ 1000000) (k : Nat) :
    ∃ w', (Instr.mapUpdate 256 (.map (some b)) (kV x y z) (.int .i64 (p : Int))).run Tryz.prog (w.drewN k) = .ok () w' ∧ FMap w' b A L (n + 1) ∧ Only b w w' := by
  obtain ⟨D, hD, hG⟩ := h
  obtain ⟨kl, hk⟩ := key3 x y z
  have hDk : (w.drewN k).ownsMap Tryz.prog 260 (plainElem Tryz.prog 3) b n D := hD
  have hwf : (Lit.int .i64 (p : Int)).wf = true := WalkArith.wf_i64 ⟨by omega, by omega⟩
  obtain ⟨w', h1, h2, h3⟩ := hDk.store key125 Tryz.underlying256 hn hk (plainElem_int (H := Unit) Tryz.underlying3 hwf)
  refine ⟨w', h1, ⟨_, h2, goodF_put hG hD.isMap kl p hp hp3⟩, ?_⟩
  obtain ⟨es, clock, es', clock', h4, rfl⟩ := h3
  have hlt : b < w.heap.size := hD.lt
  refine ⟨rfl, rfl, rfl, ?_, fun j hj => ?_⟩
  · simp [ChangeMaps.setBlock]
  · show (ChangeMaps.setBlock (w.drewN k) b (.map es' clock')).heap[j]? = w.heap[j]?
    unfold ChangeMaps.setBlock
    simp [Ne.symm hj]
end Go.Proofs.YtddoemeellbhaaaGreatDoor
namespace Go.Proofs.YtddoemeellbhaaaGreatDoor
open Go.RowKit Go.Maps
/-- the finder's box -/
def FBox (w : World) (fb : Nat) (s : ByteArray) (mb eb : Nat) : Prop := w.heap[fb]? = some (.cells #[.string s, .map (some mb), .slice (some ⟨eb, 0, none⟩) s.size s.size] 258 (0, 0))
section
variable {w w' : World} {fb mb eb : Nat} {s : ByteArray}
theorem FBox.c0 (h : FBox w fb s mb eb) : w.cell? ⟨fb, 0, none⟩ = some (.string s) := by rw [cell_of_row w fb _ _ 258 (0, 0) h]; rfl
theorem FBox.c1 (h : FBox w fb s mb eb) : w.cell? ⟨fb, 1, none⟩ = some (.map (some mb)) := by rw [cell_of_row w fb _ _ 258 (0, 0) h]; rfl
theorem FBox.c2 (h : FBox w fb s mb eb) : w.cell? ⟨fb, 2, none⟩ = some (.slice (some ⟨eb, 0, none⟩) s.size s.size) := by rw [cell_of_row w fb _ _ 258 (0, 0) h]; rfl
theorem FBox.lt (h : FBox w fb s mb eb) : fb < w.heap.size := (Array.getElem?_eq_some_iff.1 h).1
theorem FBox.same (h : FBox w fb s mb eb) (hh : w'.heap[fb]? = w.heap[fb]?) : FBox w' fb s mb eb := hh.trans h
end
end Go.Proofs.YtddoemeellbhaaaGreatDoor
namespace Go.Proofs.YtddoemeellbhaaaGreatDoor
open Go.RowKit Go.Maps
/-- what stands at places that were added: nowhere, or a place before -/
def GoodE (E : Nat → Int) (A L : Nat) : Prop := ∀ i, i < A → i + 3 ≤ L → E i = -1 ∨ ∃ q : Nat, E i = (q : Int) ∧ q < i
/-- the finder, with the places below A added -/
structure Fnd (w : World) (fb : Nat) (s : ByteArray) (mb eb A : Nat) : Prop where
  box : FBox w fb s mb eb
  map : ∃ n, n ≤ A ∧ FMap w mb A s.size n
  row : ∃ E, ABox w eb 3 s.size (fun i => .int .i64 (E i)) ∧ GoodE E A s.size
  ne1 : fb ≠ mb
  ne2 : fb ≠ eb
  ne3 : mb ≠ eb
/-- of all that was there two blocks alone may have turned -/
structure ButF (mb eb : Nat) (w w' : World) : Prop where
  os : w'.os = w.os
  tape : w'.tape = w.tape
  output : w'.output = w.output
  size : w.heap.size ≤ w'.heap.size
  block : ∀ k, k < w.heap.size → k ≠ mb → k ≠ eb → w'.heap[k]? = w.heap[k]?
theorem ButF.refl (mb eb : Nat) (w : World) : ButF mb eb w w := ⟨rfl, rfl, rfl, Nat.le_refl _, fun _ _ _ _ => rfl⟩
theorem ButF.trans {mb eb : Nat} {w w' w'' : World} (h : ButF mb eb w w') (k : ButF mb eb w' w'') : ButF mb eb w w'' :=
  ⟨k.os.trans h.os, k.tape.trans h.tape, k.output.trans h.output, Nat.le_trans h.size k.size, fun i h1 h2 h3 => (k.block i (Nat.lt_of_lt_of_le h1 h.size) h2 h3).trans (h.block i h1 h2 h3)⟩
theorem ButF.set {mb eb o : Nat} {w : World} (u : Value) : ButF mb eb w (w.setCell ⟨eb, o, none⟩ u) := ⟨rfl, rfl, rfl, by simp, fun k _ _ h3 => Below.heap_setCell w ⟨eb, o, none⟩ u k h3⟩
theorem Fnd.later {w w' : World} {fb mb eb A : Nat} {s : ByteArray} (h : Fnd w fb s mb eb A) (hb : Below w.heap.size w w') : Fnd w' fb s mb eb A := by
  obtain ⟨n, hn, hm⟩ := h.map
  obtain ⟨E, he, hg⟩ := h.row
  exact ⟨h.box.same (hb.block _ h.box.lt), ⟨n, hn, hm.same (hb.block _ hm.lt)⟩, ⟨E, he.same (hb.block _ he.lt), hg⟩, h.ne1, h.ne2, h.ne3⟩
/-- what newestOf's region leaves to be read -/
def AddS (w : World) (fb g eb A : Nat) (s : ByteArray) (x y z : UInt8) (e0 : Int) (w' : World) : Prop :=
  w'.cell? ⟨fb, 2, none⟩ = some (.slice (some ⟨eb, 0, none⟩) s.size s.size) ∧ w'.cell? ⟨g, 0, none⟩ = some (.int .u8 (x.toNat : Int)) ∧ w'.cell? ⟨g, 1, none⟩ = some (.int .u8 (y.toNat : Int)) ∧ w'.cell? ⟨g, 2, none⟩ = some (.int .u8 (z.toNat : Int)) ∧
    w'.cell? ⟨eb, A, none⟩ = some (.int .i64 e0) ∧ w'.frozen? ⟨eb, A, none⟩ = false ∧ Hid (Below w.heap.size w w')
theorem AddS.drew {w V : World} {fb g eb A : Nat} {s : ByteArray} {x y z : UInt8} {e0 : Int} (h : AddS w fb g eb A s x y z e0 V) : AddS w fb g eb A s x y z e0 V.drew := ⟨h.1, h.2.1, h.2.2.1, h.2.2.2.1, h.2.2.2.2.1, h.2.2.2.2.2.1, (Below.drew h.2.2.2.2.2.2.out)⟩
theorem AddS.e {w V : World} {fb g eb A : Nat} {s : ByteArray} {x y z : UInt8} {e0 : Int} (h : AddS w fb g eb A s x y z e0 V) : V.cell? ⟨eb, A, none⟩ = some (.int .i64 e0) := h.2.2.2.2.1
theorem AddS.f {w V : World} {fb g eb A : Nat} {s : ByteArray} {x y z : UInt8} {e0 : Int} (h : AddS w fb g eb A s x y z e0 V) : V.frozen? ⟨eb, A, none⟩ = false := h.2.2.2.2.2.1
theorem AddS.below {w w' : World} {fb g eb A : Nat} {s : ByteArray} {x y z : UInt8} {e0 : Int} (h : AddS w fb g eb A s x y z e0 w) (hfb : fb < w.heap.size) (hg : g < w.heap.size) (heb : eb < w.heap.size) (hb : Below w.heap.size w w') : AddS w fb g eb A s x y z e0 w' :=
  ⟨(hb.cell (p := ⟨fb, 2, none⟩) hfb).trans h.1, (hb.cell (p := ⟨g, 0, none⟩) hg).trans h.2.1, (hb.cell (p := ⟨g, 1, none⟩) hg).trans h.2.2.1, (hb.cell (p := ⟨g, 2, none⟩) hg).trans h.2.2.2.1, (hb.cell (p := ⟨eb, A, none⟩) heb).trans h.2.2.2.2.1, (hb.frozen (p := ⟨eb, A, none⟩) heb).trans h.2.2.2.2.2.1, hb⟩
end Go.Proofs.YtddoemeellbhaaaGreatDoor
namespace Go.Proofs.YtddoemeellbhaaaGreatDoor
open Go.RowKit Go.Maps
/-- k bytes at p are those at A -/
def AlikeN (s : ByteArray) (p A k : Nat) : Prop := k ≤ 258 ∧ A + k ≤ s.size ∧ ∀ j, j < k → s.data.toList.getD (p + j) 0 = s.data.toList.getD (A + j) 0
theorem AlikeN.zero (s : ByteArray) (p A : Nat) (h : A ≤ s.size) : AlikeN s p A 0 := ⟨by decide, h, fun j hj => by omega⟩
end Go.Proofs.YtddoemeellbhaaaGreatDoor
namespace Go.Proofs.YtddoemeellbhaaaGreatDoor
open Go.RowKit Go.Maps
end Go.Proofs.YtddoemeellbhaaaGreatDoor
namespace Go.Proofs.YtddoemeellbhaaaGreatDoor
open Go.RowKit Go.Maps
end Go.Proofs.YtddoemeellbhaaaGreatDoor
namespace Go.Proofs.YtddoemeellbhaaaGreatDoor
open Go.RowKit
/-- the writer at b has worked: of all others no row of bytes alone has turned -/
structure WKept (b : Nat) (w w' : World) : Prop where
  below : Below b w w'
  keep : ∀ k, k < w.heap.size → k ≠ b → (∀ cur fr, w.heap[k]? ≠ some (.cells cur 5 fr)) → w'.heap[k]? = w.heap[k]?
theorem WKept.refl (b : Nat) (w : World) : WKept b w w := ⟨Below.refl _ _, fun _ _ _ _ => rfl⟩
theorem WKept.trans {b : Nat} {w w' w'' : World} (h : WKept b w w') (k : WKept b w' w'') : WKept b w w'' :=
  ⟨h.below.trans k.below, fun i h1 h2 h3 => by
    have a := h.keep i h1 h2 h3
    exact (k.keep i (Nat.lt_of_lt_of_le h1 h.below.size) h2 (fun cur fr => by rw [a]; exact h3 cur fr)).trans a⟩
end Go.Proofs.YtddoemeellbhaaaGreatDoor
namespace Go.Proofs.YtddoemeellbhaaaGreatDoor
open Go.RowKit
end Go.Proofs.YtddoemeellbhaaaGreatDoor
namespace Go.Proofs.YtddoemeellbhaaaGreatDoor
open Go.RowKit Go.Maps
/-- a fixed block that is being written: the writer at b, the sets' pointers at sb, the finder -/
structure FixSt (w0 w : World) (s : ByteArray) (b sb t1 t2 E fb mb eb A N T : Nat) : Prop where
  wat : WAt w b N T
  two : Two w sb (.pointer (some ⟨t1, 0, none⟩)) (.pointer (some ⟨t2, 0, none⟩))
  lit : TabS w t1 fixLit.ln fixLit.L (b + 1) E
  dis : TabS w t2 fixDist.ln fixDist.L (b + 1) E
  fnd : Fnd w fb s mb eb A
  bE : b < E
  Es : E ≤ sb
  sf : sb < fb
  sm : sb < mb
  se : sb < eb
  below : Below b w0 w
section
variable {w0 w w' : World} {s : ByteArray} {b sb t1 t2 E fb mb eb A N T : Nat}
theorem FixSt.slt (h : FixSt w0 w s b sb t1 t2 E fb mb eb A N T) : sb < w.heap.size := (Array.getElem?_eq_some_iff.1 h.two).1
theorem FixSt.later (h : FixSt w0 w s b sb t1 t2 E fb mb eb A N T) (hb : Below w.heap.size w w') : FixSt w0 w' s b sb t1 t2 E fb mb eb A N T := by
  have hs := h.slt
  have hE := h.Es
  have hbE := h.bE
  exact ⟨h.wat.below hb, (hb.block sb hs).trans h.two, h.lit.same (fun k _ hk => hb.block k (by omega)), h.dis.same (fun k _ hk => hb.block k (by omega)), h.fnd.later hb, h.bE, h.Es, h.sf, h.sm, h.se, h.below.trans (hb.mono (by omega))⟩
theorem FixSt.added (h : FixSt w0 w s b sb t1 t2 E fb mb eb A N T) {A' : Nat} (hf : Fnd w' fb s mb eb A') (hb : ButF mb eb w w') : FixSt w0 w' s b sb t1 t2 E fb mb eb A' N T := by
  have hs := h.slt
  have hE := h.Es
  have hbE := h.bE
  have q1 := h.sf
  have q2 := h.sm
  have q3 := h.se
  obtain ⟨n, hn, D, ⟨es, clock, h1, h2⟩, hG⟩ := h.fnd.map
  obtain ⟨Er, he, hg⟩ := h.fnd.row
  refine ⟨?_, (hb.block sb hs (by omega) (by omega)).trans h.two, h.lit.same (fun k _ hk => hb.block k (by omega) (by omega) (by omega)), h.dis.same (fun k _ hk => hb.block k (by omega) (by omega) (by omega)), hf, h.bE, h.Es, h.sf, h.sm, h.se, ?_⟩
  · obtain ⟨v, F, q, hh, hw, k1, k2, k3, k4⟩ := h.wat
    refine ⟨v, F, q, hh, ⟨(hb.block b (by omega) (by omega) (by omega)).trans hw.box, ?_⟩, k1, k2, k3, k4⟩
    refine hw.own.same fun g hg2 => ?_
    have hgl := (hw.own.ge hg2).2
    rcases hw.own.2 with ⟨h0, _⟩ | ⟨g', cap, cur, hv, _, hc, _⟩
    · rw [h0] at hg2; simp [Value.ownBlock] at hg2
    · rw [hv] at hg2
      simp only [Value.ownBlock, Option.some.injEq] at hg2
      subst hg2
      refine hb.block g' hgl (fun e => ?_) (fun e => ?_)
      · rw [e, h1] at hc; cases hc
      · unfold ABox at he; rw [e, he] at hc; simp at hc
  · refine ⟨hb.os.trans h.below.os, hb.tape.trans h.below.tape, hb.output.trans h.below.output, Nat.le_trans h.below.size hb.size, fun k hk => ?_⟩
    exact (hb.block k (by omega) (by omega) (by omega)).trans (h.below.block k hk)
end
end Go.Proofs.YtddoemeellbhaaaGreatDoor
namespace Go.Proofs.YtddoemeellbhaaaGreatDoor
open Go.RowKit Go.Maps
/-- what the region of a literal leaves -/
def LitS (w : World) (sb t1 : Nat) (w' : World) : Prop := w'.cell? ⟨sb, 0, none⟩ = some (.pointer (some ⟨t1, 0, none⟩)) ∧ Hid (Below w.heap.size w w')
theorem LitS.c {w w' : World} {sb t1 : Nat} (h : LitS w sb t1 w') : w'.cell? ⟨sb, 0, none⟩ = some (.pointer (some ⟨t1, 0, none⟩)) := h.1
theorem LitS.h {w w' : World} {sb t1 : Nat} (h : LitS w sb t1 w') : Hid (Below w.heap.size w w') := h.2
end Go.Proofs.YtddoemeellbhaaaGreatDoor
namespace Go.Proofs.YtddoemeellbhaaaGreatDoor
open Go.RowKit
end Go.Proofs.YtddoemeellbhaaaGreatDoor
namespace Go.Proofs.YtddoemeellbhaaaGreatDoor
open Go.RowKit
end Go.Proofs.YtddoemeellbhaaaGreatDoor
namespace Go.Proofs.YtddoemeellbhaaaGreatDoor
open Go.RowKit
theorem InfQ.tight {l : List UInt8} {M q t : Nat} {o : List UInt8} {r : List UInt8 × Nat × Nat} (h : InfQ l 0 (q : Int) r) (hr : Run l M (.blk false) 0 [] (.good t o)) (hq : q < o.length) (hM : q ≤ M) (hM2 : M ≤ 65536) : r = ([], 0, 2) := by
  rcases h with ⟨h, _⟩ | ⟨A, Q, hA, hQ, _,_, h⟩
  · omega
  · obtain rfl : A = 0 := by omega
    obtain rfl : q = Q := by omega
    rw [List.drop_zero] at h
    rcases h with ⟨n, hn, hrun, rfl⟩ | ⟨t', o', hrun, _, ho, _⟩
    · by_cases h2 : n = 2
      · rw [h2]
      · cases (limit_run hM hrun (fun e => h2 (by cases e; rfl))).det trivial _ hr
    · cases (limit_run hM hrun (fun e => by cases e)).det trivial _ hr
      omega
end Go.Proofs.YtddoemeellbhaaaGreatDoor
namespace Go.Proofs.YtddoemeellbhaaaGreatDoor
open Go.RowKit
end Go.Proofs.YtddoemeellbhaaaGreatDoor
namespace Go.Proofs.YtddoemeellbhaaaGreatDoor
open Go.RowKit
end Go.Proofs.YtddoemeellbhaaaGreatDoor
namespace Go.Proofs.YtddoemeellbhaaaGreatDoor
open Go.RowKit Go.Sort
/-- a row of files with so much room -/
def Room (V : World) (g cap : Nat) : Prop := ∃ cur, V.heap[g]? = some (.cells cur 48 (0, 0)) ∧ cur.size = cap * 2 ∧ cap ≤ maxLen
theorem Room.set {V : World} {g cap : Nat} (h : Room V g cap) (i : Nat) (v : Value) : Room (V.setCell ⟨g, i, none⟩ v) g cap := by
  obtain ⟨cur, h1, h2, h3⟩ := h
  exact ⟨_, heap_setCell_same V g i cur 48 v h1, by simpa using h2, h3⟩
end Go.Proofs.YtddoemeellbhaaaGreatDoor
namespace Go.Proofs.YtddoemeellbhaaaGreatDoor
open Go.RowKit
set_option maxHeartbeats 1000000 in
set_option maxRecDepth 100000 in
theorem rpath_any (id : ByteArray) (w : World) (hs : id.size = 40) :
    Calls Tryz.prog 16 #[.string id] w fun e w' => e = .returned (.string (pathB id)) ∧ Below w.heap.size w w' := by
  have c1 : (2 : Int) ≤ (id.size : Int) := by omega
  have HP : Hid (pathB id = ⟨#[111, 98, 106, 101, 99, 116, 115, 47]⟩ ++ id.extract 0 2 ++ ⟨#[47]⟩ ++ id.extract 2 id.size) := rfl
  have z1 : (id.extract 0 2).size = 2 := by rw [ByteArray.size_extract]; omega
  have z2 : (id.extract 2 id.size).size = 38 := by rw [ByteArray.size_extract]; omega
  have n1 : ¬ 9223372036854775807 < 8 + (id.extract 0 2).size := by omega
  have n2 : ¬ 9223372036854775807 < 8 + (id.extract 0 2).size + 1 := by omega
  have n3 : ¬ 9223372036854775807 < 8 + (id.extract 0 2).size + 1 + (id.extract 2 id.size).size := by omega
  go_enter Tryz.func16, Tryz.ntmps16
  go_upto_region 1 with fail
  go_quiet (fail)
  go_wp2
  go_ret
  exact ⟨by rw [HP.out, hs]; rfl, below_drewN (Below.refl _ _) _⟩
end Go.Proofs.YtddoemeellbhaaaGreatDoor
namespace Go.Proofs.YtddoemeellbhaaaGreatDoor
open Go.RowKit
theorem ext_mid (s : ByteArray) (a b c : List UInt8) (h : s.data.toList = a ++ b ++ c) : s.extract a.length (a.length + b.length) = ⟨b.toArray⟩ := by
  apply ba_of
  rw [ByteArray.data_extract, Array.toList_extract, List.extract_eq_take_drop, h, List.append_assoc, List.drop_left]
  rw [show a.length + b.length - a.length = b.length by omega, List.take_left]
theorem box3 (V : World) (g : Nat) (x0 x1 v0 v1 : Value) (h : V.heap[g]? = some (.cells #[x0, x1] 32 (0, 0))) : ((V.setCell ⟨g, 0, none⟩ v0).setCell ⟨g, 1, none⟩ v1).heap[g]? = some (.cells #[v0, v1] 32 (0, 0)) := by
  simp only [World.setCell, Array.getElem?_modify, if_pos, h]
  rfl
theorem frozen_no (V : World) (g : Nat) (cs : Array Value) (t : TypeId) (h : V.heap[g]? = some (.cells cs t (0, 0))) (j : Nat) : V.frozen? ⟨g, j, none⟩ = false := by
  unfold World.frozen?
  rw [h]
  simp
set_option maxHeartbeats 6400000 in
theorem rdecode_any (s : ByteArray) (w : World) (hs : s.size ≤ 9223372036854775807) :
    Calls Tryz.prog 44 #[.string s] w fun e w' => e = .returned (.tuple #[.agg #[.int .i64 ((decR s.data.toList).1 : Nat), .string ⟨(decR s.data.toList).2.1.toArray⟩], .int .i64 ((decR s.data.toList).2.2 : Nat)]) ∧ Below w.heap.size w w' := by
  have hl : s.data.toList.length = s.size := by simp
  have HLD : Hid (∀ v0 v1, (loadVar 32 ⟨w.heap.size, 0, none⟩).run Tryz.prog (w.alloc (.cells #[v0, v1] 32)) = .ok (.agg #[v0, v1]) _) :=
    fun v0 v1 => run_loadVar_row _ w.heap.size 32 32 #[v0, v1] (0, 0) _ (heap_alloc_new w _) Tryz.underlying32 rfl size52
  have HBA : Hid (∀ v0 v1, Below w.heap.size w (w.alloc (.cells #[v0, v1] 32))) := fun v0 v1 => (Below.refl _ _).alloc (Nat.le_refl _) _
  have HF1 : Hid (∀ V, Calls Tryz.prog 86 #[.string s, .int .u8 0] V fun e w' => e = .returned (.int .i64 (Lib.indexByte s.data.toList 0)) ∧ w' = V) := fun V => find_any s 0 V hs
  cases h0 : splitC 0 s.data.toList with
  | none =>
    have HQ : Hid (decR s.data.toList = (0, [], 3)) := by unfold Hid decR cutR; rw [h0]; unfold decQ; rfl
    rw [(split_none h0).1] at HF1
    clear h0 hl
    go_enter Tryz.func44, Tryz.ntmps44
    go_wp2_with fail
    refine (HF1.out _).mono ?_
    rintro _ w2 ⟨rfl, rfl⟩
    go_wp2_with fail
    refine bodyPost_ret (results_box rfl _ _ w.heap.size _ rfl (HLD.out _ _)) rfl ?_
    exact ⟨by rw [HQ.out]; rfl, HBA.out _ _⟩
  | some x =>
    obtain ⟨p, q⟩ := x
    obtain ⟨h1, h2, _⟩ := split_some h0
    rw [h1] at HF1
    have hp : p.length + 1 + q.length = s.size := by rw [← hl, h2]; simp; omega
    have HP : Hid (s.extract 0 p.length = ⟨p.toArray⟩) := ba_of (by rw [ext_head, h2, List.take_left])
    have HF2 : Hid (∀ V, Calls Tryz.prog 86 #[.string ⟨p.toArray⟩, .int .u8 32] V fun e w' => e = .returned (.int .i64 (Lib.indexByte p 32)) ∧ w' = V) := fun V => find_any ⟨p.toArray⟩ 32 V (by show p.toArray.size ≤ _; simp; omega)
    cases h3 : splitC 32 p with
    | none =>
      have HQ : Hid (decR s.data.toList = (0, [], 3)) := by unfold Hid decR cutR; rw [h0]; simp only; rw [h3]; unfold decQ; rfl
      rw [(split_none h3).1] at HF2
      have hext := HP.out
      generalize p.length = n at *
      have c1 : (0 : Int) ≤ (n : Int) := by omega
      have c2 : (n : Int) ≤ (s.size : Int) := by omega
      clear h0 h1 h2 h3 hl
      go_enter Tryz.func44, Tryz.ntmps44
      go_wp2_with fail
      refine (HF1.out _).mono ?_
      rintro _ w2 ⟨rfl, rfl⟩
      go_wp2_with fail
      refine (HF2.out _).mono ?_
      rintro _ w2 ⟨rfl, rfl⟩
      go_wp2_with fail
      refine bodyPost_ret (results_box rfl _ _ w.heap.size _ rfl (HLD.out _ _)) rfl ?_
      exact ⟨by rw [HQ.out]; rfl, HBA.out _ _⟩
    | some y =>
      obtain ⟨a, b⟩ := y
      obtain ⟨h4, h5, _⟩ := split_some h3
      rw [h4] at HF2
      have hab : a.length + 1 + b.length = p.length := by rw [h5]; simp; omega
      have hext := HP.out
      have hex2 : s.extract (a.length + 1) p.length = ⟨b.toArray⟩ := by
        have h := ext_mid s (a ++ [32]) b (0 :: q) (by rw [h2, h5]; simp)
        rw [← h]
        congr 1
        · simp
        · simp; try omega
      have hex3 : s.extract 0 a.length = ⟨a.toArray⟩ := ba_of (by rw [ext_head, h2, h5, List.append_assoc, List.take_left])
      have hex4 : s.extract (p.length + 1) s.size = ⟨q.toArray⟩ := ba_of (by rw [ext_tail, h2, List.drop_append, List.drop_of_length_le (by omega)]; simp)
      have HNR : Hid (∀ V, Calls Tryz.prog 87 #[.string ⟨b.toArray⟩] V fun e w' => e = .returned (.int .i64 (numR b)) ∧ w' = V) := fun V => rnumber_any ⟨b.toArray⟩ V
      have HKN : Hid (∀ V, Calls Tryz.prog 88 #[.string ⟨a.toArray⟩] V fun e w' => e = .returned (.int .i64 (kindL a : Nat)) ∧ Below V.heap.size V w') := fun V => rkind_any ⟨a.toArray⟩ V
      have HRR : Hid (decR s.data.toList = decQ true true (numT b) (kindL a) (numV b) q) := by unfold Hid decR cutR; rw [h0]; simp only; rw [h3]
      have hql : (⟨q.toArray⟩ : ByteArray).size = q.length := by show q.toArray.size = _; simp
      clear h0 h1 h2 h3 h4 h5 hl HP
      generalize hA : (⟨a.toArray⟩ : ByteArray) = A at *
      generalize hB : (⟨b.toArray⟩ : ByteArray) = B at *
      generalize hP : (⟨p.toArray⟩ : ByteArray) = P at *
      generalize hQ : (⟨q.toArray⟩ : ByteArray) = Q at *
      generalize a.length = i at *
      generalize p.length = n at *
      have c1 : (0 : Int) ≤ (n : Int) := by omega
      have c2 : (n : Int) ≤ (s.size : Int) := by omega
      have c3 : (0 : Int) ≤ (i : Int) := by omega
      have c4 : (i : Int) ≤ (s.size : Int) := by omega
      have c5 : (i : Int) + 1 ≤ (n : Int) := by omega
      have c6 : (0 : Int) ≤ (i : Int) + 1 := by omega
      have c7 : (n : Int) + 1 ≤ (s.size : Int) := by omega
      have c8 : (0 : Int) ≤ (n : Int) + 1 := by omega
      clear hA hB hP
      by_cases hk : NumOk b
      · rw [numT_yes hk, numV_yes hk] at HRR
        rw [numR_yes hk] at HNR
        have hv := num_le _ hk
        generalize valL b = v at *
        clear hk
        have g1 : decide ((v : Int) < 0) = false := by simp
        go_enter Tryz.func44, Tryz.ntmps44
        go_wp2_with fail
        refine (HF1.out _).mono ?_
        rintro _ w2 ⟨rfl, rfl⟩
        go_wp2_with fail
        refine (HF2.out _).mono ?_
        rintro _ w2 ⟨rfl, rfl⟩
        go_wp2_with fail
        refine (HNR.out _).mono ?_
        rintro _ w2 ⟨rfl, rfl⟩
        go_wp2_with fail
        refine (HNR.out _).mono ?_
        rintro _ w2 ⟨rfl, rfl⟩
        go_wp2_with fail
        have HZ : Hid (w.heap.size < (w.alloc (.cells #[.int .i64 0, .string ⟨#[]⟩] 32)).heap.size) := by unfold Hid; simp
        have HBW := hidMO (HBA.out (.int .i64 0) (.string ⟨#[]⟩))
        have HGW : Hid ((w.alloc (.cells #[.int .i64 0, .string ⟨#[]⟩] 32)).heap[w.heap.size]? = some (.cells #[.int .i64 0, .string ⟨#[]⟩] 32 (0, 0))) := heap_alloc_new w _
        generalize w.alloc (.cells #[.int .i64 0, .string ⟨#[]⟩] 32) = W at *
        refine (HKN.out _).mono ?_
        rintro _ w3 ⟨rfl, hb3⟩
        have hg3 : w3.heap[w.heap.size]? = some (.cells #[.int .i64 0, .string ⟨#[]⟩] 32 (0, 0)) := (hb3.block _ HZ.out).trans HGW.out
        have HG3 := hidMO hg3
        have hc0 : w3.cell? ⟨w.heap.size, 0, none⟩ = some (.int .i64 0) := by rw [cell_of_row w3 _ 0 _ 32 (0, 0) hg3]; rfl
        have hc1 : w3.cell? ⟨w.heap.size, 1, none⟩ = some (.string ⟨#[]⟩) := by rw [cell_of_row w3 _ 1 _ 32 (0, 0) hg3]; rfl
        have hf0 := frozen_no w3 _ _ _ hg3 0
        have hf1 := frozen_no w3 _ _ _ hg3 1
        have HBB := hidMO (two_le HBW.out hb3 (Nat.le_of_lt HZ.out))
        have HL3 : Hid (∀ v0 v1, (loadVar 32 ⟨w.heap.size, 0, none⟩).run Tryz.prog ((w3.setCell ⟨w.heap.size, 0, none⟩ v0).setCell ⟨w.heap.size, 1, none⟩ v1) = .ok (.agg #[v0, v1]) _) :=
          fun v0 v1 => run_loadVar_row _ w.heap.size 32 32 #[v0, v1] (0, 0) _ (box3 w3 _ _ _ v0 v1 hg3) Tryz.underlying32 rfl size52
        have HB3 : Hid (∀ v0 v1, Below w.heap.size w ((w3.setCell ⟨w.heap.size, 0, none⟩ v0).setCell ⟨w.heap.size, 1, none⟩ v1)) := fun v0 v1 => (HBB.out.setCell (p := ⟨w.heap.size, 0, none⟩) (Nat.le_refl _) _).setCell (p := ⟨w.heap.size, 1, none⟩) (Nat.le_refl _) _
        have HZ3 : Hid (w.heap.size < w3.heap.size) := Nat.lt_of_lt_of_le HZ.out hb3.size
        have HQ : Hid (decR s.data.toList = if kindL a = 0 then (0, [], 10) else if 65000 < v then (0, [], 2)
          else if q.length < v then (0, [], 6) else if v < q.length then (0, [], 3) else (kindL a, q, 0)) := by unfold Hid; rw [HRR.out]; unfold decQ; rw [if_neg (by decide)]
        clear HRR hb3 hg3 HF1 HF2 HNR HLD HBA HGW HBW HZ
        generalize kindL a = k at *
        by_cases h1 : k = 0
        · rw [if_pos h1] at HQ
          subst h1
          go_wp2_with fail
          refine bodyPost_ret (results_box rfl _ _ w.heap.size _ rfl (HL3.out _ _)) rfl ?_
          exact ⟨by rw [HQ.out]; rfl, HB3.out _ _⟩
        rw [if_neg h1] at HQ
        have e1 : ((k : Int) == 0) = false := beq_false_of_ne (by omega)
        by_cases h2 : 65000 < v
        · rw [if_pos h2] at HQ
          have g2 : decide ((65000 : Int) < (v : Int)) = true := by simp; omega
          go_wp2_with fail
          refine bodyPost_ret (results_box rfl _ _ w.heap.size _ rfl (HL3.out _ _)) rfl ?_
          exact ⟨by rw [HQ.out]; rfl, HB3.out _ _⟩
        rw [if_neg h2] at HQ
        have g2 : decide ((65000 : Int) < (v : Int)) = false := by simp; omega
        by_cases h3 : q.length < v
        · rw [if_pos h3] at HQ
          have g3 : decide ((Q.size : Int) < (v : Int)) = true := by simp; omega
          go_wp2_with fail
          refine bodyPost_ret (results_box rfl _ _ w.heap.size _ rfl (HL3.out _ _)) rfl ?_
          exact ⟨by rw [HQ.out]; rfl, HB3.out _ _⟩
        rw [if_neg h3] at HQ
        have g3 : decide ((Q.size : Int) < (v : Int)) = false := by simp; omega
        by_cases h4 : v < q.length
        · rw [if_pos h4] at HQ
          have g4 : decide ((v : Int) < (Q.size : Int)) = true := by simp; omega
          go_wp2_with fail
          refine bodyPost_ret (results_box rfl _ _ w.heap.size _ rfl (HL3.out _ _)) rfl ?_
          exact ⟨by rw [HQ.out]; rfl, HB3.out _ _⟩
        rw [if_neg h4] at HQ
        have g4 : decide ((v : Int) < (Q.size : Int)) = false := by simp; omega
        go_wp2_with fail
        refine (HKN.out _).mono ?_
        rintro _ w4 ⟨rfl, hb4⟩
        have hg4 : w4.heap[w.heap.size]? = some (.cells #[.int .i64 0, .string ⟨#[]⟩] 32 (0, 0)) := (hb4.block _ HZ3.out).trans HG3.out
        clear hc0 hc1 hf0 hf1 HL3 HB3
        have hc0 : w4.cell? ⟨w.heap.size, 0, none⟩ = some (.int .i64 0) := by rw [cell_of_row w4 _ 0 _ 32 (0, 0) hg4]; rfl
        have hc1 : w4.cell? ⟨w.heap.size, 1, none⟩ = some (.string ⟨#[]⟩) := by rw [cell_of_row w4 _ 1 _ 32 (0, 0) hg4]; rfl
        have hf0 := frozen_no w4 _ _ _ hg4 0
        have hf1 := frozen_no w4 _ _ _ hg4 1
        have HB4 := hidMO (two_le HBB.out hb4 (Nat.le_of_lt HZ3.out))
        have HL3 : Hid (∀ v0 v1, (loadVar 32 ⟨w.heap.size, 0, none⟩).run Tryz.prog ((w4.setCell ⟨w.heap.size, 0, none⟩ v0).setCell ⟨w.heap.size, 1, none⟩ v1) = .ok (.agg #[v0, v1]) _) :=
          fun v0 v1 => run_loadVar_row _ w.heap.size 32 32 #[v0, v1] (0, 0) _ (box3 w4 _ _ _ v0 v1 hg4) Tryz.underlying32 rfl size52
        have HB3 : Hid (∀ v0 v1, Below w.heap.size w ((w4.setCell ⟨w.heap.size, 0, none⟩ v0).setCell ⟨w.heap.size, 1, none⟩ v1)) := fun v0 v1 => (HB4.out.setCell (p := ⟨w.heap.size, 0, none⟩) (Nat.le_refl _) _).setCell (p := ⟨w.heap.size, 1, none⟩) (Nat.le_refl _) _
        clear hb4 hg4 HB4 HBB HG3 HZ3 HKN
        go_wp2_with fail
        refine bodyPost_ret (results_box rfl _ _ w.heap.size _ rfl (HL3.out _ _)) rfl ?_
        exact ⟨by rw [HQ.out, ← hQ]; rfl, HB3.out _ _⟩
      · rw [numT_no hk, numV_no hk] at HRR
        rw [numR_no hk] at HNR
        have HQ : Hid (decR s.data.toList = (0, [], 3)) := by unfold Hid; rw [HRR.out]; unfold decQ; rfl
        clear hk HRR
        go_enter Tryz.func44, Tryz.ntmps44
        go_wp2_with fail
        refine (HF1.out _).mono ?_
        rintro _ w2 ⟨rfl, rfl⟩
        go_wp2_with fail
        refine (HF2.out _).mono ?_
        rintro _ w2 ⟨rfl, rfl⟩
        go_wp2_with fail
        refine (HNR.out _).mono ?_
        rintro _ w2 ⟨rfl, rfl⟩
        go_wp2_with fail
        refine bodyPost_ret (results_box rfl _ _ w.heap.size _ rfl (HLD.out _ _)) rfl ?_
        exact ⟨by rw [HQ.out]; rfl, HBA.out _ _⟩
end Go.Proofs.YtddoemeellbhaaaGreatDoor
namespace Go.Proofs.YtddoemeellbhaaaGreatDoor
open Go.RowKit

theorem idB_hexed (l : List UInt8) : idB l = (decide (l.length = 40) && hexed l) := by
  unfold idB hexed
  by_cases h : l.length = 40
  · rw [h]; simp
  · simp [h]
set_option maxHeartbeats 1000000 in
theorem rid9_any (s : ByteArray) (w : World) (hs : s.size ≤ maxLen) :
    Calls Tryz.prog 15 #[.string s] w fun e w' => e = .returned (.bool (idB s.data.toList)) ∧ w' = w := by
  have HX := hidM (fun V => hexed_any s V hs)
  have HE := hidM (idB_hexed s.data.toList)
  have hlen := len_size s
  rw [hlen] at HE
  clear hlen
  generalize hexed s.data.toList = hx at *
  generalize idB s.data.toList = ib at *
  by_cases h : s.size = 40
  · have b1 : ((s.size : Int) == 40) = true := by simp; omega
    have HE2 : Hid (ib = hx) := by have := HE.out; rwa [show decide (s.size = 40) = true by simpa using h, Bool.true_and] at this
    clear h HE
    go_enter Tryz.func15, Tryz.ntmps15
    go_wp2_with fail
    refine (HX.out _).mono ?_
    rintro _ _ ⟨rfl, rfl⟩
    go_wp2
    go_ret
    exact ⟨by rw [HE2.out]; rfl, rfl⟩
  · have b1 : ((s.size : Int) == 40) = false := by simp; omega
    have HE2 : Hid (ib = false) := by have := HE.out; rwa [show decide (s.size = 40) = false by simpa using h, Bool.false_and] at this
    clear h HE
    go_enter Tryz.func15, Tryz.ntmps15
    go_wp2_with fail
    go_ret
    exact ⟨by rw [HE2.out]; rfl, rfl⟩

theorem ZQ.take {l : List UInt8} {o : List UInt8} {n : Nat} (h : ZQ l 0 65536 (o, n, 0)) : n ≤ l.length := by
  rcases h with ⟨_, h⟩ | ⟨A, M, _,_,_,_, ⟨_, h⟩ | ⟨_,_, h⟩ | ⟨_,_, o', n', e', hq, ⟨_, h⟩ | ⟨_,_, h⟩ | ⟨_,_,_, h⟩ | ⟨he, h1, h2, h⟩⟩⟩
  all_goals simp only [Prod.mk.injEq] at h
  all_goals first | omega | skip
set_option maxHeartbeats 2000000 in
set_option maxRecDepth 100000 in
theorem runpack_any (s : ByteArray) (w : World) (hs : s.size ≤ 100000) :
    Calls Tryz.prog 13 #[.string s] w fun e w' => UnpP s.data.toList e ∧ Below w.heap.size w w' := by
  have HX := hidM (heap_alloc_new w (.cells #[.int .i64 0, .string ⟨#[]⟩] 32))
  have HB0 : Hid (Below w.heap.size w (w.alloc (.cells #[.int .i64 0, .string ⟨#[]⟩] 32))) := (Below.refl _ w).alloc (Nat.le_refl _) _
  have HZ := hidM (fun V => rzread_any s 0 65536 V hs)
  have hz := zero32
  have HLn := hidM (len_size s)
  have HFIN : Hid (∀ x e, UnpQ s.data.toList x → e = .returned (objV x) → UnpP s.data.toList e) := fun x e h1 h2 => ⟨x, h1, h2⟩
  go_enter Tryz.func13, Tryz.ntmps13
  go_wp2_with fail
  refine (HZ.out _).mono ?_
  rintro _ w1 ⟨⟨⟨o, n, er⟩, hzq, rfl⟩, hb1⟩
  have HX1 := hidM (box_keptL HX.out hb1)
  have HB1 := hidM (HB0.out.trans (hb1.mono HB0.out.size))
  have HQ := hidM hzq
  have ho := hzq.small
  clear hb1 HX HB0 HZ hzq
  simp only
  by_cases he : er = 0
  · subst he
    have hle := HQ.out.take
    rw [HLn.out] at hle
    by_cases hn : n < s.size
    · have HU : Hid (UnpQ s.data.toList (0, [], 3)) := ⟨o, n, 0, HQ.out, Or.inr (Or.inl ⟨rfl, by rw [HLn.out]; exact hn, rfl⟩)⟩
      have g1 : ((n : Int) == (s.size : Int)) = false := by simp; omega
      go_wp2_with (refine wpList_store_row rfl 32 (.tmp 2) (.tmp 21) rfl w.heap.size #[.int .i64 0, .string ⟨#[]⟩] rfl rfl 32 #[.int .i64 0, .string ⟨#[]⟩] HX1.out size52 rfl (onesOb _ _) ?_)
      exact bodyPost_ret (results_box rfl _ _ w.heap.size _ rfl (run_loadVar_row _ w.heap.size 32 32 _ (0, 0) _ (setRow_heap _ _ _ _ 32 _ HX1.out) Tryz.underlying32 rfl size52)) rfl ⟨HFIN.out _ _ HU.out rfl, below_setRowL HB1.out (Nat.le_refl _)⟩
    · have HU : Hid (UnpQ s.data.toList (decR o)) := ⟨o, n, 0, HQ.out, Or.inr (Or.inr ⟨rfl, by rw [HLn.out]; exact hn, rfl⟩)⟩
      have g1 : ((n : Int) == (s.size : Int)) = true := by simp; omega
      have HD := hidM (fun V => rdecode_any ⟨o.toArray⟩ V (by show o.toArray.size ≤ _; rw [List.size_toArray]; omega))
      rw [show (⟨o.toArray⟩ : ByteArray).data.toList = o from rfl] at HD
      generalize decR o = x at *
      obtain ⟨k, d, e2⟩ := x
      simp only at HD
      go_wp2_with fail
      refine (HD.out _).mono ?_
      rintro _ w2 ⟨rfl, hb2⟩
      have HX2 := hidM (box_keptL HX1.out hb2)
      have HB2 := hidM (HB1.out.trans (hb2.mono HB1.out.size))
      clear hb2 HD HX1 HB1
      go_wp2_with (refine wpList_store_row rfl 32 (.tmp 2) (.tmp 24) rfl w.heap.size #[.int .i64 (k : Nat), .string ⟨d.toArray⟩] rfl rfl 32 #[.int .i64 0, .string ⟨#[]⟩] HX2.out size52 rfl (onesOb _ _) ?_)
      exact bodyPost_ret (results_box rfl _ _ w.heap.size _ rfl (run_loadVar_row _ w.heap.size 32 32 _ (0, 0) _ (setRow_heap _ _ _ _ 32 _ HX2.out) Tryz.underlying32 rfl size52)) rfl ⟨HFIN.out _ _ HU.out rfl, below_setRowL HB2.out (Nat.le_refl _)⟩
  · have HU : Hid (UnpQ s.data.toList (0, [], er)) := ⟨o, n, er, HQ.out, Or.inl ⟨he, rfl⟩⟩
    have b1 : ((er : Int) == 0) = false := by simp only [beq_eq_false_iff_ne, ne_eq]; omega
    clear he
    go_wp2_with (refine wpList_store_row rfl 32 (.tmp 2) (.tmp 15) rfl w.heap.size #[.int .i64 0, .string ⟨#[]⟩] rfl rfl 32 #[.int .i64 0, .string ⟨#[]⟩] HX1.out size52 rfl (onesOb _ _) ?_)
    exact bodyPost_ret (results_box rfl _ _ w.heap.size _ rfl (run_loadVar_row _ w.heap.size 32 32 _ (0, 0) _ (setRow_heap _ _ _ _ 32 _ HX1.out) Tryz.underlying32 rfl size52)) rfl ⟨HFIN.out _ _ HU.out rfl, below_setRowL HB1.out (Nat.le_refl _)⟩

/-- the object of a text that was taken is in form -/
theorem UnpQ.form {l : List UInt8} {k : Nat} {d : List UInt8} (h : UnpQ l (k, d, 0)) : d.length ≤ 65000 ∧ idT (k : Nat) d = hexL (sha1L (encL (k : Nat) d)) := by
  obtain ⟨o, n, e, _, h⟩ := h
  rcases h with ⟨c1, h⟩ | ⟨_,_, h⟩ | ⟨_,_, h⟩
  · simp only [Prod.mk.injEq] at h; omega
  · simp only [Prod.mk.injEq] at h; omega
  · have h0 : (decR o).2.2 = 0 := by rw [← h]
    obtain ⟨_, h2, h3⟩ := enc_dec o h0
    rw [← h] at h2 h3
    refine ⟨h3, ?_⟩
    simp only at h2 h3
    have hc : checkE (k : Nat) d.length = 0 := by
      unfold checkE
      rw [if_neg h2, if_neg (by omega)]
    unfold idT
    rw [if_pos hc]
set_option maxHeartbeats 4000000 in
set_option maxRecDepth 100000 in
theorem rread9_any (b c : Nat) (fs : List FileB) (id : ByteArray) (w : World) (hb : b < w.heap.size) (hF : FilesAt w b 0 fs) (hl : fs.length ≤ 1000000) (hz : ∀ f ∈ fs, f.2.size ≤ 100000) (hi : id.size ≤ maxLen) :
    Calls Tryz.prog 18 #[.slice (some ⟨b, 0, none⟩) fs.length c, .string id] w fun e w' => ReadP fs id e ∧ Below w.heap.size w w' := by
  have HX := hidM (heap_alloc_new w (.cells #[.int .i64 0, .string ⟨#[]⟩] 32))
  have HB0 : Hid (Below w.heap.size w (w.alloc (.cells #[.int .i64 0, .string ⟨#[]⟩] 32))) := (Below.refl _ w).alloc (Nat.le_refl _) _
  have HF0 := hidM (hF.below HB0.out hb)
  have hb0 : b < (w.alloc (.cells #[.int .i64 0, .string ⟨#[]⟩] 32)).heap.size := Nat.lt_of_lt_of_le hb HB0.out.size
  have HID := hidM (fun V => rid9_any id V hi)
  have hz32 := zero32
  have HFIN : Hid (∀ x e, ReadQ fs id x → e = .returned (objV x) → ReadP fs id e) := fun x e h1 h2 => ⟨x, h1, h2⟩
  have HGET := hidM (fun V (h : FilesAt V b 0 fs) (hb : b < V.heap.size) => rget_any b 0 c fs (pathB id) V hb h hl)
  have HSZ := hidM hz
  clear hF hz hl
  generalize hfl : fs.length = len at *
  clear hfl
  cases hib : idB id.data.toList with
  | false =>
    have HR : Hid (ReadQ fs id (0, [], 4)) := Or.inl ⟨hib, rfl⟩
    rw [hib] at HID
    clear hib
    go_enter Tryz.func18, Tryz.ntmps18
    go_wp2_with fail
    refine (HID.out _).mono ?_
    rintro _ _ ⟨rfl, rfl⟩
    clear HID HGET
    go_wp2_with (refine wpList_store_row rfl 32 (.tmp 4) (.tmp 13) rfl w.heap.size #[.int .i64 0, .string ⟨#[]⟩] rfl rfl 32 #[.int .i64 0, .string ⟨#[]⟩] HX.out size52 rfl (onesOb _ _) ?_)
    exact bodyPost_ret (results_box rfl _ _ w.heap.size _ rfl (run_loadVar_row _ w.heap.size 32 32 _ (0, 0) _ (setRow_heap _ _ _ _ 32 _ HX.out) Tryz.underlying32 rfl size52)) rfl ⟨HFIN.out _ _ HR.out rfl, below_setRowL HB0.out (Nat.le_refl _)⟩
  | true =>
    have HPA := hidM (fun V => rpath_any id V (idB_size hib))
    rw [hib] at HID
    have HIB := hidM hib
    clear hib
    go_enter Tryz.func18, Tryz.ntmps18
    go_wp2_with fail
    refine (HID.out _).mono ?_
    rintro _ _ ⟨rfl, rfl⟩
    clear HID
    generalize hPB : pathB id = PB at *
    have HPB := hidM hPB
    clear hPB
    go_wp2_with fail
    refine (HPA.out _).mono ?_
    rintro _ w1 ⟨rfl, hb1⟩
    have HX1 := hidM (box_keptL HX.out hb1)
    have HB1 := hidM (HB0.out.trans (hb1.mono HB0.out.size))
    have HF1 := hidM (HF0.out.below hb1 hb0)
    have hb01 : b < w1.heap.size := Nat.lt_of_lt_of_le hb0 hb1.size
    clear hb1 HX HB0 HPA HF0 hb0
    go_wp2_with fail
    refine (HGET.out _ HF1.out hb01).mono ?_
    rintro _ w2 ⟨hgp, hb2⟩
    have HX2 := hidM (box_keptL HX1.out hb2)
    have HB2 := hidM (HB1.out.trans (hb2.mono HB1.out.size))
    clear hb2 HX1 HB1 HF1 HGET hb01
    rcases hgp with ⟨f, hf, hfp, rfl⟩ | ⟨hno, rfl⟩
    · have HUN := hidM (runpack_any f.2 w2 (HSZ.out f hf))
      have HRD : Hid (∀ x, FilQ id f.2.data.toList x → ReadQ fs id x) := fun x hx => Or.inr (Or.inr ⟨HIB.out, f, hf, by rw [hfp, HPB.out], hx⟩)
      obtain ⟨f1, f2⟩ := f
      simp only at HUN HRD
      clear hf hfp
      simp only
      go_wp2_with fail
      refine HUN.out.mono ?_
      rintro _ w3 ⟨⟨⟨k, d, er⟩, hu, rfl⟩, hb3⟩
      have HX3 := hidM (box_keptL HX2.out hb3)
      have HB3 := hidM (HB2.out.trans (hb3.mono HB2.out.size))
      have HU := hidM hu
      clear hb3 HUN HX2 HB2 hu
      unfold objV
      simp only
      obtain ⟨DB, hDB⟩ : ∃ DB : ByteArray, DB = ⟨d.toArray⟩ := ⟨_, rfl⟩
      have HDB : Hid (DB.data.toList = d) := by unfold Hid; rw [hDB]
      have HDE : Hid ((⟨d.toArray⟩ : ByteArray) = DB) := hDB.symm
      rw [← hDB]
      clear hDB
      have hws := (Array.getElem?_eq_some_iff.1 HX3.out).1
      have HEB : Hid ((w3.alloc (.cells #[.int .i64 (k : Nat), .string DB] 32)).heap[w3.heap.size]? = some (.cells #[.int .i64 (k : Nat), .string DB] 32 (0, 0))) := heap_alloc_new _ _
      have HX4 : Hid ((w3.alloc (.cells #[.int .i64 (k : Nat), .string DB] 32)).heap[w.heap.size]? = some (.cells #[.int .i64 0, .string ⟨#[]⟩] 32 (0, 0))) := (heap_alloc_old _ _ hws).trans HX3.out
      have HB4 : Hid (Below w.heap.size w (w3.alloc (.cells #[.int .i64 (k : Nat), .string DB] 32))) := HB3.out.alloc HB3.out.size _
      by_cases he : er = 0
      · subst he
        have hfm := HU.out.form
        have HIDA := hidM (fun V => rid_any (k : Nat) DB V (by rw [← len_size, HDB.out]; exact hfm.1))
        rw [HDB.out, ← hfm.2] at HIDA
        clear hfm
        have c0 : (w3.alloc (.cells #[.int .i64 (k : Nat), .string DB] 32)).cell? ⟨w3.heap.size, 0, none⟩ = some (.int .i64 (k : Nat)) := by rw [cell_of_row _ _ _ _ 32 (0, 0) HEB.out]; rfl
        have c1 : (w3.alloc (.cells #[.int .i64 (k : Nat), .string DB] 32)).cell? ⟨w3.heap.size, 1, none⟩ = some (.string DB) := by rw [cell_of_row _ _ _ _ 32 (0, 0) HEB.out]; rfl
        clear HX3 HB3
        go_wp2_with fail
        refine (HIDA.out _).mono ?_
        rintro _ w5 ⟨rfl, hb5⟩
        have HX5 := hidM (box_keptL HX4.out hb5)
        have HE5 := hidM (box_keptL HEB.out hb5)
        have HB5 := hidM (HB4.out.trans (hb5.mono HB4.out.size))
        clear hb5 HX4 HEB HB4 HIDA c0 c1
        have c0 : w5.cell? ⟨w3.heap.size, 0, none⟩ = some (.int .i64 (k : Nat)) := by rw [cell_of_row _ _ _ _ 32 (0, 0) HE5.out]; rfl
        have c1 : w5.cell? ⟨w3.heap.size, 1, none⟩ = some (.string DB) := by rw [cell_of_row _ _ _ _ 32 (0, 0) HE5.out]; rfl
        by_cases hn : idT (k : Nat) d = id.data.toList
        · have b1 : ((⟨(idT (k : Nat) d).toArray⟩ : ByteArray).toList == id.toList) = true := by rw [hn]; simp
          have HR := hidM (HRD.out (k, d, 0) ⟨(k, d, 0), HU.out, Or.inr (Or.inr ⟨rfl, hn, rfl⟩)⟩)
          clear hn
          generalize (⟨(idT (k : Nat) d).toArray⟩ : ByteArray) = IB at *
          go_wp2_with (refine wpList_store_row rfl 32 (.tmp 4) (.tmp 38) rfl w.heap.size #[.int .i64 (k : Nat), .string DB] rfl rfl 32 #[.int .i64 0, .string ⟨#[]⟩] HX5.out size52 rfl (onesOb _ _) ?_)
          exact bodyPost_ret (results_box rfl _ _ w.heap.size _ rfl (run_loadVar_row _ w.heap.size 32 32 _ (0, 0) _ (setRow_heap _ _ _ _ 32 _ HX5.out) Tryz.underlying32 rfl size52)) rfl ⟨HFIN.out _ _ HR.out (by unfold objV; simp only; rw [HDE.out]; rfl), below_setRowL HB5.out (Nat.le_refl _)⟩
        · have b1 : ((⟨(idT (k : Nat) d).toArray⟩ : ByteArray).toList == id.toList) = false := bytes_ne (fun e => hn (congrArg (fun x : ByteArray => x.data.toList) e))
          have HR := hidM (HRD.out (0, [], 5) ⟨(k, d, 0), HU.out, Or.inr (Or.inl ⟨rfl, hn, rfl⟩)⟩)
          clear hn
          generalize (⟨(idT (k : Nat) d).toArray⟩ : ByteArray) = IB at *
          go_wp2_with (refine wpList_store_row rfl 32 (.tmp 4) (.tmp 37) rfl w.heap.size #[.int .i64 0, .string ⟨#[]⟩] rfl rfl 32 #[.int .i64 0, .string ⟨#[]⟩] HX5.out size52 rfl (onesOb _ _) ?_)
          exact bodyPost_ret (results_box rfl _ _ w.heap.size _ rfl (run_loadVar_row _ w.heap.size 32 32 _ (0, 0) _ (setRow_heap _ _ _ _ 32 _ HX5.out) Tryz.underlying32 rfl size52)) rfl ⟨HFIN.out _ _ HR.out rfl, below_setRowL HB5.out (Nat.le_refl _)⟩
      · have b1 : ((er : Int) == 0) = false := by simp only [beq_eq_false_iff_ne, ne_eq]; omega
        have HR := hidM (HRD.out (0, [], er) ⟨(k, d, er), HU.out, Or.inl ⟨he, rfl⟩⟩)
        clear he
        go_wp2_with (refine wpList_store_row rfl 32 (.tmp 4) (.tmp 31) rfl w.heap.size #[.int .i64 0, .string ⟨#[]⟩] rfl rfl 32 #[.int .i64 0, .string ⟨#[]⟩] HX4.out size52 rfl (onesOb _ _) ?_)
        exact bodyPost_ret (results_box rfl _ _ w.heap.size _ rfl (run_loadVar_row _ w.heap.size 32 32 _ (0, 0) _ (setRow_heap _ _ _ _ 32 _ HX4.out) Tryz.underlying32 rfl size52)) rfl ⟨HFIN.out _ _ HR.out rfl, below_setRowL HB4.out (Nat.le_refl _)⟩
    · have HR : Hid (ReadQ fs id (0, [], 7)) := Or.inr (Or.inl ⟨HIB.out, by rw [HPB.out]; exact hno, rfl⟩)
      clear hno
      go_wp2_with (refine wpList_store_row rfl 32 (.tmp 4) (.tmp 23) rfl w.heap.size #[.int .i64 0, .string ⟨#[]⟩] rfl rfl 32 #[.int .i64 0, .string ⟨#[]⟩] HX2.out size52 rfl (onesOb _ _) ?_)
      exact bodyPost_ret (results_box rfl _ _ w.heap.size _ rfl (run_loadVar_row _ w.heap.size 32 32 _ (0, 0) _ (setRow_heap _ _ _ _ 32 _ HX2.out) Tryz.underlying32 rfl size52)) rfl ⟨HFIN.out _ _ HR.out rfl, below_setRowL HB2.out (Nat.le_refl _)⟩
end Go.Proofs.YtddoemeellbhaaaGreatDoor
