/-
  Taken over from another program: ShaX.
-/
import Derived.Test.YtlmeoahcpmikiaaGreatDoorChecked
import Derived.Laws.BitsAllLaws
import Derived.WalkKit
import Derived.WalkSpells
import Derived.WalkLawsBesides
import Derived.Laws.IdiomStrings
import Derived.Deep.QuietTactic
import Derived.BigQuiet
import Derived.Deep.RegionHeld3
import Derived.Deep.MidRow
namespace Go.Proofs.YtlmeoahcpmikiaaGreatDoor
open Go.RowKit
def rotl (s x : Nat) : Nat := x * 2 ^ s % 4294967296 + x / 2 ^ (32 - s)
theorem rotl_or (s x : Nat) (h2 : s < 32) (hx : x < 4294967296) : (x * 2 ^ s % 4294967296) ||| (x / 2 ^ (32 - s)) = rotl s x := by
  unfold rotl
  refine nat_join s _ _ ?_ ?_
  · have : (4294967296 : Nat) = 2 ^ s * 2 ^ (32 - s) := by rw [← Nat.pow_add, show s + (32 - s) = 32 by omega]
    rw [this, Nat.mul_comm x, Nat.mul_mod_mul_left, Nat.mul_mod_right]
  · rw [Nat.div_lt_iff_lt_mul (Nat.two_pow_pos _), ← Nat.pow_add, show s + (32 - s) = 32 by omega]
    exact hx
theorem rotl_lt (s x : Nat) (h2 : s < 32) (hx : x < 4294967296) : rotl s x < 4294967296 := by
  rw [← rotl_or s x h2 hx]
  exact Nat.or_lt_two_pow (n := 32) (Nat.mod_lt _ (by decide)) (Nat.lt_of_le_of_lt (Nat.div_le_self _ _) hx)
theorem byte_ltO (c : UInt8) : c.toNat < 256 := UInt8.toNat_lt c
def be4 (a b c d : Nat) : Nat := a * 16777216 + b * 65536 + c * 256 + d
theorem be4_lt (a b c d : Nat) (ha : a < 256) (hb : b < 256) (hc : c < 256) (hd : d < 256) : be4 a b c d < 4294967296 := by unfold be4; omega
theorem be4_or (a b c d : Nat) (ha : a < 256) (hb : b < 256) (hc : c < 256) (hd : d < 256) :
    bits .or .u32 (bits .or .u32 (bits .or .u32 ((a : Int) % 4294967296 * 16777216 % 4294967296) ((b : Int) % 4294967296 * 65536 % 4294967296)) ((c : Int) % 4294967296 * 256 % 4294967296)) ((d : Int) % 4294967296) = ((be4 a b c d : Nat) : Int) := by
  rw [show ((a : Int) % 4294967296 * 16777216 % 4294967296) = ((a * 16777216 : Nat) : Int) by omega, show ((b : Int) % 4294967296 * 65536 % 4294967296) = ((b * 65536 : Nat) : Int) by omega,
    show ((c : Int) % 4294967296 * 256 % 4294967296) = ((c * 256 : Nat) : Int) by omega, show ((d : Int) % 4294967296) = (d : Int) by omega,
    u32_or_nat _ _ (by omega) (by omega), nat_join 24 _ _ (by omega) (by omega), u32_or_nat _ _ (by omega) (by omega), nat_join 16 _ _ (by omega) (by omega),
    u32_or_nat _ _ (by omega) (by omega), nat_join 8 _ _ (by omega) (by omega)]
  rfl
def ones32 : Nat := 4294967295
theorem ones32_lt : ones32 < 4294967296 := by decide
theorem umax32 : IntKind.u32.max = ((ones32 : Nat) : Int) := by decide
theorem xor_lt {a b : Nat} (ha : a < 4294967296) (hb : b < 4294967296) : a ^^^ b < 4294967296 := Nat.xor_lt_two_pow (n := 32) ha hb
theorem and_lt {a b : Nat} (hb : b < 4294967296) : a &&& b < 4294967296 := Nat.and_lt_two_pow (n := 32) a hb
theorem or_lt {a b : Nat} (ha : a < 4294967296) (hb : b < 4294967296) : a ||| b < 4294967296 := Nat.or_lt_two_pow (n := 32) ha hb
def f1 (i b c d : Nat) : Nat :=
  if i < 20 then (b &&& c) ||| ((ones32 ^^^ b) &&& d) else if i < 40 then (b ^^^ c) ^^^ d else if i < 60 then ((b &&& c) ||| (b &&& d)) ||| (c &&& d) else (b ^^^ c) ^^^ d
def k1 (i : Nat) : Nat := if i < 20 then 1518500249 else if i < 40 then 1859775393 else if i < 60 then 2400959708 else 3395469782
theorem f1_lt (i b c d : Nat) (hb : b < 4294967296) (hc : c < 4294967296) (hd : d < 4294967296) : f1 i b c d < 4294967296 := by
  unfold f1
  split
  · exact or_lt (and_lt hc) (and_lt hd)
  · split
    · exact xor_lt (xor_lt hb hc) hd
    · split
      · exact or_lt (or_lt (and_lt hc) (and_lt hd)) (and_lt hd)
      · exact xor_lt (xor_lt hb hc) hd
theorem k1_lt (i : Nat) : k1 i < 4294967296 := by
  unfold k1
  split
  · decide
  · split
    · decide
    · split <;> decide
/-- Word i of a block of 64 bytes. -/
def blkW (p : List UInt8) (i : Nat) : Nat := be4 (p.getD (4 * i) 0).toNat (p.getD (4 * i + 1) 0).toNat (p.getD (4 * i + 2) 0).toNat (p.getD (4 * i + 3) 0).toNat
theorem blkW_lt (p : List UInt8) (i : Nat) : blkW p i < 4294967296 := be4_lt _ _ _ _ (byte_ltO _) (byte_ltO _) (byte_ltO _) (byte_ltO _)
def words16 (p : List UInt8) : List Nat := (List.range 16).map (blkW p)
/-- The next word of a row. -/
def nxt1 (l : List Nat) (i : Nat) : Nat := rotl 1 (((l.getD (i - 3) 0 ^^^ l.getD (i - 8) 0) ^^^ l.getD (i - 14) 0) ^^^ l.getD (i - 16) 0)
def ext1 : Nat → List Nat → List Nat
  | 0, l => l
  | n + 1, l => ext1 n (l ++ [nxt1 l l.length])
def sched1 (p : List UInt8) : List Nat := ext1 64 (words16 p)
def st1 (w : List Nat) (s : Nat × Nat × Nat × Nat × Nat) (i : Nat) : Nat × Nat × Nat × Nat × Nat :=
  let (a, b, c, d, e) := s
  ((((((rotl 5 a + f1 i b c d) % 4294967296 + e) % 4294967296 + k1 i) % 4294967296) + w.getD i 0) % 4294967296, a, rotl 30 b, c, d)
def rounds1 (w : List Nat) (s : Nat × Nat × Nat × Nat × Nat) (n : Nat) : Nat × Nat × Nat × Nat × Nat := (List.range n).foldl (st1 w) s
theorem rounds1_succ (w : List Nat) (s : Nat × Nat × Nat × Nat × Nat) (n : Nat) : rounds1 w s (n + 1) = st1 w (rounds1 w s n) n := by
  unfold rounds1; rw [List.range_succ, List.foldl_append]; rfl
def add32 (a b : Nat) : Nat := (a + b) % 4294967296
def mixL1 (h : List Nat) (p : List UInt8) : List Nat :=
  let r := rounds1 (sched1 p) (h.getD 0 0, h.getD 1 0, h.getD 2 0, h.getD 3 0, h.getD 4 0) 80
  [add32 (h.getD 0 0) r.1, add32 (h.getD 1 0) r.2.1, add32 (h.getD 2 0) r.2.2.1, add32 (h.getD 3 0) r.2.2.2.1, add32 (h.getD 4 0) r.2.2.2.2]
theorem hidMO {p : Prop} (h : p) : Hid p := h
theorem ret_intO {k : IntKind} {a b : Int} (h : a = b) : Ending.returned (.int k a) = .returned (.int k b) := by rw [h]
theorem val_intO {k : IntKind} {a b : Int} (h : a = b) : Value.int k a = .int k b := by rw [h]
theorem ret_twoO {k l : IntKind} {a b c d : Int} (h : a = b) (g : c = d) : Ending.returned (.tuple #[.int k a, .int l c]) = .returned (.tuple #[.int k b, .int l d]) := by rw [h, g]
/-- Bytes as the cells of a row. -/
def bytesVO (l : List UInt8) : List Value := l.map fun c => .int .u8 (c.toNat : Int)
theorem bytesV_atO (l : List UInt8) (j : Nat) (h : j < l.length) : (bytesVO l)[j]? = some (.int .u8 (l[j].toNat : Int)) := by simp [bytesVO, h]
theorem bytesV_lenO (l : List UInt8) : (bytesVO l).length = l.length := by simp [bytesVO]
/-- Words as the cells of a row. -/
def wordsV (l : List Nat) : List Value := l.map fun (c : Nat) => Value.int .u32 (c : Int)
theorem wordsV_at (l : List Nat) (j : Nat) (h : j < l.length) : (wordsV l)[j]? = some (.int .u32 (l[j] : Int)) := by simp [wordsV, h]
theorem wordsV_len (l : List Nat) : (wordsV l).length = l.length := by simp [wordsV]
set_option maxHeartbeats 400000 in
set_option maxRecDepth 100000 in
theorem rotate_any (x s : Nat) (k : Int) (w : World) (hx : x < 4294967296) (h2 : s < 32) (hk : bits .and .u64 (IntKind.u64.wrap k) 31 = (s : Int)) :
    Calls Tryz.prog 194 #[.int .u32 x, .int .i64 k] w fun e w' => e = .returned (.int .u32 (rotl s x : Nat)) ∧ w' = w := by
  go_enter Tryz.func194, Tryz.ntmps194
  go_wp2
  go_ret
  refine ⟨ret_intO ?_, rfl⟩
  have e1 : ((x : Int) * 2 ^ s % 4294967296) = ((x * 2 ^ s % 4294967296 : Nat) : Int) := by simp
  have e2 : ((x : Int) / 2 ^ (32 - s)) = ((x / 2 ^ (32 - s) : Nat) : Int) := by simp
  rw [e1, e2, u32_or_nat _ _ (Nat.mod_lt _ (by decide)) (Nat.lt_of_le_of_lt (Nat.div_le_self _ _) hx), rotl_or s x h2 hx]
theorem i64_smallO (n : Int) (h0 : 0 ≤ n) (h1 : n < 100000) : IntKind.i64.wrap n = n := by
  rw [IntKind.wrap_i64]; omega
set_option maxHeartbeats 400000 in
set_option maxRecDepth 100000 in
theorem word_any (b off i : Nat) (p : List UInt8) (w : World) (hi : i < 16) (hp : p.length = 64) (hr : w.rangeAt b off (bytesVO p)) :
    Calls Tryz.prog 233 #[.pointer (some ⟨b, off, none⟩), .int .i64 i] w fun e w' => e = .returned (.int .u32 (blkW p i : Nat)) ∧ ∃ n, w' = w.drewN n := by
  have g : ∀ j, j < 64 → w.cell? ⟨b, off + j, none⟩ = some (.int .u8 ((p.getD j 0).toNat : Int)) := by
    intro j hj
    have := hr j _ (bytesV_atO p j (by omega))
    rw [this, List.getD_eq_getElem?_getD, List.getElem?_eq_getElem (by omega)]
    rfl
  have HV : Hid ((blkW p i : Nat) = be4 (p.getD (4 * i) 0).toNat (p.getD (4 * i + 1) 0).toNat (p.getD (4 * i + 2) 0).toNat (p.getD (4 * i + 3) 0).toNat) := rfl
  obtain ⟨p0, e0⟩ : ∃ q, q = 4 * i := ⟨_, rfl⟩
  obtain ⟨p1, e1⟩ : ∃ q, q = 4 * i + 1 := ⟨_, rfl⟩
  obtain ⟨p2, e2⟩ : ∃ q, q = 4 * i + 2 := ⟨_, rfl⟩
  obtain ⟨p3, e3⟩ : ∃ q, q = 4 * i + 3 := ⟨_, rfl⟩
  rw [← e1, ← e2, ← e3, ← e0] at HV
  have hw0 : IntKind.i64.wrap (4 * (i : Int)) = (p0 : Int) := by rw [i64_smallO _ (by omega) (by omega)]; omega
  have hw1 : IntKind.i64.wrap ((p0 : Int) + 1) = (p1 : Int) := by rw [i64_smallO _ (by omega) (by omega)]; omega
  have hw2 : IntKind.i64.wrap ((p0 : Int) + 2) = (p2 : Int) := by rw [i64_smallO _ (by omega) (by omega)]; omega
  have hw3 : IntKind.i64.wrap ((p0 : Int) + 3) = (p3 : Int) := by rw [i64_smallO _ (by omega) (by omega)]; omega
  have h0 : (p0 : Int) < 64 := by omega
  have h1 : (p1 : Int) < 64 := by omega
  have h2 : (p2 : Int) < 64 := by omega
  have h3 : (p3 : Int) < 64 := by omega
  have g0 := g p0 (by omega)
  have g1 := g p1 (by omega)
  have g2 := g p2 (by omega)
  have g3 := g p3 (by omega)
  have b0 := byte_ltO (p.getD p0 0)
  have b1 := byte_ltO (p.getD p1 0)
  have b2 := byte_ltO (p.getD p2 0)
  have b3 := byte_ltO (p.getD p3 0)
  have HVV : Hid (∃ v : Int, v = (blkW p i : Nat) ∧ v = bits .or .u32 (bits .or .u32 (bits .or .u32 (((p.getD p0 0).toNat : Int) % 4294967296 * 16777216 % 4294967296) (((p.getD p1 0).toNat : Int) % 4294967296 * 65536 % 4294967296)) (((p.getD p2 0).toNat : Int) % 4294967296 * 256 % 4294967296)) (((p.getD p3 0).toNat : Int) % 4294967296)) :=
    ⟨_, rfl, by rw [be4_or _ _ _ _ b0 b1 b2 b3, HV.out]⟩
  clear g e0 e1 e2 e3 b0 b1 b2 b3 HV hr
  generalize (p.getD p0 0).toNat = c0 at *
  generalize (p.getD p1 0).toNat = c1 at *
  generalize (p.getD p2 0).toNat = c2 at *
  generalize (p.getD p3 0).toNat = c3 at *
  go_enter Tryz.func233, Tryz.ntmps233
  go_wp2
  go_quiet (fail)
  go_wp2
  go_ret
  obtain ⟨v, e, f⟩ := HVV.out
  exact ⟨ret_intO (by rw [← f, e]), nq, rfl⟩
set_option maxHeartbeats 800000 in
set_option maxRecDepth 100000 in
theorem step1_any (i b c d : Nat) (w : World) (hi : i < 80) (hb : b < 4294967296) (hc : c < 4294967296) (hd : d < 4294967296) :
    Calls Tryz.prog 193 #[.int .i64 i, .int .u32 b, .int .u32 c, .int .u32 d] w fun e w' => e = .returned (.tuple #[.int .u32 (f1 i b c d : Nat), .int .u32 (k1 i : Nat)]) ∧ w' = w := by
  by_cases h20 : i < 20
  · have HF : Hid (f1 i b c d = (b &&& c) ||| ((ones32 ^^^ b) &&& d) ∧ k1 i = 1518500249) := by unfold Hid f1 k1; simp [h20]
    go_enter Tryz.func193, Tryz.ntmps193
    go_wp2
    go_ret2
    refine ⟨ret_twoO ?_ (by rw [HF.out.2]; rfl), rfl⟩
    rw [HF.out.1, umax32, u32_and_nat b c hb hc, u32_xor_nat _ _ ones32_lt hb, u32_and_nat _ _ (xor_lt ones32_lt hb) hd, u32_or_nat _ _ (and_lt hc) (and_lt hd)]
  · by_cases h40 : i < 40
    · have HF : Hid (f1 i b c d = (b ^^^ c) ^^^ d ∧ k1 i = 1859775393) := by unfold Hid f1 k1; simp [h20, h40]
      go_enter Tryz.func193, Tryz.ntmps193
      go_wp2
      go_ret2
      refine ⟨ret_twoO ?_ (by rw [HF.out.2]; rfl), rfl⟩
      rw [HF.out.1, u32_xor_nat _ _ hb hc, u32_xor_nat _ _ (xor_lt hb hc) hd]
    · by_cases h60 : i < 60
      · have HF : Hid (f1 i b c d = ((b &&& c) ||| (b &&& d)) ||| (c &&& d) ∧ k1 i = 2400959708) := by unfold Hid f1 k1; simp [h20, h40, h60]
        go_enter Tryz.func193, Tryz.ntmps193
        go_wp2
        go_ret2
        refine ⟨ret_twoO ?_ (by rw [HF.out.2]; rfl), rfl⟩
        rw [HF.out.1, u32_and_nat b c hb hc, u32_and_nat b d hb hd, u32_and_nat c d hc hd, u32_or_nat _ _ (and_lt hc) (and_lt hd), u32_or_nat _ _ (or_lt (and_lt hc) (and_lt hd)) (and_lt hd)]
      · have HF : Hid (f1 i b c d = (b ^^^ c) ^^^ d ∧ k1 i = 3395469782) := by unfold Hid f1 k1; simp [h20, h40, h60]
        go_enter Tryz.func193, Tryz.ntmps193
        go_wp2
        go_ret2
        refine ⟨ret_twoO ?_ (by rw [HF.out.2]; rfl), rfl⟩
        rw [HF.out.1, u32_xor_nat _ _ hb hc, u32_xor_nat _ _ (xor_lt hb hc) hd]
theorem getElem_D (l : List Nat) (j : Nat) (h : j < l.length) : l[j] = l.getD j 0 := by
  rw [List.getD_eq_getElem?_getD, List.getElem?_eq_getElem h]; rfl
/-- A block that holds just these words. -/
def RowW (w : World) (b t : Nat) (l : List Nat) : Prop := w.heap[b]? = some (.cells (wordsV l).toArray t (0, 0))
theorem RowW.cell {w : World} {b t : Nat} {l : List Nat} (h : RowW w b t l) (j : Nat) (hj : j < l.length) : w.cell? ⟨b, j, none⟩ = some (.int .u32 (l.getD j 0 : Nat)) := by
  rw [cell_of_row w b j _ t (0, 0) h]
  have := wordsV_at l j hj
  rw [getElem_D l j hj] at this
  simpa using this
theorem RowW.frozen {w : World} {b t : Nat} {l : List Nat} (h : RowW w b t l) (j : Nat) : w.frozen? ⟨b, j, none⟩ = false := frozen_of_row w b j _ t h
theorem RowW.set {w : World} {b t : Nat} {l : List Nat} (h : RowW w b t l) (j x : Nat) : RowW (w.setCell ⟨b, j, none⟩ (.int .u32 (x : Int))) b t (l.set j x) := by
  unfold RowW
  rw [heap_setCell_same w b j _ t _ h]
  simp [wordsV, List.map_set]
theorem RowW.other {w w' : World} {b t : Nat} {l : List Nat} (h : RowW w b t l) (hh : w'.heap[b]? = w.heap[b]?) : RowW w' b t l := by
  unfold RowW; rw [hh]; exact h
/-- A block that holds just these bytes. -/
def RowB (w : World) (b t : Nat) (l : List UInt8) : Prop := w.heap[b]? = some (.cells (bytesVO l).toArray t (0, 0))
theorem RowB.range {w : World} {b t : Nat} {l : List UInt8} (h : RowB w b t l) : w.rangeAt b 0 (bytesVO l) := by
  intro j v hv
  rw [cell_of_row w b (0 + j) _ t (0, 0) h]
  simpa using hv
def Z80 : List Nat := List.replicate 80 0
def Z80V : Array Value := (wordsV Z80).toArray
theorem zero83 (w : World) : (zeroValue 260).run Tryz.prog w = .ok (.agg Z80V) w := by kernel_rfl
def h0 : List Nat := [1732584193, 4023233417, 2562383102, 271733878, 3285377520]
theorem ext1_succ (n : Nat) : ∀ l, ext1 (n + 1) l = ext1 n l ++ [nxt1 (ext1 n l) (ext1 n l).length] := by
  induction n with
  | zero => intro l; rfl
  | succ n ih => intro l; show ext1 (n + 1) (l ++ [nxt1 l l.length]) = _; rw [ih]; rfl
theorem ext1_len (n : Nat) : ∀ l, (ext1 n l).length = l.length + n := by
  induction n with
  | zero => intro l; rfl
  | succ n ih => intro l; show (ext1 n (l ++ [nxt1 l l.length])).length = _; rw [ih]; simp; omega
theorem ext1_bound (p : List UInt8) (n : Nat) : ∀ j, (ext1 n (words16 p)).getD j 0 < 4294967296 := by
  induction n with
  | zero =>
    intro j
    show (words16 p).getD j 0 < _
    unfold words16
    rw [List.getD_eq_getElem?_getD, List.getElem?_map]
    cases h : (List.range 16)[j]? with
    | none => simp
    | some v => simpa using blkW_lt p v
  | succ n ih =>
    intro j
    rw [ext1_succ]
    have hx : nxt1 (ext1 n (words16 p)) (ext1 n (words16 p)).length < 4294967296 := rotl_lt 1 _ (by decide) (xor_lt (xor_lt (xor_lt (ih _) (ih _)) (ih _)) (ih _))
    rw [List.getD_eq_getElem?_getD, List.getElem?_append]
    split
    · rw [← List.getD_eq_getElem?_getD]; exact ih j
    · rename_i hj
      rcases Nat.lt_or_ge (j - (ext1 n (words16 p)).length) 1 with h1 | h1
      · have : j - (ext1 n (words16 p)).length = 0 := by omega
        rw [this]; exact hx
      · rw [List.getElem?_eq_none (by simpa using h1)]; decide
theorem keep4 {W : World} {B M a b c d : Nat} {v ya yb yc yd : Value} (na : M ≠ a) (nb : M ≠ b) (nc : M ≠ c) (nd : M ≠ d)
    (ca : W.cell? ⟨B, a, none⟩ = some ya) (cb : W.cell? ⟨B, b, none⟩ = some yb) (cc : W.cell? ⟨B, c, none⟩ = some yc) (cd : W.cell? ⟨B, d, none⟩ = some yd) :
    (W.setCell ⟨B, M, none⟩ v).drew.cell? ⟨B, a, none⟩ = some ya ∧ (W.setCell ⟨B, M, none⟩ v).drew.cell? ⟨B, b, none⟩ = some yb ∧ (W.setCell ⟨B, M, none⟩ v).drew.cell? ⟨B, c, none⟩ = some yc ∧ (W.setCell ⟨B, M, none⟩ v).drew.cell? ⟨B, d, none⟩ = some yd :=
  ⟨(World.cell?_setCell_other W _ _ _ (by simp)).trans ca, (World.cell?_setCell_other W _ _ _ (by simp)).trans cb, (World.cell?_setCell_other W _ _ _ (by simp)).trans cc, (World.cell?_setCell_other W _ _ _ (by simp)).trans cd⟩
theorem size83 : (Tryz.prog.info? 260).map (·.size) = some 80 := by kernel_rfl
theorem ones_words (l : List Nat) : (wordsV l).toArray.all (·.oneCell') = true := all_oneCell_toArray (by
  intro v hv
  simp only [wordsV, List.mem_map] at hv
  obtain ⟨c, _, rfl⟩ := hv
  rfl)
theorem below_setRowS {B g : Nat} {w wr : World} {c : Array Value} (h : Below B w wr) (hg : B ≤ g) : Below B w (wr.setRow g c) :=
  h.trans ⟨rfl, rfl, rfl, by simp, fun k hk => setRow_other wr g k c (by omega)⟩
/-- The memory of a spreading: the block, the room for the answer, the words so far. -/
structure Spr (w0 w : World) (t : Nat) (p : List UInt8) (z l : List Nat) : Prop where
  part : RowB w w0.heap.size 151 p
  res : RowW w (w0.heap.size + 1) t z
  row : RowW w (w0.heap.size + 1 + 1) t l
  below : Below w0.heap.size w0 w
theorem Spr.drewN {w0 w : World} {t : Nat} {p : List UInt8} {z l : List Nat} (h : Spr w0 w t p z l) (n : Nat) : Spr w0 (w.drewN n) t p z l :=
  ⟨h.part, h.res, h.row, below_drewN h.below n⟩
theorem Spr.set {w0 w : World} {t : Nat} {p : List UInt8} {z l : List Nat} (h : Spr w0 w t p z l) (j x : Nat) : Spr w0 (w.setCell ⟨w0.heap.size + 1 + 1, j, none⟩ (.int .u32 (x : Int))) t p z (l.set j x) := by
  refine ⟨?_, h.res.other ?_, h.row.set j x, h.below.setCell (by show w0.heap.size ≤ w0.heap.size + 1 + 1; omega) _⟩
  · unfold RowB; rw [heap_setCell_other w _ _ _ (by show w0.heap.size ≠ w0.heap.size + 1 + 1; omega)]; exact h.part
  · exact heap_setCell_other w _ _ _ (by show w0.heap.size + 1 ≠ w0.heap.size + 1 + 1; omega)
theorem spr_start (w : World) (t : Nat) (p : List UInt8) (z : List Nat) : Spr w (((w.alloc (.cells (bytesVO p).toArray 151)).alloc (.cells (wordsV z).toArray t)).alloc (.cells (wordsV z).toArray t)) t p z z := by
  refine ⟨?_, ?_, ?_, ((((Below.refl _ _).alloc (Nat.le_refl _) _).alloc (by simp) _).alloc (by simp; omega) _)⟩
  · unfold RowB; rw [Below.heap_alloc _ _ _ (by simp; omega), Below.heap_alloc _ _ _ (by simp), _root_.Go.heap_alloc_new]
  · unfold RowW
    rw [Below.heap_alloc _ _ _ (by simp)]
    have := _root_.Go.heap_alloc_new (w.alloc (.cells (bytesVO p).toArray 151)) (.cells (wordsV z).toArray t)
    simpa using this
  · unfold RowW
    have := _root_.Go.heap_alloc_new ((w.alloc (.cells (bytesVO p).toArray 151)).alloc (.cells (wordsV z).toArray t)) (.cells (wordsV z).toArray t)
    simpa using this
theorem set_mid (l : List Nat) (k x : Nat) : (l ++ List.replicate (k + 1) 0).set l.length x = (l ++ [x]) ++ List.replicate k 0 := by
  rw [List.replicate_succ]; simp
set_option maxRecDepth 100000 in
set_option maxHeartbeats 1600000 in
set_option maxRecDepth 100000 in
theorem spread1_any (p : List UInt8) (w : World) (hp : p.length = 64) :
    Calls Tryz.prog 192 #[.agg (bytesVO p).toArray] w fun e w' => e = .returned (.agg (wordsV (sched1 p)).toArray) ∧ Below w.heap.size w w' := by
  have hz := zero83
  have HP := hidMO hp
  have HS : Hid (Spr w (((w.alloc (.cells (bytesVO p).toArray 151)).alloc (.cells Z80V 260)).alloc (.cells Z80V 260)) 260 p Z80 Z80) := spr_start w 260 p Z80
  obtain ⟨C, hC⟩ : ∃ C, C = (bytesVO p).toArray := ⟨_, rfl⟩
  rw [← hC] at HS ⊢
  clear hC hp
  go_enter Tryz.func192, Tryz.ntmps192
  go_wp2
  go_loopw [4] (fun i wr => ∃ (k : Nat) (l : List Nat), k ≤ 16 ∧ i = .int .i64 (k : Int) ∧ l.length = k ∧ l = (List.range k).map (blkW p) ∧ Spr w wr 260 p Z80 (l ++ List.replicate (80 - k) 0)) (fun i _ => 16 - (intOf i).toNat)
  case atStart => exact ⟨0, [], by omega, rfl, rfl, rfl, HS.out⟩
  case round =>
    obtain ⟨k, l, hk, rfl, hl, hll, hS⟩ := hrel
    clear HS
    have HSP := hidMO hS
    have HL := hidMO hl
    have HLL := hidMO hll
    clear hll hS hl
    by_cases h16 : k < 16
    · go_wp2_with fail
      refine (word_any _ 0 k p wr h16 HP.out HSP.out.part.range).mono ?_
      rintro e w1 ⟨rfl, nq, rfl⟩
      have HS1 := hidMO (HSP.out.drewN nq)
      have hc := HS1.out.row.cell k (by rw [List.length_append, HL.out, List.length_replicate]; omega)
      have hf := HS1.out.row.frozen k
      generalize wr.drewN nq = w2 at *
      have HS2 : Hid (Spr w (w2.setCell ⟨w.heap.size + 1 + 1, k, none⟩ (.int .u32 ((blkW p k : Nat) : Int))) 260 p Z80 ((l ++ [blkW p k]) ++ List.replicate (80 - (k + 1)) 0)) := by
        have h2 := HS1.out.set k (blkW p k)
        rw [show 80 - k = (80 - (k + 1)) + 1 by omega] at h2
        have h3 := set_mid l (80 - (k + 1)) (blkW p k)
        rw [HL.out] at h3
        rw [h3] at h2
        exact h2
      have HLL2 : Hid (l ++ [blkW p k] = (List.range (k + 1)).map (blkW p)) := by unfold Hid; rw [HLL.out, List.range_succ, List.map_append]; rfl
      clear HS1 HSP
      generalize blkW p k = x at *
      go_wp2
      go_roundw
      case rel => exact ⟨k + 1, l ++ [x], by omega, by go_num, by rw [List.length_append, HL.out]; rfl, HLL2.out, HS2.out⟩
      case measure => simp [intOf]; omega
    · have k16 : k = 16 := by omega
      subst k16
      have HS2 : Hid (Spr w wr 260 p Z80 (ext1 0 (words16 p) ++ List.replicate 64 0)) := by
        have := HSP.out; rw [HLL.out] at this; exact this
      clear HSP
      rw [show ((16 : Nat) : Int) = 16 from rfl]
      go_wp2
      go_loopw [5] (fun i wr => ∃ (n N : Nat), n ≤ 64 ∧ N = 16 + n ∧ i = .int .i64 (N : Int) ∧ Spr w wr 260 p Z80 (ext1 n (words16 p) ++ List.replicate (64 - n) 0)) (fun i _ => 80 - (intOf i).toNat)
      case atStart => exact ⟨0, 16, by omega, rfl, rfl, HS2.out⟩
      case round =>
        obtain ⟨n, M, hn, hM, rfl, hS⟩ := hrel
        clear HS2
        have HSP := hidMO hS
        have m1 : M ≤ 16 + n := by omega
        have m2 : 16 + n ≤ M := by omega
        have HM := hidMO hM
        clear hS hM
        by_cases h64 : n < 64
        · have HLEN : Hid ((ext1 n (words16 p) ++ List.replicate (64 - n) 0).length = 80) := by
            unfold Hid; rw [List.length_append, ext1_len, List.length_replicate]; simp [words16]; omega
          have HEL : Hid ((ext1 n (words16 p)).length = M) := by unfold Hid; rw [ext1_len]; simp [words16]; omega
          have get : ∀ j, j < M → (ext1 n (words16 p) ++ List.replicate (64 - n) 0).getD j 0 = (ext1 n (words16 p)).getD j 0 := by
            intro j hj
            rw [List.getD_eq_getElem?_getD, List.getD_eq_getElem?_getD, List.getElem?_append_left (by rw [HEL.out]; exact hj)]
          obtain ⟨a3, ea3⟩ : ∃ a, a = M - 3 := ⟨_, rfl⟩
          obtain ⟨a8, ea8⟩ : ∃ a, a = M - 8 := ⟨_, rfl⟩
          obtain ⟨a14, ea14⟩ : ∃ a, a = M - 14 := ⟨_, rfl⟩
          obtain ⟨a16, ea16⟩ : ∃ a, a = M - 16 := ⟨_, rfl⟩
          have w3 : IntKind.i64.wrap ((M : Int) - 3) = (a3 : Int) := by rw [i64_smallO _ (by omega) (by omega)]; omega
          have w8 : IntKind.i64.wrap ((M : Int) - 8) = (a8 : Int) := by rw [i64_smallO _ (by omega) (by omega)]; omega
          have w14 : IntKind.i64.wrap ((M : Int) - 14) = (a14 : Int) := by rw [i64_smallO _ (by omega) (by omega)]; omega
          have w16 : IntKind.i64.wrap ((M : Int) - 16) = (a16 : Int) := by rw [i64_smallO _ (by omega) (by omega)]; omega
          have l3 : (a3 : Int) < 80 := by omega
          have l8 : (a8 : Int) < 80 := by omega
          have l14 : (a14 : Int) < 80 := by omega
          have l16 : (a16 : Int) < 80 := by omega
          have lM : (M : Int) < 80 := by omega
          have dM : decide ((M : Int) < 80) = true := by simp; omega
          have n3 : M ≠ a3 := by omega
          have n8 : M ≠ a8 := by omega
          have n14 : M ≠ a14 := by omega
          have n16 : M ≠ a16 := by omega
          have c3 := HSP.out.row.cell a3 (by rw [HLEN.out]; omega)
          have c8 := HSP.out.row.cell a8 (by rw [HLEN.out]; omega)
          have c14 := HSP.out.row.cell a14 (by rw [HLEN.out]; omega)
          have c16 := HSP.out.row.cell a16 (by rw [HLEN.out]; omega)
          have cM := HSP.out.row.cell M (by rw [HLEN.out]; omega)
          have fM := HSP.out.row.frozen M
          rw [get a3 (by omega)] at c3
          rw [get a8 (by omega)] at c8
          rw [get a14 (by omega)] at c14
          rw [get a16 (by omega)] at c16
          obtain ⟨y3, ey3⟩ : ∃ y, y = (ext1 n (words16 p)).getD a3 0 := ⟨_, rfl⟩
          obtain ⟨y8, ey8⟩ : ∃ y, y = (ext1 n (words16 p)).getD a8 0 := ⟨_, rfl⟩
          obtain ⟨y14, ey14⟩ : ∃ y, y = (ext1 n (words16 p)).getD a14 0 := ⟨_, rfl⟩
          obtain ⟨y16, ey16⟩ : ∃ y, y = (ext1 n (words16 p)).getD a16 0 := ⟨_, rfl⟩
          have HNX : Hid (nxt1 (ext1 n (words16 p)) (ext1 n (words16 p)).length = rotl 1 (((y3 ^^^ y8) ^^^ y14) ^^^ y16)) := by
            unfold Hid nxt1; rw [HEL.out, ← ea3, ← ea8, ← ea14, ← ea16, ey3, ey8, ey14, ey16]
          rw [← ey3] at c3
          rw [← ey8] at c8
          rw [← ey14] at c14
          rw [← ey16] at c16
          have b3 : y3 < 4294967296 := by rw [ey3]; exact ext1_bound p n a3
          have b8 : y8 < 4294967296 := by rw [ey8]; exact ext1_bound p n a8
          have b14 : y14 < 4294967296 := by rw [ey14]; exact ext1_bound p n a14
          have b16 : y16 < 4294967296 := by rw [ey16]; exact ext1_bound p n a16
          obtain ⟨x1, ex1⟩ : ∃ x, x = y3 ^^^ y8 := ⟨_, rfl⟩
          obtain ⟨x2, ex2⟩ : ∃ x, x = x1 ^^^ y14 := ⟨_, rfl⟩
          obtain ⟨x3, ex3⟩ : ∃ x, x = x2 ^^^ y16 := ⟨_, rfl⟩
          have q1 : bits .xor .u32 (y3 : Int) (y8 : Int) = (x1 : Int) := by rw [ex1]; exact u32_xor_nat _ _ b3 b8
          have bx1 : x1 < 4294967296 := by rw [ex1]; exact xor_lt b3 b8
          have q2 : bits .xor .u32 (x1 : Int) (y14 : Int) = (x2 : Int) := by rw [ex2]; exact u32_xor_nat _ _ bx1 b14
          have bx2 : x2 < 4294967296 := by rw [ex2]; exact xor_lt bx1 b14
          have q3 : bits .xor .u32 (x2 : Int) (y16 : Int) = (x3 : Int) := by rw [ex3]; exact u32_xor_nat _ _ bx2 b16
          have bx3 : x3 < 4294967296 := by rw [ex3]; exact xor_lt bx2 b16
          rw [← ex1, ← ex2, ← ex3] at HNX
          generalize (ext1 n (words16 p) ++ List.replicate (64 - n) 0).getD M 0 = yM at *
          clear ey3 ey8 ey14 ey16 ex1 ex2 ex3 ea3 ea8 ea14 ea16 get
          have hr1 : bits .and .u64 (IntKind.u64.wrap 1) 31 = ((1 : Nat) : Int) := by decide
          have HR1 := hidMO hr1
          clear hr1
          go_wp2_with fail
          go_region_held3 (fun w' => w'.cell? ⟨w.heap.size + 1 + 1, a3, none⟩ = some (.int .u32 (y3 : Int)) ∧ w'.cell? ⟨w.heap.size + 1 + 1, a8, none⟩ = some (.int .u32 (y8 : Int)) ∧ w'.cell? ⟨w.heap.size + 1 + 1, a14, none⟩ = some (.int .u32 (y14 : Int)) ∧ w'.cell? ⟨w.heap.size + 1 + 1, a16, none⟩ = some (.int .u32 (y16 : Int))) (first | exact keep4 n3 n8 n14 n16 c3 c8 c14 c16 | go_keep)
            (first | (go_at_call 194; refine (rotate_any x3 1 1 _ bx3 (by decide) HR1.out).mono ?_; rintro e w' ⟨rfl, rfl⟩))
          have HS3 : Hid (Spr w (wr.setCell ⟨w.heap.size + 1 + 1, M, none⟩ (.int .u32 ((rotl 1 x3 : Nat) : Int))).drew 260 p Z80 (ext1 (n + 1) (words16 p) ++ List.replicate (64 - (n + 1)) 0)) := by
            have h2 := (HSP.out.set M (rotl 1 x3)).drewN 1
            rw [show 64 - n = (64 - (n + 1)) + 1 by omega] at h2
            have h3 := set_mid (ext1 n (words16 p)) (64 - (n + 1)) (rotl 1 x3)
            rw [HEL.out] at h3
            rw [h3] at h2
            have e4 : ext1 (n + 1) (words16 p) = ext1 n (words16 p) ++ [rotl 1 x3] := by rw [ext1_succ, HNX.out]
            unfold Hid
            rw [e4]
            exact h2
          go_wp2
          go_roundw
          case rel => exact ⟨n + 1, M + 1, by omega, by omega, by go_num, HS3.out⟩
          case measure => simp [intOf]; omega
        · have n64 : n = 64 := by omega
          subst n64
          have dM : ¬ (M : Int) < 80 := by omega
          have HS3 : Hid (Spr w wr 260 p Z80 (sched1 p)) := by
            have := HSP.out
            rw [show 64 - 64 = 0 from rfl, List.replicate_zero, List.append_nil] at this
            exact this
          clear HSP
          have HSL : Hid ((wordsV (sched1 p)).toArray.size = 80) := by
            unfold Hid; rw [List.size_toArray, wordsV_len]; unfold sched1; rw [ext1_len]; simp [words16]
          have hone := ones_words (sched1 p)
          have hrow : wr.heap[w.heap.size + 1 + 1]? = some (.cells (wordsV (sched1 p)).toArray 260 (0, 0)) := HS3.out.row
          have hres : wr.heap[w.heap.size + 1]? = some (.cells Z80V 260 (0, 0)) := HS3.out.res
          have HBEL : Hid (Below w.heap.size w (wr.setRow (w.heap.size + 1) (wordsV (sched1 p)).toArray)) := below_setRowS HS3.out.below (by omega)
          have HRES : Hid ((wr.setRow (w.heap.size + 1) (wordsV (sched1 p)).toArray).heap[w.heap.size + 1]? = some (.cells (wordsV (sched1 p)).toArray 260 (0, 0))) := setRow_heap wr (w.heap.size + 1) Z80V _ 260 _ hres
          obtain ⟨W, hW⟩ : ∃ W, W = (wordsV (sched1 p)).toArray := ⟨_, rfl⟩
          rw [← hW] at hrow HRES HBEL HSL hone
          have HW := hidMO hW
          have HROW := hidMO hrow
          have HRS := hidMO hres
          have HONE := hidMO hone
          clear hW hrow hres hone
          go_wp2_with (first
            | (refine wpList_load_row rfl 260 (.tmp 3) rfl _ rfl 260 W (0, 0) _ HROW.out Tryz.underlying260 rfl (by rw [HSL.out]; exact size83) ?_)
            | (refine wpList_store_row rfl 260 (.tmp 2) (.tmp 40) rfl _ W rfl rfl 260 Z80V HRS.out (by rw [HSL.out]; exact size83) (by rw [HSL.out]; rfl) HONE.out ?_))
          exact bodyPost_ret (v := .agg W) (results_cell_row Tryz.results192 _ _ (w.heap.size + 1) 260 W (0, 0) _ rfl HRES.out Tryz.underlying260 rfl (by rw [HSL.out]; exact size83)) rfl ⟨by rw [HW.out], HBEL.out⟩
theorem size33 : (Tryz.prog.info? 151).map (·.size) = some 64 := by kernel_rfl
theorem size31 : (Tryz.prog.info? 149).map (·.size) = some 5 := by kernel_rfl
theorem add_mod (a b : Nat) : ((a : Int) + (b : Int)) % 4294967296 = ((add32 a b : Nat) : Int) := by unfold add32; omega
theorem rot5 : bits .and .u64 (IntKind.u64.wrap 5) 31 = ((5 : Nat) : Int) := by decide
theorem rot30 : bits .and .u64 (IntKind.u64.wrap 30) 31 = ((30 : Nat) : Int) := by decide
theorem quiet_sum {P : Program} {f : FuncId} {args : Array Value} {w : World} {n x : Nat} {v : Value}
    (h : Calls P f args (w.drewN (n + x)) fun e w' => e = .returned v ∧ w' = w.drewN (n + x)) : Calls P f args (w.drewN (n + x)) fun e w'' => e = .returned v ∧ ∃ m, w'' = w.drewN (n + m) :=
  h.mono fun _ _ ⟨he, hm⟩ => ⟨he, x, hm⟩
theorem heap3_first (w : World) (a b c : Obj) : (((w.alloc a).alloc b).alloc c).heap[w.heap.size]? = some a := by
  rw [Below.heap_alloc _ _ _ (by simp; omega), Below.heap_alloc _ _ _ (by simp), _root_.Go.heap_alloc_new]
theorem heap3_last (w : World) (a b c : Obj) : (((w.alloc a).alloc b).alloc c).heap[w.heap.size + 1 + 1]? = some c := by
  have h := _root_.Go.heap_alloc_new ((w.alloc a).alloc b) c
  simpa using h
theorem heap3_below (w : World) (a b c : Obj) : Below w.heap.size w (((w.alloc a).alloc b).alloc c) :=
  (((Below.refl _ _).alloc (Nat.le_refl _) _).alloc (by simp) _).alloc (by simp; omega) _
theorem heap3_size (w : World) (a b c : Obj) : (((w.alloc a).alloc b).alloc c).heap.size = w.heap.size + 1 + 1 + 1 := by simp
set_option maxRecDepth 100000 in
set_option maxHeartbeats 1600000 in
set_option maxRecDepth 100000 in
theorem mix1_any (a0 b0 c0 d0 e0 : Nat) (p : List UInt8) (w : World) (hp : p.length = 64) (ha : a0 < 4294967296) (hb : b0 < 4294967296) (hc : c0 < 4294967296) (hd : d0 < 4294967296) (he : e0 < 4294967296) :
    Calls Tryz.prog 144 #[.agg (wordsV [a0, b0, c0, d0, e0]).toArray, .agg (bytesVO p).toArray] w fun e w' => e = .returned (.agg (wordsV (mixL1 [a0, b0, c0, d0, e0] p)).toArray) ∧ Below w.heap.size w w' := by
  have hz := zero83
  have HP := hidMO hp
  obtain ⟨C, hC⟩ : ∃ C, C = (bytesVO p).toArray := ⟨_, rfl⟩
  have HCS : Hid (C.size = 64) := by unfold Hid; rw [hC, List.size_toArray, bytesV_lenO, hp]
  have HC := hidMO hC
  rw [← hC]
  show Calls Tryz.prog 144 #[.agg #[.int .u32 (a0 : Int), .int .u32 (b0 : Int), .int .u32 (c0 : Int), .int .u32 (d0 : Int), .int .u32 (e0 : Int)], .agg C] w _
  clear hC hp
  go_enter Tryz.func144, Tryz.ntmps144
  go_wp2_with (first
    | (refine wpList_load_row rfl 151 (.tmp 3) rfl (w.heap.size + 1) rfl 151 C (0, 0) _ ?g1 Tryz.underlying151 rfl (by rw [HCS.out]; exact size33) ?_))
  case g1 =>
    rw [Below.heap_alloc _ _ _ (by simp)]
    have h := _root_.Go.heap_alloc_new (w.alloc (.cells #[.int .u32 (a0 : Int), .int .u32 (b0 : Int), .int .u32 (c0 : Int), .int .u32 (d0 : Int), .int .u32 (e0 : Int)] 149)) (.cells C 151)
    simpa using h
  have HH0 := hidMO (heap3_first w (.cells #[.int .u32 (a0 : Int), .int .u32 (b0 : Int), .int .u32 (c0 : Int), .int .u32 (d0 : Int), .int .u32 (e0 : Int)] 149) (.cells C 151) (.cells #[.int .u32 0, .int .u32 0, .int .u32 0, .int .u32 0, .int .u32 0] 149))
  have HR0 := hidMO (heap3_last w (.cells #[.int .u32 (a0 : Int), .int .u32 (b0 : Int), .int .u32 (c0 : Int), .int .u32 (d0 : Int), .int .u32 (e0 : Int)] 149) (.cells C 151) (.cells #[.int .u32 0, .int .u32 0, .int .u32 0, .int .u32 0, .int .u32 0] 149))
  have HB0 := hidMO (heap3_below w (.cells #[.int .u32 (a0 : Int), .int .u32 (b0 : Int), .int .u32 (c0 : Int), .int .u32 (d0 : Int), .int .u32 (e0 : Int)] 149) (.cells C 151) (.cells #[.int .u32 0, .int .u32 0, .int .u32 0, .int .u32 0, .int .u32 0] 149))
  have HZ0 := hidMO (heap3_size w (.cells #[.int .u32 (a0 : Int), .int .u32 (b0 : Int), .int .u32 (c0 : Int), .int .u32 (d0 : Int), .int .u32 (e0 : Int)] 149) (.cells C 151) (.cells #[.int .u32 0, .int .u32 0, .int .u32 0, .int .u32 0, .int .u32 0] 149))
  generalize ((w.alloc (.cells #[.int .u32 (a0 : Int), .int .u32 (b0 : Int), .int .u32 (c0 : Int), .int .u32 (d0 : Int), .int .u32 (e0 : Int)] 149)).alloc (.cells C 151)).alloc (.cells #[.int .u32 0, .int .u32 0, .int .u32 0, .int .u32 0, .int .u32 0] 149) = W0 at *
  rw [HC.out]
  refine (spread1_any p W0 HP.out).mono ?_
  rintro e w1 ⟨rfl, hb1⟩
  rw [← HC.out]
  have HSL : Hid ((wordsV (sched1 p)).toArray.size = 80) := by
    unfold Hid; rw [List.size_toArray, wordsV_len]; unfold sched1; rw [ext1_len]; simp [words16]
  have HONE := hidMO (ones_words (sched1 p))
  have HW2 : Hid (RowW ((w1.alloc (.cells Z80V 260)).setRow w1.heap.size (wordsV (sched1 p)).toArray) w1.heap.size 260 (sched1 p)) := setRow_heap _ _ Z80V _ 260 _ (_root_.Go.heap_alloc_new _ _)
  have sz1 : w.heap.size + 1 + 1 + 1 ≤ w1.heap.size := by have := hb1.size; have := HZ0.out; omega
  have other : ∀ k, k < w.heap.size + 1 + 1 + 1 → ((w1.alloc (.cells Z80V 260)).setRow w1.heap.size (wordsV (sched1 p)).toArray).heap[k]? = W0.heap[k]? := by
    intro k hk
    rw [setRow_other _ _ _ _ (by omega), Below.heap_alloc _ _ _ (by omega)]
    exact hb1.block k (by have := HZ0.out; omega)
  have HH2 : Hid (((w1.alloc (.cells Z80V 260)).setRow w1.heap.size (wordsV (sched1 p)).toArray).heap[w.heap.size]? = some (.cells #[.int .u32 (a0 : Int), .int .u32 (b0 : Int), .int .u32 (c0 : Int), .int .u32 (d0 : Int), .int .u32 (e0 : Int)] 149)) := (other _ (by omega)).trans HH0.out
  have HR2 : Hid (((w1.alloc (.cells Z80V 260)).setRow w1.heap.size (wordsV (sched1 p)).toArray).heap[w.heap.size + 1 + 1]? = some (.cells #[.int .u32 0, .int .u32 0, .int .u32 0, .int .u32 0, .int .u32 0] 149)) := (other _ (by omega)).trans HR0.out
  have HB2 : Hid (Below w.heap.size w ((w1.alloc (.cells Z80V 260)).setRow w1.heap.size (wordsV (sched1 p)).toArray)) := by
    refine below_setRowS ?_ (by omega)
    exact (HB0.out.trans (hb1.mono HB0.out.size)).alloc (by omega) _
  obtain ⟨CW, hCW⟩ : ∃ W, W = (wordsV (sched1 p)).toArray := ⟨_, rfl⟩
  rw [← hCW] at HSL HONE HW2 HH2 HR2 HB2 ⊢
  clear hCW other hb1 HH0 HR0 HB0 HZ0
  have HNEW : Hid ((w1.alloc (.cells Z80V 260)).heap[w1.heap.size]? = some (.cells Z80V 260)) := _root_.Go.heap_alloc_new _ _
  go_wp2_with (first
    | (refine wpList_store_row rfl 260 (.tmp 5) (.tmp 16) rfl w1.heap.size CW rfl rfl 260 Z80V HNEW.out (by rw [HSL.out]; exact size83) (by rw [HSL.out]; rfl) HONE.out ?_; generalize hWW : (w1.alloc (.cells Z80V 260)).setRow w1.heap.size CW = W2 at *))
  have q0 : W2.cell? ⟨w.heap.size, 0, none⟩ = some (.int .u32 (a0 : Int)) := by rw [cell_of_row W2 _ 0 _ 149 (0, 0) HH2.out]; rfl
  have q1 : W2.cell? ⟨w.heap.size, 1, none⟩ = some (.int .u32 (b0 : Int)) := by rw [cell_of_row W2 _ 1 _ 149 (0, 0) HH2.out]; rfl
  have q2 : W2.cell? ⟨w.heap.size, 2, none⟩ = some (.int .u32 (c0 : Int)) := by rw [cell_of_row W2 _ 2 _ 149 (0, 0) HH2.out]; rfl
  have q3 : W2.cell? ⟨w.heap.size, 3, none⟩ = some (.int .u32 (d0 : Int)) := by rw [cell_of_row W2 _ 3 _ 149 (0, 0) HH2.out]; rfl
  have q4 : W2.cell? ⟨w.heap.size, 4, none⟩ = some (.int .u32 (e0 : Int)) := by rw [cell_of_row W2 _ 4 _ 149 (0, 0) HH2.out]; rfl
  have HBD : Hid (∀ j, (sched1 p).getD j 0 < 4294967296) := fun j => ext1_bound p 64 j
  clear hWW HNEW HONE
  go_quiet (fail)
  go_wp2
  go_loopw [6, 7, 8, 9, 10, 11, 12, 13, 14] (fun va vb vc vd ve i _ _ _ wr => ∃ (k a b c d e n : Nat), k ≤ 80 ∧ i = .int .i64 (k : Int) ∧ va = .int .u32 (a : Int) ∧ vb = .int .u32 (b : Int) ∧ vc = .int .u32 (c : Int) ∧ vd = .int .u32 (d : Int) ∧ ve = .int .u32 (e : Int) ∧
      a < 4294967296 ∧ b < 4294967296 ∧ c < 4294967296 ∧ d < 4294967296 ∧ e < 4294967296 ∧ (a, b, c, d, e) = rounds1 (sched1 p) (a0, b0, c0, d0, e0) k ∧ wr = W2.drewN n) (fun _ _ _ _ _ i _ _ _ _ => 80 - (intOf i).toNat)
  case atStart => exact ⟨0, a0, b0, c0, d0, e0, _, by omega, rfl, rfl, rfl, rfl, rfl, rfl, ha, hb, hc, hd, he, rfl, rfl⟩
  case round =>
    obtain ⟨k, a, b, c, d, e, n, hk, rfl, rfl, rfl, rfl, rfl, rfl, la, lb, lc, ld, le, hr, rfl⟩ := hrel
    have HR := hidMO hr
    clear hr
    by_cases h80 : k < 80
    · have hx := HW2.out.cell k (by unfold sched1; rw [ext1_len]; simp [words16]; omega)
      have lx := HBD.out k
      have HF := hidMO (f1_lt k b c d lb lc ld)
      have HK := hidMO (k1_lt k)
      have HRA : Hid (rotl 5 a < 4294967296) := rotl_lt 5 a (by decide) la
      have HRB : Hid (rotl 30 b < 4294967296) := rotl_lt 30 b (by decide) lb
      have HST : Hid (((((((rotl 5 a + f1 k b c d) % 4294967296 + e) % 4294967296 + k1 k) % 4294967296) + (sched1 p).getD k 0) % 4294967296, a, rotl 30 b, c, d) = rounds1 (sched1 p) (a0, b0, c0, d0, e0) (k + 1)) := by
        unfold Hid; rw [rounds1_succ, ← HR.out]; rfl
      generalize (sched1 p).getD k 0 = x at *
      go_wp2_with fail
      refine (step1_any k b c d _ h80 lb lc ld).mono ?_
      rintro e' w' ⟨rfl, rfl⟩
      generalize f1 k b c d = ff at *
      generalize k1 k = kk at *
      go_wp2
      have k80 : (k : Int) < 80 := by omega
      go_quiet ((go_at_call 194; exact quiet_sum (rotate_any a 5 5 _ la (by decide) rot5)))
      generalize hra : rotl 5 a = ra at *
      go_wp2_with fail
      refine (rotate_any b 30 30 _ lb (by decide) rot30).mono ?_
      rintro e' w' ⟨rfl, rfl⟩
      generalize hrb : rotl 30 b = rb at *
      have HRA2 := hidMO hra
      have HRB2 := hidMO hrb
      clear hra hrb
      go_wp2
      go_roundw
      case rel => exact ⟨k + 1, _, a, rb, c, d, _, by omega, by go_num, val_intO (by have := HF.out; have := HK.out; have := HRA.out; omega), rfl, rfl, rfl, rfl, Nat.mod_lt _ (by decide), la, HRB.out, lc, ld, HST.out, rfl⟩
      case measure => simp [intOf]; omega
    · have k80 : k = 80 := by omega
      subst k80
      rw [show ((80 : Nat) : Int) = 80 from rfl]
      have HM : Hid (mixL1 [a0, b0, c0, d0, e0] p = [add32 a0 a, add32 b0 b, add32 c0 c, add32 d0 d, add32 e0 e]) := by
        unfold Hid mixL1
        show [add32 a0 (rounds1 (sched1 p) (a0, b0, c0, d0, e0) 80).1, add32 b0 (rounds1 (sched1 p) (a0, b0, c0, d0, e0) 80).2.1, add32 c0 (rounds1 (sched1 p) (a0, b0, c0, d0, e0) 80).2.2.1, add32 d0 (rounds1 (sched1 p) (a0, b0, c0, d0, e0) 80).2.2.2.1, add32 e0 (rounds1 (sched1 p) (a0, b0, c0, d0, e0) 80).2.2.2.2] = _
        rw [← HR.out]
      have HBN : Hid (Below w.heap.size w (W2.drewN n)) := below_drewN HB2.out n
      have HRN : Hid ((W2.drewN n).heap[w.heap.size + 1 + 1]? = some (.cells #[.int .u32 0, .int .u32 0, .int .u32 0, .int .u32 0, .int .u32 0] 149)) := HR2.out
      have s0 := add_mod a0 a
      have s1 := add_mod b0 b
      have s2 := add_mod c0 c
      have s3 := add_mod d0 d
      have s4 := add_mod e0 e
      generalize add32 a0 a = x0 at *
      generalize add32 b0 b = x1 at *
      generalize add32 c0 c = x2 at *
      generalize add32 d0 d = x3 at *
      generalize add32 e0 e = x4 at *
      have HRS : Hid (((W2.drewN n).setRow (w.heap.size + 1 + 1) (wordsV [x0, x1, x2, x3, x4]).toArray).heap[w.heap.size + 1 + 1]? = some (.cells (wordsV [x0, x1, x2, x3, x4]).toArray 149 (0, 0))) := setRow_heap _ _ _ _ 149 _ HRN.out
      have HBS : Hid (Below w.heap.size w ((W2.drewN n).setRow (w.heap.size + 1 + 1) (wordsV [x0, x1, x2, x3, x4]).toArray)) := below_setRowS HBN.out (by omega)
      go_wp2_with (first
        | (refine wpList_store_row rfl 149 (.tmp 4) (.tmp 77) rfl (w.heap.size + 1 + 1) #[.int .u32 (x0 : Int), .int .u32 (x1 : Int), .int .u32 (x2 : Int), .int .u32 (x3 : Int), .int .u32 (x4 : Int)] rfl rfl 149 #[.int .u32 0, .int .u32 0, .int .u32 0, .int .u32 0, .int .u32 0] HRN.out size31 rfl (ones_words [x0, x1, x2, x3, x4]) ?_))
      exact bodyPost_ret (v := .agg (wordsV [x0, x1, x2, x3, x4]).toArray) (results_cell_row Tryz.results144 _ _ (w.heap.size + 1 + 1) 149 _ (0, 0) _ rfl HRS.out Tryz.underlying149 rfl size31) rfl ⟨by rw [HM.out], HBS.out⟩
end Go.Proofs.YtlmeoahcpmikiaaGreatDoor
