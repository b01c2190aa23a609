/-
  Taken over from another program: HufM.
  Taken over from another program: BitM.
  Taken over from another program: RvM.
  Taken over from another program: HufX.
-/
import Derived.WalkKit
import Derived.Test.YtlmeoahcpmikiaaGreatDoorChecked
import Derived.Test.YtlmeoahcpmikiaaGreatDoorRows
import Derived.WalkSpells
import Derived.WalkLawsBesides
import Derived.Laws.IdiomStrings
import Derived.Laws.BitsAllLaws
import Derived.Deep.QuietTactic
import Derived.BigQuiet
import Derived.Deep.RegionHeld3
import Derived.Deep.MidRow
import Derived.OpenShut
import Derived.OwnWalk
import Derived.BigRegion
namespace Go.Proofs.YtlmeoahcpmikiaaGreatDoor
/-- How many of the first k lengths are n (n above 0). -/
def cnt (ln : Nat → Nat) (n : Nat) : Nat → Nat
  | 0 => 0
  | k + 1 => cnt ln n k + (if ln k = n ∧ 0 < n then 1 else 0)
theorem cnt_le (ln : Nat → Nat) (n k : Nat) : cnt ln n k ≤ k := by
  induction k with
  | zero => exact Nat.le_refl _
  | succ k ih => rw [cnt]; split <;> omega
theorem cnt_mono (ln : Nat → Nat) (n : Nat) {i k : Nat} (h : i ≤ k) : cnt ln n i ≤ cnt ln n k := by
  induction k with
  | zero => have : i = 0 := by omega
            subst this; exact Nat.le_refl _
  | succ k ih =>
    rcases Nat.lt_or_ge k i with hk | hk
    · have : i = k + 1 := by omega
      subst this; exact Nat.le_refl _
    · have := ih hk; rw [cnt]; omega
theorem cnt_lt (ln : Nat → Nat) {s k : Nat} (h : s < k) (h0 : 0 < ln s) : cnt ln (ln s) s < cnt ln (ln s) k := by
  have h1 := cnt_mono ln (ln s) h
  rw [cnt, if_pos ⟨rfl, h0⟩] at h1
  omega
theorem cnt_zero (ln : Nat → Nat) (k : Nat) : cnt ln 0 k = 0 := by
  induction k with
  | zero => rfl
  | succ k ih => rw [cnt, ih, if_neg (by omega)]
/-- The first code of length n; where its symbols begin. -/
def fstC (ln : Nat → Nat) (L : Nat) : Nat → Nat
  | 0 => 0
  | n + 1 => 2 * (fstC ln L n + cnt ln n L)
def atC (ln : Nat → Nat) (L : Nat) : Nat → Nat
  | 0 => 0
  | n + 1 => atC ln L n + cnt ln n L
/-- The sum over the lengths up to n, in parts of 2^-15. -/
def kr (ln : Nat → Nat) (L : Nat) : Nat → Nat
  | 0 => 0
  | n + 1 => kr ln L n + cnt ln (n + 1) L * 2 ^ (15 - (n + 1))
theorem kr_mono (ln : Nat → Nat) (L : Nat) {i k : Nat} (h : i ≤ k) : kr ln L i ≤ kr ln L k := by
  induction k with
  | zero => have : i = 0 := by omega
            subst this; exact Nat.le_refl _
  | succ k ih =>
    rcases Nat.lt_or_ge k i with hk | hk
    · have : i = k + 1 := by omega
      subst this; exact Nat.le_refl _
    · have := ih hk; rw [kr]; omega
theorem fst_kr (ln : Nat → Nat) (L n : Nat) (hn : n ≤ 14) : (fstC ln L n + cnt ln n L) * 2 ^ (15 - n) = kr ln L n := by
  induction n with
  | zero => simp [fstC, kr, cnt_zero]
  | succ n ih =>
    have h1 := ih (by omega)
    rw [fstC, kr, Nat.add_mul, ← h1]
    congr 1
    rw [show 15 - n = (15 - (n + 1)) + 1 by omega, Nat.pow_succ, Nat.mul_comm 2, Nat.mul_assoc, Nat.mul_comm 2]
theorem fst_kr15 (ln : Nat → Nat) (L : Nat) : fstC ln L 15 + cnt ln 15 L = kr ln L 15 := by
  have h := fst_kr ln L 14 (by decide)
  rw [kr, ← h, fstC]
  simp
  omega
theorem fst_kr_all (ln : Nat → Nat) (L n : Nat) (hn : n ≤ 15) : (fstC ln L n + cnt ln n L) * 2 ^ (15 - n) = kr ln L n := by
  rcases Nat.lt_or_ge 14 n with h | h
  · have : n = 15 := by omega
    subst this
    rw [← fst_kr15]; simp
  · exact fst_kr ln L n h
/-- Codes of length n are below 2^n. -/
theorem code_fits (ln : Nat → Nat) (L n : Nat) (hn : n ≤ 15) (h : kr ln L 15 ≤ 32768) : fstC ln L n + cnt ln n L ≤ 2 ^ n := by
  have h1 := fst_kr_all ln L n hn
  have h2 := kr_mono ln L hn
  have h3 : 32768 = 2 ^ n * 2 ^ (15 - n) := by rw [← Nat.pow_add, show n + (15 - n) = 15 by omega]
  have h4 : (fstC ln L n + cnt ln n L) * 2 ^ (15 - n) ≤ 2 ^ n * 2 ^ (15 - n) := by rw [h1, ← h3]; omega
  exact Nat.le_of_mul_le_mul_right h4 (Nat.pow_pos (by decide))
/-- The first code of a longer length is behind all of a shorter one. -/
theorem fst_behind (ln : Nat → Nat) (L m k : Nat) (hm : m < k) (hk : k ≤ 15) : (fstC ln L m + cnt ln m L) * 2 ^ (k - m) ≤ fstC ln L k := by
  have h1 := fst_kr_all ln L m (by omega)
  obtain ⟨j, rfl⟩ : ∃ j, k = j + 1 := ⟨k - 1, by omega⟩
  have h2 := fst_kr ln L j (by omega)
  have h3 := kr_mono ln L (show m ≤ j by omega)
  have e1 : fstC ln L (j + 1) * 2 ^ (15 - (j + 1)) = kr ln L j := by
    rw [← h2, fstC, show 15 - j = (15 - (j + 1)) + 1 by omega, Nat.pow_succ, Nat.mul_comm 2, Nat.mul_assoc, Nat.mul_comm 2]
  have e2 : (fstC ln L m + cnt ln m L) * 2 ^ (j + 1 - m) * 2 ^ (15 - (j + 1)) = kr ln L m := by
    rw [← h1, Nat.mul_assoc, ← Nat.pow_add]
    congr 2
    omega
  refine Nat.le_of_mul_le_mul_right ?_ (Nat.pow_pos (n := 15 - (j + 1)) (show 0 < 2 by decide))
  rw [e1, e2]
  exact h3
/-- A symbol's code. -/
def codeC (ln : Nat → Nat) (L s : Nat) : Nat := if ln s = 0 then 0 else fstC ln L (ln s) + cnt ln (ln s) s
theorem codeC_lt (ln : Nat → Nat) (L s : Nat) (hs : s < L) (hl : ln s ≤ 15) (h : kr ln L 15 ≤ 32768) : codeC ln L s < 2 ^ ln s := by
  unfold codeC
  split
  · exact Nat.pow_pos (by decide)
  · have := code_fits ln L (ln s) hl h
    have := cnt_lt ln hs (by omega)
    omega
theorem codeC_apart (ln : Nat → Nat) (L s x : Nat) (hx : x < L) (hl : ln s ≤ 15) (h0 : 0 < ln x) (hlt : ln x < ln s) : codeC ln L s / 2 ^ (ln s - ln x) ≠ codeC ln L x := by
  have h1 := fst_behind ln L (ln x) (ln s) hlt hl
  have h2 := cnt_lt ln hx h0
  have h3 : fstC ln L (ln x) + cnt ln (ln x) L ≤ codeC ln L s / 2 ^ (ln s - ln x) := by
    rw [Nat.le_div_iff_mul_le (Nat.pow_pos (by decide))]
    refine Nat.le_trans h1 ?_
    unfold codeC
    rw [if_neg (by omega)]
    omega
  have h4 : codeC ln L x = fstC ln L (ln x) + cnt ln (ln x) x := by unfold codeC; rw [if_neg (by omega)]
  omega
theorem codeC_rise (ln : Nat → Nat) (L s x : Nat) (hx : x < s) (he : ln x = ln s) (h0 : 0 < ln x) : codeC ln L x < codeC ln L s := by
  have h2 := cnt_lt ln hx h0
  unfold codeC
  rw [if_neg (by omega), if_neg (by omega), ← he]
  omega
end Go.Proofs.YtlmeoahcpmikiaaGreatDoor
namespace Go.Proofs.YtlmeoahcpmikiaaGreatDoor
def le : List UInt8 → Nat
  | [] => 0
  | b :: l => b.toNat + 256 * le l
theorem byte_lt (b : UInt8) : b.toNat < 256 := b.toNat_lt
theorem le_lt : ∀ l : List UInt8, le l < 256 ^ l.length
  | [] => by simp [le]
  | b :: l => by
    have := le_lt l
    have := byte_lt b
    rw [le, List.length_cons, Nat.pow_succ]
    omega
theorem le_app : ∀ l m : List UInt8, le (l ++ m) = le l + 256 ^ l.length * le m
  | [], m => by simp [le]
  | b :: l, m => by
    rw [List.cons_append, le, le, le_app l m, List.length_cons, Nat.pow_succ, Nat.mul_add, ← Nat.mul_assoc, Nat.mul_comm 256 (256 ^ l.length)]
    omega
theorem le_take (l : List UInt8) (k : Nat) : le (l.take k) = le l % 256 ^ k := by
  by_cases hk : k ≤ l.length
  · have h := le_app (l.take k) (l.drop k)
    rw [List.take_append_drop, List.length_take, Nat.min_eq_left hk] at h
    have h2 := le_lt (l.take k)
    rw [List.length_take, Nat.min_eq_left hk] at h2
    rw [h, Nat.add_mul_mod_self_left, Nat.mod_eq_of_lt h2]
  · rw [List.take_of_length_le (by omega), Nat.mod_eq_of_lt]
    exact Nat.lt_of_lt_of_le (le_lt l) (Nat.pow_le_pow_right (by decide) (by omega))
theorem le_drop (l : List UInt8) (k : Nat) : le (l.drop k) = le l / 256 ^ k := by
  by_cases hk : k ≤ l.length
  · have h := le_app (l.take k) (l.drop k)
    rw [List.take_append_drop, List.length_take, Nat.min_eq_left hk] at h
    have h2 := le_lt (l.take k)
    rw [List.length_take, Nat.min_eq_left hk] at h2
    rw [h, Nat.add_mul_div_left _ _ (Nat.pow_pos (by decide)), Nat.div_eq_of_lt h2, Nat.zero_add]
  · rw [List.drop_of_length_le (by omega), Nat.div_eq_of_lt]
    · rfl
    · exact Nat.lt_of_lt_of_le (le_lt l) (Nat.pow_le_pow_right (by decide) (by omega))
theorem le_snoc (l : List UInt8) (k : Nat) (h : k < l.length) : le (l.take (k + 1)) = le (l.take k) + 256 ^ k * l[k].toNat := by
  rw [List.take_succ_eq_append_getElem h, le_app, List.length_take, Nat.min_eq_left (by omega)]
  simp [le]
theorem pow256 (k : Nat) : 256 ^ k = 2 ^ (8 * k) := by rw [Nat.pow_mul]
/-- The k bits from place t on, as a number, the first the lowest. -/
def bitsN (l : List UInt8) (t k : Nat) : Nat := le l / 2 ^ t % 2 ^ k
theorem bitsN_lt (l : List UInt8) (t k : Nat) : bitsN l t k < 2 ^ k := Nat.mod_lt _ (Nat.pow_pos (by decide))
/-- What Peek adds up, cut to its bits, is the bits that stand there. -/
theorem peek_bits (l : List UInt8) (a g j n : Nat) (h : g + n ≤ 8 * j) : le ((l.drop a).take j) / 2 ^ g % 2 ^ n = bitsN l (8 * a + g) n := by
  unfold bitsN
  rw [le_take, le_drop, pow256, pow256]
  have e1 : 2 ^ (8 * j) = 2 ^ g * 2 ^ (8 * j - g) := by rw [← Nat.pow_add]; congr 1; omega
  rw [e1, Nat.mod_mul_right_div_self, Nat.div_div_eq_div_mul, ← Nat.pow_add]
  have e2 : 2 ^ (8 * j - g) = 2 ^ n * 2 ^ (8 * j - g - n) := by rw [← Nat.pow_add]; congr 1; omega
  rw [e2, Nat.mod_mul_right_mod]
theorem or_add (x b s : Nat) (hx : x < 2 ^ s) : x ||| b * 2 ^ s = x + 2 ^ s * b := by
  rw [Nat.or_comm, Nat.mul_comm b, ← Nat.two_pow_add_eq_or_of_lt hx, Nat.add_comm]
theorem and_mask (x n : Nat) : x &&& (2 ^ n - 1) = x % 2 ^ n := Nat.and_two_pow_sub_one_eq_mod x n
end Go.Proofs.YtlmeoahcpmikiaaGreatDoor
namespace Go.Proofs.YtlmeoahcpmikiaaGreatDoor
/-- The first n bits of V, the first the highest. -/
def rv (V : Nat) : Nat → Nat
  | 0 => 0
  | n + 1 => 2 * rv V n + V / 2 ^ n % 2
theorem rv_lt (V n : Nat) : rv V n < 2 ^ n := by
  induction n with
  | zero => rw [rv]; decide
  | succ n ih => rw [rv, Nat.pow_succ]; have := Nat.mod_lt (V / 2 ^ n) (show 0 < 2 by decide); omega
theorem bit_mod (V k i : Nat) (h : i < k) : V % 2 ^ k / 2 ^ i % 2 = V / 2 ^ i % 2 := by
  rw [show 2 ^ k = 2 ^ i * 2 ^ (k - i) by rw [← Nat.pow_add]; congr 1; omega, Nat.mod_mul_right_div_self, show 2 ^ (k - i) = 2 * 2 ^ (k - i - 1) by rw [Nat.mul_comm, ← Nat.pow_succ]; congr 1; omega, Nat.mod_mul_right_mod]
theorem rv_mod (V k n : Nat) (h : n ≤ k) : rv (V % 2 ^ k) n = rv V n := by
  induction n with
  | zero => rfl
  | succ n ih => rw [rv, rv, ih (by omega), bit_mod V k n (by omega)]
/-- The bits so far are a code of length n. -/
def Hit (ln : Nat → Nat) (L V n : Nat) : Prop := fstC ln L n ≤ rv V n ∧ rv V n < fstC ln L n + cnt ln n L
theorem cnt_at (ln : Nat → Nat) (n i : Nat) : ∀ L, i < cnt ln n L → ∃ s, s < L ∧ ln s = n ∧ 0 < n ∧ cnt ln n s = i
  | 0, h => by simp [cnt] at h
  | L + 1, h => by
    by_cases hi : i < cnt ln n L
    · obtain ⟨s, h1, h2⟩ := cnt_at ln n i L hi
      exact ⟨s, by omega, h2⟩
    · rw [cnt] at h
      by_cases hc : ln L = n ∧ 0 < n
      · rw [if_pos hc] at h
        exact ⟨L, by omega, hc.1, hc.2, by omega⟩
      · rw [if_neg hc] at h; omega
theorem hit_of (ln : Nat → Nat) (L V s : Nat) (hs : s < L) (h0 : 0 < ln s) (h : rv V (ln s) = codeC ln L s) : Hit ln L V (ln s) := by
  have h1 := cnt_lt ln hs h0
  unfold codeC at h
  rw [if_neg (by omega)] at h
  unfold Hit
  omega
def lgs (ln : Nat → Nat) : Nat → Nat
  | 0 => 0
  | k + 1 => max (lgs ln k) (ln k)
theorem lgs_le (ln : Nat → Nat) (m : Nat) (h : ∀ i, ln i ≤ m) (k : Nat) : lgs ln k ≤ m := by
  induction k with
  | zero => exact Nat.zero_le _
  | succ k ih => have := h k; rw [lgs]; omega
theorem lgs_ge (ln : Nat → Nat) (k i : Nat) (h : i < k) : ln i ≤ lgs ln k := by
  induction k with
  | zero => omega
  | succ k ih =>
    rw [lgs]
    rcases Nat.lt_or_ge i k with hi | hi
    · have := ih hi; omega
    · have : i = k := by omega
      subst this; omega
theorem cnt_none (ln : Nat → Nat) (n k : Nat) (h : ∀ i, i < k → ln i < n) : cnt ln n k = 0 := by
  induction k with
  | zero => rfl
  | succ k ih =>
    have := h k (by omega)
    rw [cnt, ih (fun i hi => h i (by omega)), if_neg (by omega)]
theorem kr_flat (ln : Nat → Nat) (L m n : Nat) (hm : m ≤ n) (h : lgs ln L ≤ m) : kr ln L n = kr ln L m := by
  induction n with
  | zero => have : m = 0 := by omega
            subst this; rfl
  | succ n ih =>
    rcases Nat.lt_or_ge n m with hn | hn
    · have : m = n + 1 := by omega
      subst this; rfl
    · rw [kr, ih hn, cnt_none ln (n + 1) L (fun i hi => by have := lgs_ge ln L i hi; omega), Nat.zero_mul, Nat.add_zero]
def Fit (ln : Nat → Nat) (L : Nat) : Prop := kr ln L 15 = 32768 ∨ lgs ln L = 0 ∨ (lgs ln L = 1 ∧ cnt ln 1 L = 1)
theorem Fit.le {ln : Nat → Nat} {L : Nat} (h : Fit ln L) : kr ln L 15 ≤ 32768 := by
  rcases h with h | h | ⟨h, h1⟩
  · omega
  · rw [kr_flat ln L 0 15 (by decide) (by omega)]
    exact Nat.zero_le _
  · rw [kr_flat ln L 1 15 (by decide) (by omega), kr, kr, h1]
    decide
end Go.Proofs.YtlmeoahcpmikiaaGreatDoor
namespace Go.Proofs.YtlmeoahcpmikiaaGreatDoor
open Go.RowKit
set_option maxRecDepth 100000 in
theorem hidM {p : Prop} (h : p) : Hid p := h
set_option maxRecDepth 100000 in
theorem ret_int {k : IntKind} {a b : Int} (h : a = b) : Ending.returned (.int k a) = .returned (.int k b) := by rw [h]
set_option maxRecDepth 100000 in
theorem val_int {k : IntKind} {a b : Int} (h : a = b) : Value.int k a = .int k b := by rw [h]
set_option maxRecDepth 100000 in
theorem ret_two {k l : IntKind} {a b c d : Int} (h : a = b) (g : c = d) : Ending.returned (.tuple #[.int k a, .int l c]) = .returned (.tuple #[.int k b, .int l d]) := by rw [h, g]
set_option maxRecDepth 100000 in
theorem below_set {B b o : Nat} {a w : World} {v : Value} (h : Below B a w) (hb : B ≤ b) : Below B a (w.setCell ⟨b, o, none⟩ v) :=
  h.trans ⟨rfl, rfl, rfl, by simp, fun k hk => Below.heap_setCell w ⟨b, o, none⟩ v k (by simp; omega)⟩
/-- A row of numbers that is an argument. -/
def IntsAt (w : World) (a : Option Addr) (len : Nat) (k : IntKind) (f : Nat → Int) : Prop :=
  len ≤ maxLen ∧ (∀ i, (Lit.int k (f i)).wf = true) ∧ (len = 0 ∨ ∃ b off, a = some ⟨b, off, none⟩ ∧ ∀ i, i < len → w.cell? ⟨b, off + i, none⟩ = some (.int k (f i)))
set_option maxRecDepth 100000 in
theorem IntsAt.below {w w' : World} {a : Option Addr} {len : Nat} {k : IntKind} {f : Nat → Int} (h : IntsAt w a len k f) (hb : Below w.heap.size w w') : IntsAt w' a len k f := by
  refine ⟨h.1, h.2.1, ?_⟩
  rcases h.2.2 with h0 | ⟨b, off, rfl, hc⟩
  · exact .inl h0
  · exact .inr ⟨b, off, rfl, fun i hi => (hb.cell (p := ⟨b, off + i, none⟩) (World.block_lt_of_cell? w _ (hc i hi))).trans (hc i hi)⟩
set_option maxRecDepth 100000 in
theorem IntsAt.get {w : World} {a : Option Addr} {len : Nat} {k : IntKind} {f : Nat → Int} (h : IntsAt w a len k f) (i : Nat) (hi : i < len) : ∃ b off, a = some ⟨b, off, none⟩ ∧ w.cell? ⟨b, off + i, none⟩ = some (.int k (f i)) := by
  rcases h.2.2 with h0 | ⟨b, off, rfl, hc⟩
  · omega
  · exact ⟨b, off, rfl, hc i hi⟩
/-- Of all memory block b alone may have turned; no block is new. -/
structure Only (b : Nat) (w w' : World) : Prop where
  os : w'.os = w.os
  tape : w'.tape = w.tape
  output : w'.output = w.output
  size : w'.heap.size = w.heap.size
  block : ∀ k, k ≠ b → w'.heap[k]? = w.heap[k]?
set_option maxRecDepth 100000 in
theorem Only.refl (b : Nat) (w : World) : Only b w w := ⟨rfl, rfl, rfl, rfl, fun _ _ => rfl⟩
set_option maxRecDepth 100000 in
theorem Only.trans {b : Nat} {u v w : World} (h : Only b u v) (k : Only b v w) : Only b u w :=
  ⟨k.os.trans h.os, k.tape.trans h.tape, k.output.trans h.output, k.size.trans h.size, fun i hi => (k.block i hi).trans (h.block i hi)⟩
set_option maxRecDepth 100000 in
theorem Only.drewN {b : Nat} {w w' : World} (h : Only b w w') (n : Nat) : Only b w (w'.drewN n) := ⟨h.os, h.tape, h.output, h.size, h.block⟩
set_option maxRecDepth 100000 in
theorem Only.setCell {b : Nat} {w w' : World} (h : Only b w w') (o : Nat) (v : Value) : Only b w (w'.setCell ⟨b, o, none⟩ v) :=
  ⟨h.os, h.tape, h.output, by simpa using h.size, fun k hk => (Below.heap_setCell w' ⟨b, o, none⟩ v k hk).trans (h.block k hk)⟩
set_option maxRecDepth 100000 in
theorem Only.below {b B : Nat} {w w' : World} (h : Only b w w') (hB : B ≤ b) : Below B w w' :=
  ⟨h.os, h.tape, h.output, by rw [h.size]; exact Nat.le_refl _, fun k hk => h.block k (by omega)⟩
set_option maxRecDepth 100000 in
theorem IntsAt.only {w w' : World} {a : Option Addr} {len b : Nat} {k : IntKind} {f : Nat → Int} (h : IntsAt w a len k f) (ho : Only b w w') (hab : 0 < len → ∀ bb o, a = some ⟨bb, o, none⟩ → bb ≠ b) : IntsAt w' a len k f := by
  refine ⟨h.1, h.2.1, ?_⟩
  rcases h.2.2 with h0 | ⟨b', off, rfl, hc⟩
  · exact .inl h0
  · exact .inr ⟨b', off, rfl, fun i hi => (World.cell?_of_block (a := ⟨b', off + i, none⟩) (ho.block b' (hab (by omega) b' off rfl))).trans (hc i hi)⟩
/-- The cells of a table's box, by a function. -/
def tabA (g : Nat → Value) : Array Value := ((List.range 51).map g).toArray
def upd (g : Nat → Value) (i : Nat) (v : Value) : Nat → Value := fun j => if j = i then v else g j
set_option maxRecDepth 100000 in
theorem tabA_get (g : Nat → Value) (i : Nat) (h : i < 51) : (tabA g)[i]? = some (g i) := by
  unfold tabA
  rw [List.getElem?_toArray, List.getElem?_map, List.getElem?_range h]; rfl
set_option maxRecDepth 100000 in
theorem tabA_set (g : Nat → Value) (i : Nat) (v : Value) : (tabA g).setIfInBounds i v = tabA (upd g i v) := by
  unfold tabA
  rw [List.setIfInBounds_toArray]
  congr 1
  apply List.ext_getElem?
  intro j
  rw [List.getElem?_set]
  by_cases hj : j < 51
  · rw [List.getElem?_map, List.getElem?_map, List.getElem?_range hj]
    by_cases he : i = j
    · subst he; simp [upd, hj]
    · have : j ≠ i := fun h => he h.symm
      simp [he, upd, this]
  · have h1 : ((List.range 51).map g)[j]? = none := List.getElem?_eq_none (by simp; omega)
    have h2 : ((List.range 51).map (upd g i v))[j]? = none := List.getElem?_eq_none (by simp; omega)
    rw [h1, h2]
    by_cases he : i = j
    · subst he; simp; omega
    · simp [he]
/-- A table's box at b. -/
def TBox (w : World) (b : Nat) (g : Nat → Value) : Prop := w.heap[b]? = some (.cells (tabA g) 308 (0, 0))
set_option maxRecDepth 100000 in
theorem TBox.cell {w : World} {b : Nat} {g : Nat → Value} (h : TBox w b g) (i : Nat) (hi : i < 51) : w.cell? ⟨b, i, none⟩ = some (g i) := by
  rw [cell_of_row w b _ _ 308 (0, 0) h, tabA_get g i hi]
set_option maxRecDepth 100000 in
theorem TBox.fz {w : World} {b : Nat} {g : Nat → Value} (h : TBox w b g) (i : Nat) : w.frozen? ⟨b, i, none⟩ = false := frozen_of_row w b i _ 308 h
set_option maxRecDepth 100000 in
theorem TBox.set {w : World} {b : Nat} {g : Nat → Value} (h : TBox w b g) (i : Nat) (v : Value) : TBox (w.setCell ⟨b, i, none⟩ v) b (upd g i v) := by
  unfold TBox
  rw [heap_setCell_same w b _ _ 308 _ h, tabA_set]
set_option maxRecDepth 100000 in
theorem TBox.lt {w : World} {b : Nat} {g : Nat → Value} (h : TBox w b g) : b < w.heap.size := (Array.getElem?_eq_some_iff.1 h).1
set_option maxRecDepth 100000 in
theorem TBox.same {w w' : World} {b : Nat} {g : Nat → Value} (h : TBox w b g) (hh : w'.heap[b]? = w.heap[b]?) : TBox w' b g := by unfold TBox; rw [hh]; exact h
set_option maxRecDepth 100000 in
theorem upd_same (g : Nat → Value) (i : Nat) (v : Value) : upd g i v i = v := by simp [upd]
set_option maxRecDepth 100000 in
theorem upd_other (g : Nat → Value) (i j : Nat) (v : Value) (h : j ≠ i) : upd g i v j = g j := by simp [upd, h]
/-- The rows of a table: the first code, how many, where the symbols begin. -/
def RowsAre (g : Nat → Value) (f c a : Nat → Nat) : Prop := ∀ n, n < 16 → g (n * 3) = .int .u32 (f n : Int) ∧ g (n * 3 + 1) = .int .u32 (c n : Int) ∧ g (n * 3 + 2) = .int .u32 (a n : Int)
set_option maxRecDepth 100000 in
theorem RowsAre.setC {g : Nat → Value} {f c a c' : Nat → Nat} (h : RowsAre g f c a) (n : Nat) (hc : ∀ m, m < 16 → m ≠ n → c' m = c m) : RowsAre (upd g (n * 3 + 1) (.int .u32 (c' n : Int))) f c' a := by
  intro m hm
  obtain ⟨h1, h2, h3⟩ := h m hm
  refine ⟨by rw [upd_other _ _ _ _ (by omega)]; exact h1, ?_, by rw [upd_other _ _ _ _ (by omega)]; exact h3⟩
  by_cases he : m = n
  · subst he; rw [upd_same]
  · rw [upd_other _ _ _ _ (by omega), h2, hc m hm he]
set_option maxRecDepth 100000 in
theorem RowsAre.far {g : Nat → Value} {f c a : Nat → Nat} (h : RowsAre g f c a) (i : Nat) (hi : 48 ≤ i) (v : Value) : RowsAre (upd g i v) f c a := by
  intro m hm
  obtain ⟨h1, h2, h3⟩ := h m hm
  exact ⟨by rw [upd_other _ _ _ _ (by omega)]; exact h1, by rw [upd_other _ _ _ _ (by omega)]; exact h2, by rw [upd_other _ _ _ _ (by omega)]; exact h3⟩
set_option maxRecDepth 100000 in
theorem cntS (ln : Nat → Nat) (k m : Nat) (h0 : 0 < ln k) : (fun n => cnt ln n (k + 1)) (ln k) = cnt ln (ln k) k + 1 ∧ (m ≠ ln k → (fun n => cnt ln n (k + 1)) m = cnt ln m k) := by
  refine ⟨?_, fun hm => ?_⟩
  · show cnt ln (ln k) (k + 1) = _
    rw [cnt, if_pos ⟨rfl, h0⟩]
  · show cnt ln m (k + 1) = _
    rw [cnt, if_neg (by omega)]; rfl
set_option maxHeartbeats 2000000 in
set_option maxRecDepth 100000 in
theorem count_any (b : Nat) (a : Option Addr) (len cap : Nat) (ln : Nat → Nat) (g : Nat → Value) (w : World) (hl : len ≤ 320) (hf : IntsAt w a len .i64 (fun i => (ln i : Int))) (h15 : ∀ i, ln i ≤ 15) (hb : TBox w b g) (hab : 0 < len → ∀ bb o, a = some ⟨bb, o, none⟩ → bb ≠ b)
    (hr : RowsAre g (fun _ => 0) (fun _ => 0) (fun _ => 0)) (hg : g 48 = .int .i64 0) :
    Calls Tryz.prog 257 #[.pointer (some ⟨b, 0, none⟩), .slice a len cap] w fun e w' => e = .returned (.tuple #[]) ∧ (∃ g', TBox w' b g' ∧ RowsAre g' (fun _ => 0) (fun n => cnt ln n len) (fun _ => 0) ∧ g' 48 = .int .i64 (lgs ln len : Int) ∧ g' 49 = g 49 ∧ g' 50 = g 50) ∧ Only b w w' := by
  have HF := hidM hf
  have HTB := hidM hb
  have HAB := hidM hab
  have HR := hidM hr
  have HG := hidM hg
  have H15 := hidM h15
  clear hf hb hab hr hg h15
  go_enter Tryz.func257, Tryz.ntmps257
  go_wp2
  go_loopw [5, 8] (fun _ i wr => ∃ (k : Nat) (g' : Nat → Value), k ≤ len ∧ i = .int .i64 k ∧ TBox wr b g' ∧ RowsAre g' (fun _ => 0) (fun n => cnt ln n k) (fun _ => 0) ∧ g' 48 = .int .i64 (lgs ln k : Int) ∧ g' 49 = g 49 ∧ g' 50 = g 50 ∧ Only b w wr) (fun _ i _ => len - (intOf i).toNat)
  case atStart => exact ⟨0, g, Nat.zero_le _, rfl, HTB.out, HR.out, HG.out, rfl, rfl, Only.refl _ _⟩
  case round =>
    obtain ⟨k, g', hk, rfl, htb, hro, hlg, e49, e50, hon⟩ := hrel
    have HB := hidM htb
    have HRO := hidM hro
    have HLG := hidM hlg
    have HE := hidM (And.intro e49 e50)
    have HO := hidM hon
    clear htb hro hlg e49 e50 hon
    by_cases hlt : k < len
    · obtain ⟨bb, off, rfl, hc⟩ := (HF.out.only HO.out HAB.out).get k hlt
      have hk15 := H15.out k
      have HCS : Hid (0 < ln k → ∀ m, (fun n => cnt ln n (k + 1)) (ln k) = cnt ln (ln k) k + 1 ∧ (m ≠ ln k → (fun n => cnt ln n (k + 1)) m = cnt ln m k)) := fun h m => cntS ln k m h
      have HLS : Hid (lgs ln (k + 1) = max (lgs ln k) (ln k)) := rfl
      have HCL : Hid (cnt ln (ln k) k ≤ k) := cnt_le ln (ln k) k
      have HL15 : Hid (lgs ln k ≤ 15) := lgs_le ln 15 H15.out k
      obtain ⟨n, hn⟩ : ∃ n, n = ln k := ⟨_, rfl⟩
      rw [← hn] at hc hk15 HCS HLS HCL
      have HN := hidM hn
      clear hn
      by_cases h0 : n = 0
      · subst h0
        have HC0 : Hid ((fun m => cnt ln m (k + 1)) = fun m => cnt ln m k) := by
          unfold Hid; funext m; rw [cnt, if_neg (by rw [← HN.out]; omega)]; rfl
        have HL0 : Hid (lgs ln (k + 1) = lgs ln k) := by unfold Hid; rw [HLS.out]; omega
        go_wp2
        go_roundw
        case rel => exact ⟨k + 1, g', by omega, by go_num, HB.out, by rw [HC0.out]; exact HRO.out, by rw [HL0.out]; exact HLG.out, HE.out.1, HE.out.2, HO.out⟩
        case measure => simp [intOf]; omega
      · have hpos : 0 < n := by omega
        have hcc := HB.out.cell (n * 3 + 1) (by omega)
        rw [(HRO.out n (by omega)).2.1] at hcc
        have hfz := HB.out.fz (n * 3 + 1)
        have b1 : (0 : Int) ≤ (n : Int) := by omega
        have b2 : (n : Int) < 16 := by omega
        obtain ⟨y, hy⟩ : ∃ y, y = cnt ln n k := ⟨_, rfl⟩
        have hcc2 : wr.cell? ⟨b, n * 3 + 1, none⟩ = some (.int .u32 (y : Int)) := by rw [hy]; exact hcc
        have y320 : y < 1000 := by have := HCL.out; omega
        have HY := hidM hy
        clear hcc hy
        go_wp2
        go_region
        have HT2 : Hid (TBox ((wr.setCell ⟨b, n * 3 + 1, none⟩ (.int .u32 ((y : Int) + 1))).drew) b (upd g' (n * 3 + 1) (.int .u32 ((y + 1 : Nat) : Int)))) := HB.out.set (n * 3 + 1) (.int .u32 ((y + 1 : Nat) : Int))
        have HO2 : Hid (Only b w ((wr.setCell ⟨b, n * 3 + 1, none⟩ (.int .u32 ((y : Int) + 1))).drew)) := (HO.out.setCell (n * 3 + 1) _).drewN 1
        have HR2 : Hid (RowsAre (upd g' (n * 3 + 1) (.int .u32 ((y + 1 : Nat) : Int))) (fun _ => 0) (fun m => cnt ln m (k + 1)) (fun _ => 0)) := by
          have h1 := HRO.out.setC (c' := fun m => cnt ln m (k + 1)) n (fun m _ hm => ((HCS.out hpos m).2 hm))
          rw [show cnt ln n (k + 1) = y + 1 by rw [HY.out]; exact (HCS.out hpos 0).1] at h1
          exact h1
        have H48 : Hid (upd g' (n * 3 + 1) (.int .u32 ((y + 1 : Nat) : Int)) 48 = .int .i64 (lgs ln k : Int)) := by unfold Hid; rw [upd_other _ _ _ _ (by omega)]; exact HLG.out
        have H49 : Hid (upd g' (n * 3 + 1) (.int .u32 ((y + 1 : Nat) : Int)) 49 = g 49 ∧ upd g' (n * 3 + 1) (.int .u32 ((y + 1 : Nat) : Int)) 50 = g 50) := by unfold Hid; rw [upd_other _ _ _ _ (by omega), upd_other _ _ _ _ (by omega)]; exact HE.out
        generalize (wr.setCell ⟨b, n * 3 + 1, none⟩ (.int .u32 ((y : Int) + 1))).drew = w2 at *
        generalize upd g' (n * 3 + 1) (.int .u32 ((y + 1 : Nat) : Int)) = g2 at *
        have l48 := HT2.out.cell 48 (by decide)
        rw [H48.out] at l48
        have f48 := HT2.out.fz 48
        obtain ⟨lg, hlg⟩ : ∃ lg, lg = lgs ln k := ⟨_, rfl⟩
        rw [← hlg] at l48
        have HLGG := hidM hlg
        obtain ⟨mx, hmx⟩ : ∃ mx, mx = max lg n := ⟨_, rfl⟩
        have emx : (if lg < n then (n : Int) else (lg : Int)) = (mx : Int) := by rw [hmx]; split <;> omega
        have HT3 : Hid (TBox (w2.setCell ⟨b, 48, none⟩ (.int .i64 (mx : Int))) b (upd g2 48 (.int .i64 (mx : Int)))) := HT2.out.set 48 _
        have HMX : Hid (mx = lgs ln (k + 1)) := by unfold Hid; rw [HLS.out, ← hlg, hmx]
        clear hcc2 hfz hc hlg hmx
        go_wp2
        go_roundw
        case rel => exact ⟨k + 1, _, by omega, by go_num, HT3.out, HR2.out.far 48 (by decide) _, by rw [upd_same, HMX.out], by rw [upd_other _ _ _ _ (by decide)]; exact H49.out.1, by rw [upd_other _ _ _ _ (by decide)]; exact H49.out.2, HO2.out.setCell _ _⟩
        case measure => simp [intOf]; omega
    · have HKL : Hid (k = len) := by unfold Hid; omega
      go_wp2
      refine bodyPost_end (results_none Tryz.results257 _ _ _) rfl ⟨rfl, ⟨g', HB.out, ?_, ?_, HE.out.1, HE.out.2⟩, HO.out⟩
      · have := HRO.out; rw [HKL.out] at this; exact this
      · have := HLG.out; rw [HKL.out] at this; exact this
/-- The cells of all rows. -/
def rowsV (g : Nat → Value) : List Value := (List.range 48).map g
set_option maxRecDepth 100000 in
theorem TBox.range {w : World} {b : Nat} {g : Nat → Value} (h : TBox w b g) : w.rangeAt b 0 (rowsV g) := by
  intro j v hv
  have hj : j < 48 := by
    have := (List.getElem?_eq_some_iff.1 hv).1
    simpa [rowsV] using this
  rw [Nat.zero_add, h.cell j (by omega)]
  unfold rowsV at hv
  rw [List.getElem?_map, List.getElem?_range hj] at hv
  simpa using hv
set_option maxRecDepth 100000 in
theorem rows_cut (g : Nat → Value) (k : Nat) (hk : k < 16) : ((rowsV g).toArray.extract (k * 3) (k * 3 + 3)) = #[g (k * 3), g (k * 3 + 1), g (k * 3 + 2)] := by
  apply Array.ext'
  unfold rowsV
  simp only [Array.toList_extract, List.extract_eq_take_drop]
  apply List.ext_getElem?
  intro j
  rw [List.getElem?_take]
  by_cases hj : j < 3
  · rw [if_pos (by omega), List.getElem?_drop, List.getElem?_map, List.getElem?_range (by omega)]
    match j, hj with
    | 0, _ => rfl
    | 1, _ => rfl
    | 2, _ => rfl
  · rw [if_neg (by omega)]
    simp
    omega
set_option maxRecDepth 100000 in
theorem info61 : (Tryz.prog.info? 304).map (·.size) = some 3 := by kernel_rfl
set_option maxRecDepth 100000 in
theorem index_rows (g : Nat → Value) (k : Nat) (hk : k < 16) (v : World) : (Instr.index 305 (.agg (rowsV g).toArray) (.int .i64 (k : Int))).run Tryz.prog v = .ok (.agg #[g (k * 3), g (k * 3 + 1), g (k * 3 + 2)]) v := by
  have h1 : (0 : Int) ≤ (k : Int) ∧ (k : Int) < (16 : Nat) := by omega
  have h5 : (sizeOf 304).run Tryz.prog v = .ok 3 v := by
    have hz := info61
    cases hq : Tryz.prog.info? 304 with
    | none => simp [hq] at hz
    | some i =>
      have hi : i.size = 3 := by simpa [hq] using hz
      simp [sizeOf, typeInfo, hq, hi]
  simp only [Instr.index, asIntOf, Sem.run_bind, Sem.run_pure, Result.andThen_ok, run_underlying Tryz.underlying305, if_pos h1, h5, Int.toNat_natCast]
  have hag : (isAgg 304).run Tryz.prog v = .ok true v := by simp [isAgg, run_underlying Tryz.underlying304]
  simp only [part, Sem.run_bind, hag, Result.andThen_ok, if_true, h5, Sem.run_pure, rows_cut g k hk]
set_option maxRecDepth 100000 in
theorem kr_le (ln : Nat → Nat) (L n : Nat) : kr ln L n ≤ n * (L * 32768) := by
  induction n with
  | zero => exact Nat.zero_le _
  | succ n ih =>
    rw [kr, Nat.add_mul, Nat.one_mul]
    have h1 := cnt_le ln (n + 1) L
    have h2 : 2 ^ (15 - (n + 1)) ≤ 2 ^ 15 := Nat.pow_le_pow_right (by decide) (by omega)
    have h3 : cnt ln (n + 1) L * 2 ^ (15 - (n + 1)) ≤ L * 2 ^ 15 := Nat.mul_le_mul h1 h2
    omega
set_option maxRecDepth 100000 in
theorem fit_step (ln : Nat → Nat) (L k : Nat) (hk : k < 16) (hL : L ≤ 320) : ∃ p x : Nat, (32768 : Int) / 2 ^ k = (p : Int) ∧ ((cnt ln k L : Nat) : Int) * (p : Int) = (x : Int) ∧ x ≤ 10485760 ∧ kr ln L (k - 1) + x = kr ln L (k + 1 - 1) ∧ kr ln L (k - 1) ≤ 167772160 := by
  have h1 := cnt_le ln k L
  have h2 : 2 ^ (15 - k) ≤ 2 ^ 15 := Nat.pow_le_pow_right (by decide) (by omega)
  have h3 : cnt ln k L * 2 ^ (15 - k) ≤ 320 * 2 ^ 15 := Nat.mul_le_mul (by omega) h2
  refine ⟨2 ^ (15 - k), cnt ln k L * 2 ^ (15 - k), ?_, by simp, by simpa using h3, ?_, ?_⟩
  · have e : (32768 : Nat) / 2 ^ k = 2 ^ (15 - k) := by
      rw [show (32768 : Nat) = 2 ^ (15 - k) * 2 ^ k by rw [← Nat.pow_add, show 15 - k + k = 15 by omega]]
      exact Nat.mul_div_cancel _ (Nat.pow_pos (by decide))
    rw [← e]; simp
  · rcases k with _ | k
    · simp [cnt_zero]
    · simp only [Nat.add_sub_cancel]
      rw [kr]
  · have h4 := kr_le ln L (k - 1)
    have h5 : (k - 1) * (L * 32768) ≤ 15 * (320 * 32768) := Nat.mul_le_mul (by omega) (Nat.mul_le_mul_right _ hL)
    omega
set_option maxRecDepth 100000 in
theorem size62 : (Tryz.prog.info? 305).map (·.size) = some 48 := by kernel_rfl
set_option maxHeartbeats 2000000 in
set_option maxRecDepth 100000 in
theorem fits_any (b : Nat) (ln : Nat → Nat) (len : Nat) (g : Nat → Value) (f a : Nat → Nat) (w : World) (hb : TBox w b g) (hr : RowsAre g f (fun n => cnt ln n len) a) (hl : len ≤ 320) (hlg : g 48 = .int .i64 (lgs ln len : Int)) (h15 : ∀ i, ln i ≤ 15) :
    Calls Tryz.prog 258 #[.pointer (some ⟨b, 0, none⟩)] w fun e w' => e = .returned (.bool (decide (kr ln len 15 = 32768 ∨ lgs ln len = 0 ∨ (lgs ln len = 1 ∧ cnt ln 1 len = 1)))) ∧ Below w.heap.size w w' := by
  have HB := hidM hb
  have c48 := hb.cell 48 (by decide)
  rw [hlg] at c48
  have HRG := hidM hb.range
  have HSZ : Hid ((Tryz.prog.info? 305).map (·.size) = some (rowsV g).length) := by unfold Hid; rw [show (rowsV g).length = 48 by simp [rowsV]]; exact size62
  have HIX := hidM (index_rows g)
  have HRR := hidM hr
  have c4 := hb.cell 4 (by decide)
  rw [(hr 1 (by decide)).2.1] at c4
  have HL1 : Hid (cnt ln 1 len ≤ len) := cnt_le ln 1 len
  have HLG : Hid (lgs ln len ≤ 15) := lgs_le ln 15 h15 len
  clear hb hr hlg h15
  generalize hV : decide (kr ln len 15 = 32768 ∨ lgs ln len = 0 ∨ (lgs ln len = 1 ∧ cnt ln 1 len = 1)) = V
  have HV := hidM hV
  clear hV
  go_enter Tryz.func258, Tryz.ntmps258
  go_wp2_with (first
    | (refine wpList_load_mid rfl 305 (.tmp 9) rfl b 0 rfl (rowsV g) _ HRG.out Tryz.underlying305 rfl HSZ.out ?_))
  generalize (rowsV g).toArray = R at *
  go_wp2
  go_loopw [3, 4, 5, 11] (fun sm _ _ i wr => ∃ k : Nat, k ≤ 16 ∧ i = .int .i64 k ∧ sm = .int .u32 (kr ln len (k - 1) : Int) ∧ Below w.heap.size w wr) (fun _ _ _ i _ => 16 - (intOf i).toNat)
  case atStart => exact ⟨0, by decide, rfl, rfl, Below.refl _ _⟩
  case round =>
    obtain ⟨k, hk, rfl, rfl, hbr⟩ := hrel
    have HBR := hidM hbr
    by_cases hlt : k < 16
    · have hix := HIX.out k hlt
      obtain ⟨r1, r2, r3⟩ := HRR.out k hlt
      have r2' : g (k * 3 + 1) = .int .u32 ((cnt ln k len : Nat) : Int) := r2
      rw [r1, r2', r3] at hix
      obtain ⟨p, x, hp, hx, hx2, hks, hkb⟩ := fit_step ln len k hlt hl
      have HKS := hidM hks
      have hcl := cnt_le ln k len
      generalize hc : cnt ln k len = c at *
      generalize kr ln len (k - 1) = sm at *
      have HB2 : Hid (Below w.heap.size w (wr.alloc (.cells #[.int .u32 (f k : Int), .int .u32 (c : Int), .int .u32 (a k : Int)] 304))) := hbr.alloc hbr.size _
      clear hks r1 r2 r2' r3 hc hbr
      go_wp2
      go_quiet (fail)
      go_wp2
      go_roundw
      case rel => exact ⟨k + 1, by omega, by go_num, val_int (by rw [← HKS.out]; omega), below_drewN HB2.out _⟩
      case measure => simp [intOf]; omega
    · have hks : k = 16 := by omega
      subst hks
      have d48 := (hbr.cell (p := ⟨b, 48, none⟩) HB.out.lt).trans c48
      have d4 := (hbr.cell (p := ⟨b, 4, none⟩) HB.out.lt).trans c4
      clear hbr c48 c4
      have e15 : kr ln len (16 - 1) = kr ln len 15 := rfl
      rw [e15]
      have hl1 := HL1.out
      have hlg := HLG.out
      generalize kr ln len 15 = S at *
      generalize lgs ln len = lg at *
      generalize cnt ln 1 len = c1 at *
      rcases (by omega : lg = 0 ∨ (lg = 1 ∧ c1 = 1) ∨ (lg = 1 ∧ c1 ≠ 1) ∨ 2 ≤ lg) with h0 | ⟨h0, h1⟩ | ⟨h0, h1⟩ | h0
      · subst h0
        have HVV : Hid (V = true) := by unfold Hid; rw [← HV.out]; simp
        by_cases hS : S = 32768
        · subst hS
          go_wp2
          go_ret
          exact ⟨by rw [HVV.out]; rfl, HBR.out⟩
        · have hSb : ((S : Int) == 32768) = false := by simp; omega
          go_wp2
          go_ret
          exact ⟨by rw [HVV.out]; rfl, HBR.out⟩
      · subst h0 h1
        have HVV : Hid (V = true) := by unfold Hid; rw [← HV.out]; simp
        by_cases hS : S = 32768
        · subst hS
          go_wp2
          go_ret
          exact ⟨by rw [HVV.out]; rfl, HBR.out⟩
        · have hSb : ((S : Int) == 32768) = false := by simp; omega
          go_wp2
          go_ret
          exact ⟨by rw [HVV.out]; rfl, HBR.out⟩
      · subst h0
        have hcb : ((c1 : Int) == 1) = false := by simp; omega
        by_cases hS : S = 32768
        · subst hS
          have HVV : Hid (V = true) := by unfold Hid; rw [← HV.out]; simp
          go_wp2
          go_ret
          exact ⟨by rw [HVV.out]; rfl, HBR.out⟩
        · have hSb : ((S : Int) == 32768) = false := by simp; omega
          have HVV : Hid (V = false) := by unfold Hid; rw [← HV.out]; simp [hS, h1]
          go_wp2
          go_ret
          exact ⟨by rw [HVV.out]; rfl, HBR.out⟩
      · have hgb : ((lg : Int) == 1) = false := by simp; omega
        have hgb0 : ((lg : Int) == 0) = false := by simp; omega
        by_cases hS : S = 32768
        · subst hS
          have HVV : Hid (V = true) := by unfold Hid; rw [← HV.out]; simp
          go_wp2
          go_ret
          exact ⟨by rw [HVV.out]; rfl, HBR.out⟩
        · have hSb : ((S : Int) == 32768) = false := by simp; omega
          have HVV : Hid (V = false) := by unfold Hid; rw [← HV.out]; simp [hS]; omega
          go_wp2
          go_ret
          exact ⟨by rw [HVV.out]; rfl, HBR.out⟩
set_option maxRecDepth 100000 in
theorem RowsAre.setFA {g : Nat → Value} {f c a f' a' : Nat → Nat} (h : RowsAre g f c a) (n : Nat) (hf : ∀ m, m < 16 → m ≠ n → f' m = f m) (ha : ∀ m, m < 16 → m ≠ n → a' m = a m) :
    RowsAre (upd (upd g (n * 3) (.int .u32 (f' n : Int))) (n * 3 + 2) (.int .u32 (a' n : Int))) f' c a' := by
  intro m hm
  obtain ⟨h1, h2, h3⟩ := h m hm
  by_cases he : m = n
  · subst he
    refine ⟨?_, ?_, ?_⟩
    · rw [upd_other _ _ _ _ (by omega), upd_same]
    · rw [upd_other _ _ _ _ (by omega), upd_other _ _ _ _ (by omega)]; exact h2
    · rw [upd_same]
  · refine ⟨?_, ?_, ?_⟩
    · rw [upd_other _ _ _ _ (by omega), upd_other _ _ _ _ (by omega), h1, hf m hm he]
    · rw [upd_other _ _ _ _ (by omega), upd_other _ _ _ _ (by omega)]; exact h2
    · rw [upd_other _ _ _ _ (by omega), upd_other _ _ _ _ (by omega), h3, ha m hm he]
/-- The rows laid up to n. -/
def upTo (f : Nat → Nat) (k : Nat) : Nat → Nat := fun m => if m < k then f m else 0
set_option maxRecDepth 100000 in
theorem atC_le (ln : Nat → Nat) (L n : Nat) : atC ln L n ≤ n * L := by
  induction n with
  | zero => exact Nat.zero_le _
  | succ n ih => have := cnt_le ln n L; rw [atC, Nat.add_mul, Nat.one_mul]; omega
set_option maxHeartbeats 2000000 in
set_option maxRecDepth 100000 in
theorem lay_any (b : Nat) (ln : Nat → Nat) (len : Nat) (g : Nat → Value) (w : World) (hb : TBox w b g) (hr : RowsAre g (fun _ => 0) (fun n => cnt ln n len) (fun _ => 0)) (hl : len ≤ 320) (hkr : kr ln len 15 ≤ 32768) :
    Calls Tryz.prog 259 #[.pointer (some ⟨b, 0, none⟩)] w fun e w' => e = .returned (.tuple #[]) ∧ (∃ g', TBox w' b g' ∧ RowsAre g' (fstC ln len) (fun n => cnt ln n len) (atC ln len) ∧ g' 48 = g 48 ∧ g' 49 = g 49 ∧ g' 50 = g 50) ∧ Below b w w' := by
  have HB := hidM hb
  have HR0 : Hid (RowsAre g (upTo (fstC ln len) 1) (fun n => cnt ln n len) (upTo (atC ln len) 1)) := by
    have e1 : upTo (fstC ln len) 1 = fun _ => 0 := by
      funext m; unfold upTo; split
      · have : m = 0 := by omega
        subst this; rfl
      · rfl
    have e2 : upTo (atC ln len) 1 = fun _ => 0 := by
      funext m; unfold upTo; split
      · have : m = 0 := by omega
        subst this; rfl
      · rfl
    unfold Hid
    rw [e1, e2]; exact hr
  clear hb hr
  go_enter Tryz.func259, Tryz.ntmps259
  go_wp2
  go_loopw [2, 3] (fun i _ wr => ∃ (k : Nat) (g' : Nat → Value), 1 ≤ k ∧ k ≤ 16 ∧ i = .int .i64 k ∧ TBox wr b g' ∧ RowsAre g' (upTo (fstC ln len) k) (fun n => cnt ln n len) (upTo (atC ln len) k) ∧ g' 48 = g 48 ∧ g' 49 = g 49 ∧ g' 50 = g 50 ∧ Below b w wr) (fun i _ _ => 16 - (intOf i).toNat)
  case atStart => exact ⟨1, g, by decide, by decide, rfl, HB.out, HR0.out, rfl, rfl, rfl, Below.refl _ _⟩
  case round =>
    obtain ⟨k, g', hk1, hk, rfl, htb, hro, e48, e49, e50, hbr⟩ := hrel
    have HT := hidM htb
    have HRO := hidM hro
    have HE := hidM (And.intro e48 (And.intro e49 e50))
    have HBR := hidM hbr
    clear e48 e49 e50 HR0 HB
    by_cases hlt : k ≤ 15
    · obtain ⟨j, hj⟩ : ∃ j, k = j + 1 := ⟨k - 1, by omega⟩
      have HJ := hidM hj
      have e1 : (k : Int) - 1 = (j : Int) := by omega
      obtain ⟨r1, r2, r3⟩ := hro j (by omega)
      have r1' : g' (j * 3) = .int .u32 ((fstC ln len j : Nat) : Int) := by rw [r1]; unfold upTo; rw [if_pos (by omega)]
      have r2' : g' (j * 3 + 1) = .int .u32 ((cnt ln j len : Nat) : Int) := r2
      have r3' : g' (j * 3 + 2) = .int .u32 ((atC ln len j : Nat) : Int) := by rw [r3]; unfold upTo; rw [if_pos (by omega)]
      have c0 := htb.cell (j * 3) (by omega)
      have c1 := htb.cell (j * 3 + 1) (by omega)
      have c2 := htb.cell (j * 3 + 2) (by omega)
      rw [r1'] at c0
      rw [r2'] at c1
      rw [r3'] at c2
      have HF1 : Hid (fstC ln len k = 2 * (fstC ln len j + cnt ln j len)) := by unfold Hid; rw [hj]; rfl
      have HA1 : Hid (atC ln len k = atC ln len j + cnt ln j len) := by unfold Hid; rw [hj]; rfl
      have bf : fstC ln len j + cnt ln j len ≤ 32768 := by
        have h1 := code_fits ln len j (by omega) hkr
        have h2 : 2 ^ j ≤ 2 ^ 15 := Nat.pow_le_pow_right (by decide) (by omega)
        omega
      have ba : atC ln len j + cnt ln j len ≤ 10000 := by
        have h1 := atC_le ln len j
        have h2 : j * len ≤ 15 * 320 := Nat.mul_le_mul (by omega) hl
        have h3 := cnt_le ln j len
        omega
      obtain ⟨F, hF⟩ : ∃ F, F = fstC ln len j := ⟨_, rfl⟩
      obtain ⟨C, hC⟩ : ∃ C, C = cnt ln j len := ⟨_, rfl⟩
      obtain ⟨A, hA⟩ : ∃ A, A = atC ln len j := ⟨_, rfl⟩
      rw [← hF] at c0 bf HF1
      rw [← hC] at c1 bf ba HF1 HA1
      rw [← hA] at c2 ba HA1
      have b1 : (0 : Int) ≤ (j : Int) := by omega
      have b2 : (j : Int) < 16 := by omega
      have b3 : (k : Int) < 16 := by omega
      have HTA : Hid (TBox (wr.alloc (.cells #[.int .u32 (F : Int), .int .u32 (C : Int), .int .u32 (A : Int)] 304)) b g') := htb.same (Below.heap_alloc wr _ b htb.lt)
      have HQA : Hid ((wr.alloc (.cells #[.int .u32 (F : Int), .int .u32 (C : Int), .int .u32 (A : Int)] 304)).heap[wr.heap.size]? = some (.cells #[.int .u32 (F : Int), .int .u32 (C : Int), .int .u32 (A : Int)] 304 (0, 0))) := heap_alloc_new wr _
      have HBA : Hid (Below b w (wr.alloc (.cells #[.int .u32 (F : Int), .int .u32 (C : Int), .int .u32 (A : Int)] 304))) := hbr.alloc (Nat.le_of_lt htb.lt) _
      have HNE : Hid (wr.heap.size ≠ b) := by have := htb.lt; unfold Hid; omega
      clear hro r1 r2 r3 r1' r2' r3' hF hC hA htb hbr hj
      go_wp2
      clear c0 c1 c2
      generalize wr.alloc (.cells #[.int .u32 (F : Int), .int .u32 (C : Int), .int .u32 (A : Int)] 304) = wa at *
      generalize wr.heap.size = q at *
      have q0 : wa.cell? ⟨q, 0, none⟩ = some (.int .u32 (F : Int)) := by rw [cell_of_row wa q _ _ 304 (0, 0) HQA.out]; rfl
      have q1 : wa.cell? ⟨q, 1, none⟩ = some (.int .u32 (C : Int)) := by rw [cell_of_row wa q _ _ 304 (0, 0) HQA.out]; rfl
      have t0 := HTA.out.cell (k * 3) (by omega)
      have t1 := HTA.out.fz (k * 3)
      have HT1 : Hid (TBox ((wa.setCell ⟨b, k * 3, none⟩ (.int .u32 (2 * ((F : Int) + (C : Int))))).drew) b (upd g' (k * 3) (.int .u32 (2 * ((F : Int) + (C : Int)))))) := HTA.out.set (k * 3) _
      have HQ1 : Hid (((wa.setCell ⟨b, k * 3, none⟩ (.int .u32 (2 * ((F : Int) + (C : Int))))).drew).heap[q]? = some (.cells #[.int .u32 (F : Int), .int .u32 (C : Int), .int .u32 (A : Int)] 304 (0, 0))) := (Below.heap_setCell wa ⟨b, k * 3, none⟩ _ q HNE.out).trans HQA.out
      have HB1 : Hid (Below b w ((wa.setCell ⟨b, k * 3, none⟩ (.int .u32 (2 * ((F : Int) + (C : Int))))).drew)) := below_drewN (below_set HBA.out (Nat.le_refl b)) 1
      go_region
      generalize (wa.setCell ⟨b, k * 3, none⟩ (.int .u32 (2 * ((F : Int) + (C : Int))))).drew = wb at *
      clear q0 q1 t0 t1
      have q2 : wb.cell? ⟨q, 2, none⟩ = some (.int .u32 (A : Int)) := by rw [cell_of_row wb q _ _ 304 (0, 0) HQ1.out]; rfl
      have q1 : wb.cell? ⟨q, 1, none⟩ = some (.int .u32 (C : Int)) := by rw [cell_of_row wb q _ _ 304 (0, 0) HQ1.out]; rfl
      have t0 := HT1.out.cell (k * 3 + 2) (by omega)
      have t1 := HT1.out.fz (k * 3 + 2)
      have HT2 : Hid (TBox ((wb.setCell ⟨b, k * 3 + 2, none⟩ (.int .u32 ((A : Int) + (C : Int)))).drew) b (upd (upd g' (k * 3) (.int .u32 (2 * ((F : Int) + (C : Int))))) (k * 3 + 2) (.int .u32 ((A : Int) + (C : Int))))) := HT1.out.set (k * 3 + 2) _
      have HB2 : Hid (Below b w ((wb.setCell ⟨b, k * 3 + 2, none⟩ (.int .u32 ((A : Int) + (C : Int)))).drew)) := below_drewN (below_set HB1.out (Nat.le_refl b)) 1
      have HR2 : Hid (RowsAre (upd (upd g' (k * 3) (.int .u32 (2 * ((F : Int) + (C : Int))))) (k * 3 + 2) (.int .u32 ((A : Int) + (C : Int)))) (upTo (fstC ln len) (k + 1)) (fun n => cnt ln n len) (upTo (atC ln len) (k + 1))) := by
        have h1 := HRO.out.setFA (f' := upTo (fstC ln len) (k + 1)) (a' := upTo (atC ln len) (k + 1)) k
          (fun m _ hm => by unfold upTo; by_cases h : m < k
                            · rw [if_pos h, if_pos (by omega)]
                            · rw [if_neg h, if_neg (by omega)])
          (fun m _ hm => by unfold upTo; by_cases h : m < k
                            · rw [if_pos h, if_pos (by omega)]
                            · rw [if_neg h, if_neg (by omega)])
        have e1 : ((upTo (fstC ln len) (k + 1) k : Nat) : Int) = 2 * ((F : Int) + (C : Int)) := by unfold upTo; rw [if_pos (by omega), HF1.out]; omega
        have e2 : ((upTo (atC ln len) (k + 1) k : Nat) : Int) = (A : Int) + (C : Int) := by unfold upTo; rw [if_pos (by omega), HA1.out]; omega
        rw [e1, e2] at h1
        exact h1
      have HE2 : Hid (∀ i, 48 ≤ i → upd (upd g' (k * 3) (.int .u32 (2 * ((F : Int) + (C : Int))))) (k * 3 + 2) (.int .u32 ((A : Int) + (C : Int))) i = g' i) := fun i hi => by rw [upd_other _ _ _ _ (by omega), upd_other _ _ _ _ (by omega)]
      go_wp2
      go_region
      generalize (wb.setCell ⟨b, k * 3 + 2, none⟩ (.int .u32 ((A : Int) + (C : Int)))).drew = wc at *
      clear q1 q2 t0 t1
      go_wp2
      go_roundw
      case rel => exact ⟨k + 1, _, by omega, by omega, by go_num, HT2.out, HR2.out, (HE2.out 48 (by decide)).trans HE.out.1, (HE2.out 49 (by decide)).trans HE.out.2.1, (HE2.out 50 (by decide)).trans HE.out.2.2, HB2.out⟩
      case measure => simp [intOf]; omega
    · have hk16 : k = 16 := by omega
      subst hk16
      clear htb hro hbr
      go_wp2
      refine bodyPost_end (results_none Tryz.results259 _ _ _) rfl ⟨rfl, ⟨g', HT.out, ?_, HE.out.1, HE.out.2.1, HE.out.2.2⟩, HBR.out⟩
      intro m hm
      have := HRO.out m hm
      unfold upTo at this
      rw [if_pos hm, if_pos hm] at this
      exact this
set_option maxRecDepth 100000 in
theorem at_mono (ln : Nat → Nat) (L m n : Nat) (h : m < n) : atC ln L m + cnt ln m L ≤ atC ln L n := by
  induction n with
  | zero => omega
  | succ n ih =>
    rw [atC]
    rcases Nat.lt_or_ge m n with hm | hm
    · have := ih hm; omega
    · have : m = n := by omega
      subst this; omega
set_option maxRecDepth 100000 in
theorem at_total (ln : Nat → Nat) (L n : Nat) (hn : n ≤ 15) : atC ln L n + cnt ln n L ≤ atC ln L 15 + cnt ln 15 L := by
  rcases Nat.lt_or_ge n 15 with h | h
  · have := at_mono ln L n 15 h; omega
  · have : n = 15 := by omega
    subst this; exact Nat.le_refl _
set_option maxRecDepth 100000 in
theorem at_ne (ln : Nat → Nat) (L s k : Nat) (hs : s < k) (hk : k < L) (h0 : 0 < ln s) (h1 : 0 < ln k) : atC ln L (ln s) + cnt ln (ln s) s ≠ atC ln L (ln k) + cnt ln (ln k) k := by
  rcases Nat.lt_trichotomy (ln s) (ln k) with h | h | h
  · have := at_mono ln L (ln s) (ln k) h
    have := cnt_lt ln (show s < L by omega) h0
    omega
  · have := cnt_lt ln hs h0
    rw [← h]
    omega
  · have := at_mono ln L (ln k) (ln s) h
    have := cnt_lt ln hk h1
    omega
/-- The cells of a block, by a function. -/
def arrF (N : Nat) (h : Nat → Value) : Array Value := ((List.range N).map h).toArray
set_option maxRecDepth 100000 in
theorem arrF_get (N : Nat) (h : Nat → Value) (i : Nat) (hi : i < N) : (arrF N h)[i]? = some (h i) := by
  unfold arrF
  rw [List.getElem?_toArray, List.getElem?_map, List.getElem?_range hi]; rfl
set_option maxRecDepth 100000 in
theorem arrF_set (N : Nat) (h : Nat → Value) (i : Nat) (v : Value) : (arrF N h).setIfInBounds i v = arrF N (upd h i v) := by
  unfold arrF
  rw [List.setIfInBounds_toArray]
  congr 1
  apply List.ext_getElem?
  intro j
  rw [List.getElem?_set]
  by_cases hj : j < N
  · rw [List.getElem?_map, List.getElem?_map, List.getElem?_range hj]
    by_cases he : i = j
    · subst he; simp [upd, hj]
    · have : j ≠ i := fun h => he h.symm
      simp [he, upd, this]
  · have h1 : ((List.range N).map h)[j]? = none := List.getElem?_eq_none (by simp; omega)
    have h2 : ((List.range N).map (upd h i v))[j]? = none := List.getElem?_eq_none (by simp; omega)
    rw [h1, h2]
    by_cases he : i = j
    · subst he; simp; omega
    · simp [he]
def ABox (w : World) (b : Nat) (t : TypeId) (N : Nat) (h : Nat → Value) : Prop := w.heap[b]? = some (.cells (arrF N h) t (0, 0))
set_option maxRecDepth 100000 in
theorem ABox.cell {w : World} {b t N : Nat} {h : Nat → Value} (x : ABox w b t N h) (i : Nat) (hi : i < N) : w.cell? ⟨b, i, none⟩ = some (h i) := by
  rw [cell_of_row w b _ _ t (0, 0) x, arrF_get N h i hi]
set_option maxRecDepth 100000 in
theorem ABox.fz {w : World} {b t N : Nat} {h : Nat → Value} (x : ABox w b t N h) (i : Nat) : w.frozen? ⟨b, i, none⟩ = false := frozen_of_row w b i _ t x
set_option maxRecDepth 100000 in
theorem ABox.set {w : World} {b t N : Nat} {h : Nat → Value} (x : ABox w b t N h) (i : Nat) (v : Value) : ABox (w.setCell ⟨b, i, none⟩ v) b t N (upd h i v) := by
  unfold ABox
  rw [heap_setCell_same w b _ _ t _ x, arrF_set]
set_option maxRecDepth 100000 in
theorem ABox.lt {w : World} {b t N : Nat} {h : Nat → Value} (x : ABox w b t N h) : b < w.heap.size := (Array.getElem?_eq_some_iff.1 x).1
set_option maxRecDepth 100000 in
theorem ABox.same {w w' : World} {b t N : Nat} {h : Nat → Value} (x : ABox w b t N h) (hh : w'.heap[b]? = w.heap[b]?) : ABox w' b t N h := by unfold ABox; rw [hh]; exact x
set_option maxRecDepth 100000 in
theorem ABox.of_row {w : World} {B g n t sz : Nat} {xs : List Value} {h : Nat → Value} (ho : w.ownsRow B t sz (.slice (some ⟨g, 0, none⟩) n n) n xs) (hx : xs = (List.range (n * sz)).map h) : ABox w g t (n * sz) h := by
  rcases ho.2 with ⟨h', _⟩ | ⟨g', cap', cur, h', hb, hg, hn, _, hcs, htake⟩
  · simp at h'
  · simp only [Value.slice.injEq, Option.some.injEq, Addr.mk.injEq, and_true, true_and] at h'
    obtain ⟨rfl, rfl⟩ := h'
    unfold ABox
    rw [hg]
    congr 2
    unfold arrF
    rw [← hx, ← htake, List.take_of_length_le (by simp; omega)]
set_option maxRecDepth 100000 in
theorem made_one (z : Value) (n : Nat) : (madeCells #[z] (n * 1)).toList = (List.range (n * 1)).map fun _ => z := by
  rw [Nat.mul_one, toList_madeCells_one, List.map_const', List.length_range]
set_option maxRecDepth 100000 in
theorem made_two (y z : Value) (n : Nat) : (madeCells #[y, z] (n * 2)).toList = (List.range (n * 2)).map fun i => if i % 2 = 0 then y else z := by
  unfold madeCells
  rw [Array.toList_map, show (Array.range (n * 2)).toList = List.range (n * 2) by simp]
  apply List.map_congr_left
  intro i _
  rcases Nat.mod_two_eq_zero_or_one i with h | h <;> simp [h]
set_option maxRecDepth 100000 in
theorem Tryz.info3 : (Tryz.prog.info? 3).map (fun i => (i.zero, i.size, i.bytes)) = some (some (.int .i64 0), 1, 8) := by kernel_rfl
set_option maxRecDepth 100000 in
theorem Tryz.info310 : (Tryz.prog.info? 310).map (fun i => (i.zero, i.size, i.bytes)) = some (some (.agg #[.int .u32 0, .int .i64 0]), 2, 16) := by kernel_rfl
/-- What is given so far. -/
structure Given (w : World) (b gs gc gg : Nat) (ln : Nat → Nat) (L M k : Nat) (g : Nat → Value) : Prop where
  tab : TBox w b g
  sym : ∃ hs, ABox w gs 3 M hs ∧ ∀ s, s < k → 0 < ln s → hs (atC ln L (ln s) + cnt ln (ln s) s) = .int .i64 (s : Int)
  cod : ∃ hc, ABox w gc 310 (L * 2) hc ∧ (∀ s, s < k → hc (s * 2) = .int .u32 (codeC ln L s : Int) ∧ hc (s * 2 + 1) = .int .i64 (ln s : Int)) ∧ (∀ s, k ≤ s → hc (s * 2) = .int .u32 0 ∧ hc (s * 2 + 1) = .int .i64 0)
  giv : ∃ hg, ABox w gg 360 16 hg ∧ ∀ n, n < 16 → hg n = .int .u32 (cnt ln n k : Int)
set_option maxRecDepth 100000 in
theorem IntsAt.low {w w' : World} {a : Option Addr} {len B : Nat} {k : IntKind} {f : Nat → Int} (h : IntsAt w a len k f) (hb : Below B w w') (hab : 0 < len → ∀ bb o, a = some ⟨bb, o, none⟩ → bb < B) : IntsAt w' a len k f := by
  refine ⟨h.1, h.2.1, ?_⟩
  rcases h.2.2 with h0 | ⟨b, off, rfl, hc⟩
  · exact .inl h0
  · exact .inr ⟨b, off, rfl, fun i hi => (hb.cell (p := ⟨b, off + i, none⟩) (hab (by omega) b off rfl)).trans (hc i hi)⟩
set_option maxRecDepth 100000 in
theorem Given.skip {w : World} {b gs gc gg : Nat} {ln : Nat → Nat} {L M k : Nat} {g : Nat → Value} (h : Given w b gs gc gg ln L M k g) (h0 : ln k = 0) : Given w b gs gc gg ln L M (k + 1) g := by
  obtain ⟨hs, hs1, hs2⟩ := h.sym
  obtain ⟨hc, hc1, hc2, hc3⟩ := h.cod
  obtain ⟨hg, hg1, hg2⟩ := h.giv
  refine ⟨h.tab, ⟨hs, hs1, fun s hs' h1 => ?_⟩, ⟨hc, hc1, fun s hs' => ?_, fun s hs' => hc3 s (by omega)⟩, ⟨hg, hg1, fun n hn => ?_⟩⟩
  · have : s ≠ k := fun he => by subst he; omega
    exact hs2 s (by omega) h1
  · by_cases he : s = k
    · subst he
      have := hc3 s (Nat.le_refl _)
      unfold codeC
      rw [if_pos h0, h0]
      exact this
    · exact hc2 s (by omega)
  · rw [hg2 n hn, cnt, if_neg (by omega)]; rfl
set_option maxRecDepth 100000 in
theorem Given.next {w' : World} {b gs gc gg : Nat} {ln : Nat → Nat} {L M k : Nat} {g : Nat → Value} {hs hc hg : Nat → Value} (h0 : 0 < ln k) (hkL : k < L)
    (t1 : TBox w' b g) (hs2 : ∀ s, s < k → 0 < ln s → hs (atC ln L (ln s) + cnt ln (ln s) s) = .int .i64 (s : Int)) (hc2 : ∀ s, s < k → hc (s * 2) = .int .u32 (codeC ln L s : Int) ∧ hc (s * 2 + 1) = .int .i64 (ln s : Int)) (hc3 : ∀ s, k ≤ s → hc (s * 2) = .int .u32 0 ∧ hc (s * 2 + 1) = .int .i64 0)
    (hg2 : ∀ n, n < 16 → hg n = .int .u32 (cnt ln n k : Int))
    (s1 : ABox w' gs 3 M (upd hs (atC ln L (ln k) + cnt ln (ln k) k) (.int .i64 (k : Int))))
    (c1 : ABox w' gc 310 (L * 2) (upd (upd hc (k * 2) (.int .u32 (codeC ln L k : Int))) (k * 2 + 1) (.int .i64 (ln k : Int))))
    (g1 : ABox w' gg 360 16 (upd hg (ln k) (.int .u32 ((cnt ln (ln k) k + 1 : Nat) : Int)))) : Given w' b gs gc gg ln L M (k + 1) g := by
  refine ⟨t1, ⟨_, s1, fun s hs' h1 => ?_⟩, ⟨_, c1, fun s hs' => ?_, fun s hs' => ?_⟩, ⟨_, g1, fun n hn => ?_⟩⟩
  · by_cases he : s = k
    · subst he; rw [upd_same]
    · rw [upd_other _ _ _ _ (at_ne ln L s k (by omega) hkL h1 h0)]
      exact hs2 s (by omega) h1
  · by_cases he : s = k
    · subst he
      exact ⟨by rw [upd_other _ _ _ _ (by omega), upd_same], by rw [upd_same]⟩
    · rw [upd_other _ _ _ _ (by omega), upd_other _ _ _ _ (by omega), upd_other _ _ _ _ (by omega), upd_other _ _ _ _ (by omega)]
      exact hc2 s (by omega)
  · rw [upd_other _ _ _ _ (by omega), upd_other _ _ _ _ (by omega), upd_other _ _ _ _ (by omega), upd_other _ _ _ _ (by omega)]
    exact hc3 s (by omega)
  · by_cases he : n = ln k
    · subst he
      rw [upd_same, cnt, if_pos ⟨rfl, h0⟩]
    · rw [upd_other _ _ _ _ he, hg2 n hn, cnt, if_neg (by omega)]; rfl
set_option maxHeartbeats 2000000 in
set_option maxRecDepth 100000 in
theorem give_any (b : Nat) (a : Option Addr) (len cap : Nat) (ln : Nat → Nat) (g : Nat → Value) (w : World) (hl : len ≤ 320) (hf : IntsAt w a len .i64 (fun i => (ln i : Int))) (h15 : ∀ i, ln i ≤ 15) (hb : TBox w b g) (hab : 0 < len → ∀ bb o, a = some ⟨bb, o, none⟩ → bb < b)
    (hr : RowsAre g (fstC ln len) (fun n => cnt ln n len) (atC ln len)) (hkr : kr ln len 15 ≤ 32768) :
    Calls Tryz.prog 260 #[.pointer (some ⟨b, 0, none⟩), .slice a len cap] w fun e w' => e = .returned (.tuple #[]) ∧ (∃ g' gs gc gg M, Given w' b gs gc gg ln len M len g' ∧ RowsAre g' (fstC ln len) (fun n => cnt ln n len) (atC ln len) ∧ M = atC ln len 15 + cnt ln 15 len ∧ g' 48 = g 48 ∧ g' 49 = .slice (some ⟨gs, 0, none⟩) M M ∧ g' 50 = .slice (some ⟨gc, 0, none⟩) len len ∧ b < gs ∧ b < gc ∧ gs ≠ gc ∧ b < gg) ∧ Below b w w' := by
  obtain ⟨i3, hi3, hz30, hz31, hz32⟩ := info_parts Tryz.info3
  obtain ⟨i8, hi8, hz80, hz81, hz82⟩ := info_parts Tryz.info310
  have HF := hidM hf
  have HTB := hidM hb
  have HAB := hidM hab
  have HR := hidM hr
  have H15 := hidM h15
  have c45 := hb.cell 45 (by decide)
  have c46 : w.cell? ⟨b, 46, none⟩ = some (.int .u32 ((cnt ln 15 len : Nat) : Int)) := (hb.cell 46 (by decide)).trans (by rw [(hr 15 (by decide)).2.1])
  have c47 := hb.cell 47 (by decide)
  rw [(hr 15 (by decide)).1] at c45
  rw [(hr 15 (by decide)).2.2] at c47
  have ba : atC ln len 15 + cnt ln 15 len ≤ 10000 := by
    have h1 := atC_le ln len 15
    have h3 := cnt_le ln 15 len
    omega
  obtain ⟨F, hF⟩ : ∃ F, F = fstC ln len 15 := ⟨_, rfl⟩
  obtain ⟨C, hC⟩ : ∃ C, C = cnt ln 15 len := ⟨_, rfl⟩
  obtain ⟨A, hA⟩ : ∃ A, A = atC ln len 15 := ⟨_, rfl⟩
  rw [← hF] at c45
  rw [← hC] at c46 ba
  rw [← hA] at c47 ba
  have HM : Hid (A + C = atC ln len 15 + cnt ln 15 len) := by unfold Hid; rw [hA, hC]
  have HTA : Hid (TBox (w.alloc (.cells #[.int .u32 (F : Int), .int .u32 (C : Int), .int .u32 (A : Int)] 304)) b g) := hb.same (Below.heap_alloc w _ b hb.lt)
  have HBA : Hid (Below b w (w.alloc (.cells #[.int .u32 (F : Int), .int .u32 (C : Int), .int .u32 (A : Int)] 304))) := (Below.refl _ _).alloc (Nat.le_of_lt hb.lt) _
  clear hf hb hab hr h15 hF hC hA
  obtain ⟨M, hM⟩ : ∃ M, M = A + C := ⟨_, rfl⟩
  have HMM := hidM hM
  have eM : (A : Int) + (C : Int) = (M : Int) := by omega
  have m4 : M ≤ 10000 := by omega
  clear hM
  go_enter Tryz.func260, Tryz.ntmps260
  go_wp2_with (at_make; refine wpList_make_full _ rfl _ _ 135 rfl b 3 i3 (.int .i64 0) 1 Tryz.underlying135 hi3 hz30 hz31 .u32 .u32 _ _ M rfl rfl rfl rfl ?c1 ?c2 ?c3 ?_)
  case c1 => rw [hz32]; omega
  case c2 => unfold maxLen; omega
  case c3 => exact Nat.le_of_lt HTA.out.lt
  intro w1 hown1 hgr1
  have HLTb : Hid (b < w.heap.size) := HTB.out.lt
  have HT1 : Hid (TBox w1 b g) := HTA.out.same (hgr1.block b (by have := HLTb.out; simp; omega) (by simp))
  have HS1 : Hid (ABox w1 (w.heap.size + 1) 3 (M * 1) (fun _ => .int .i64 0)) := ABox.of_row hown1 (by rw [← made_one, Nat.mul_one])
  have HB1 : Hid (Below b w w1) := HBA.out.grown hgr1 (by have := HLTb.out; simp; omega) (by intro k hk; cases hk)
  have HBG : Hid (b < w.heap.size + 1) := by have := HLTb.out; unfold Hid; omega
  clear hown1 hgr1 c45 c46 c47
  generalize w.heap.size + 1 = gs at *
  have t0 := HT1.out.cell 49 (by decide)
  have t1 := HT1.out.fz 49
  have HT2 : Hid (TBox (w1.setCell ⟨b, 49, none⟩ (.slice (some ⟨gs, 0, none⟩) M M)) b (upd g 49 (.slice (some ⟨gs, 0, none⟩) M M))) := HT1.out.set 49 _
  have HS2 : Hid (ABox (w1.setCell ⟨b, 49, none⟩ (.slice (some ⟨gs, 0, none⟩) M M)) gs 3 (M * 1) (fun _ => .int .i64 0)) := HS1.out.same (Below.heap_setCell w1 ⟨b, 49, none⟩ _ gs (by have := HBG.out; simp; omega))
  have HB2 : Hid (Below b w (w1.setCell ⟨b, 49, none⟩ (.slice (some ⟨gs, 0, none⟩) M M))) := below_set HB1.out (Nat.le_refl b)
  go_wp2_with (at_make; refine wpList_make_full _ rfl _ _ 306 rfl b 310 i8 (.agg #[.int .u32 0, .int .i64 0]) 2 Tryz.underlying306 hi8 hz80 hz81 .i64 .i64 _ _ len rfl rfl rfl rfl ?c4 ?c5 ?c6 ?_)
  case c4 => rw [hz82]; omega
  case c5 => unfold maxLen; omega
  case c6 => exact Nat.le_of_lt HT2.out.lt
  intro w3 hown3 hgr3
  clear t0 t1
  have HGC : Hid (gs < w1.heap.size) := HS1.out.lt
  generalize w1.setCell ⟨b, 49, none⟩ (.slice (some ⟨gs, 0, none⟩) M M) = w2 at *
  generalize w1.heap.size = gc at *
  have HT3 : Hid (TBox w3 b (upd g 49 (.slice (some ⟨gs, 0, none⟩) M M))) := HT2.out.same (hgr3.block b HT2.out.lt (by simp))
  have HS3 : Hid (ABox w3 gs 3 (M * 1) (fun _ => .int .i64 0)) := HS2.out.same (hgr3.block gs HS2.out.lt (by simp))
  have HC3 : Hid (ABox w3 gc 310 (len * 2) (fun i => if i % 2 = 0 then .int .u32 0 else .int .i64 0)) := ABox.of_row hown3 (made_two _ _ _)
  have HB3 : Hid (Below b w w3) := HB2.out.grown hgr3 (Nat.le_of_lt HT2.out.lt) (by intro k hk; cases hk)
  clear hown3 hgr3
  have t0 := HT3.out.cell 50 (by decide)
  have t1 := HT3.out.fz 50
  have HNb : Hid (gs ≠ b ∧ gc ≠ b) := by have := HBG.out; have := HGC.out; unfold Hid; omega
  have HT4 : Hid (TBox (w3.setCell ⟨b, 50, none⟩ (.slice (some ⟨gc, 0, none⟩) len len)) b (upd (upd g 49 (.slice (some ⟨gs, 0, none⟩) M M)) 50 (.slice (some ⟨gc, 0, none⟩) len len))) := HT3.out.set 50 _
  have HS4 : Hid (ABox (w3.setCell ⟨b, 50, none⟩ (.slice (some ⟨gc, 0, none⟩) len len)) gs 3 (M * 1) (fun _ => .int .i64 0)) := HS3.out.same (Below.heap_setCell w3 ⟨b, 50, none⟩ _ gs HNb.out.1)
  have HC4 : Hid (ABox (w3.setCell ⟨b, 50, none⟩ (.slice (some ⟨gc, 0, none⟩) len len)) gc 310 (len * 2) (fun i => if i % 2 = 0 then .int .u32 0 else .int .i64 0)) := HC3.out.same (Below.heap_setCell w3 ⟨b, 50, none⟩ _ gc HNb.out.2)
  have HB4 : Hid (Below b w (w3.setCell ⟨b, 50, none⟩ (.slice (some ⟨gc, 0, none⟩) len len))) := below_set HB3.out (Nat.le_refl b)
  have HW4 : Hid ((w3.setCell ⟨b, 50, none⟩ (.slice (some ⟨gc, 0, none⟩) len len)).heap.size = w3.heap.size) := by unfold Hid; simp
  go_wp2
  generalize w3.setCell ⟨b, 50, none⟩ (.slice (some ⟨gc, 0, none⟩) len len) = w4 at *
  clear t0 t1
  have HGG : Hid (b < w3.heap.size ∧ gs < w3.heap.size ∧ gc < w3.heap.size) := ⟨HT3.out.lt, HS3.out.lt, HC3.out.lt⟩
  have HG5 : Hid (Given (w4.alloc (.cells #[.int .u32 0, .int .u32 0, .int .u32 0, .int .u32 0, .int .u32 0, .int .u32 0, .int .u32 0, .int .u32 0, .int .u32 0, .int .u32 0, .int .u32 0, .int .u32 0, .int .u32 0, .int .u32 0, .int .u32 0, .int .u32 0] 360)) b gs gc w3.heap.size ln len M 0 (upd (upd g 49 (.slice (some ⟨gs, 0, none⟩) M M)) 50 (.slice (some ⟨gc, 0, none⟩) len len))) := by
    refine ⟨HT4.out.same (Below.heap_alloc w4 _ b HT4.out.lt), ⟨fun _ => .int .i64 0, ?_, fun s hs => by omega⟩, ⟨_, HC4.out.same (Below.heap_alloc w4 _ gc HC4.out.lt), fun s hs => by omega, fun s _ => ⟨?_, ?_⟩⟩, ⟨fun _ => .int .u32 0, ?_, fun n _ => rfl⟩⟩
    · have h1 := HS4.out.same (w' := w4.alloc (.cells #[.int .u32 0, .int .u32 0, .int .u32 0, .int .u32 0, .int .u32 0, .int .u32 0, .int .u32 0, .int .u32 0, .int .u32 0, .int .u32 0, .int .u32 0, .int .u32 0, .int .u32 0, .int .u32 0, .int .u32 0, .int .u32 0] 360)) (Below.heap_alloc w4 _ gs HS4.out.lt)
      rw [Nat.mul_one] at h1
      exact h1
    · simp
    · simp
    · rw [← HW4.out]
      exact heap_alloc_new w4 _
  have HB5 : Hid (Below b w (w4.alloc (.cells #[.int .u32 0, .int .u32 0, .int .u32 0, .int .u32 0, .int .u32 0, .int .u32 0, .int .u32 0, .int .u32 0, .int .u32 0, .int .u32 0, .int .u32 0, .int .u32 0, .int .u32 0, .int .u32 0, .int .u32 0, .int .u32 0] 360))) := HB4.out.alloc (Nat.le_of_lt HT4.out.lt) _
  generalize w4.alloc (.cells #[.int .u32 0, .int .u32 0, .int .u32 0, .int .u32 0, .int .u32 0, .int .u32 0, .int .u32 0, .int .u32 0, .int .u32 0, .int .u32 0, .int .u32 0, .int .u32 0, .int .u32 0, .int .u32 0, .int .u32 0, .int .u32 0] 360) = w5 at *
  have H48 : Hid (upd (upd g 49 (.slice (some ⟨gs, 0, none⟩) M M)) 50 (.slice (some ⟨gc, 0, none⟩) len len) 48 = g 48) := by unfold Hid; rw [upd_other _ _ _ _ (by decide), upd_other _ _ _ _ (by decide)]
  have H49 : Hid (upd (upd g 49 (.slice (some ⟨gs, 0, none⟩) M M)) 50 (.slice (some ⟨gc, 0, none⟩) len len) 49 = .slice (some ⟨gs, 0, none⟩) M M) := by unfold Hid; rw [upd_other _ _ _ _ (by decide), upd_same]
  have H50 : Hid (upd (upd g 49 (.slice (some ⟨gs, 0, none⟩) M M)) 50 (.slice (some ⟨gc, 0, none⟩) len len) 50 = .slice (some ⟨gc, 0, none⟩) len len) := by unfold Hid; rw [upd_same]
  have HRR : Hid (RowsAre (upd (upd g 49 (.slice (some ⟨gs, 0, none⟩) M M)) 50 (.slice (some ⟨gc, 0, none⟩) len len)) (fstC ln len) (fun n => cnt ln n len) (atC ln len)) := (HR.out.far 49 (by decide) _).far 50 (by decide) _
  generalize upd (upd g 49 (.slice (some ⟨gs, 0, none⟩) M M)) 50 (.slice (some ⟨gc, 0, none⟩) len len) = g5 at *
  generalize w3.heap.size = gg at *
  clear HT1 HS1 HB1 HT2 HS2 HB2 HT3 HS3 HC3 HB3 HT4 HS4 HC4 HB4 HTA HBA HW4
  go_loopw [6, 7, 30] (fun _ _ i wr => ∃ k : Nat, k ≤ len ∧ i = .int .i64 k ∧ Given wr b gs gc gg ln len M k g5 ∧ Below b w wr) (fun _ _ i _ => len - (intOf i).toNat)
  case atStart => exact ⟨0, Nat.zero_le _, rfl, HG5.out, HB5.out⟩
  case round =>
    obtain ⟨k, hk, rfl, hgv, hbr⟩ := hrel
    have HGV := hidM hgv
    have HBR := hidM hbr
    clear hgv hbr HG5 HB5
    by_cases hlt : k < len
    · obtain ⟨bb, off, rfl, hc⟩ := (HF.out.low HBR.out HAB.out).get k hlt
      have hk15 := H15.out k
      obtain ⟨n, hn⟩ : ∃ n, n = ln k := ⟨_, rfl⟩
      have HN := hidM hn
      have hc' : wr.cell? ⟨bb, off + k, none⟩ = some (.int .i64 (n : Int)) := by rw [hn]; exact hc
      rw [← hn] at hk15
      clear hc hn
      by_cases h0 : n = 0
      · subst h0
        have HG1 := hidM (HGV.out.skip HN.out.symm)
        go_wp2
        go_roundw
        case rel => exact ⟨k + 1, by omega, by go_num, HG1.out, HBR.out⟩
        case measure => simp [intOf]; omega
      · have h0b : ((n : Int) == 0) = false := by simp; omega
        obtain ⟨hs, hs1, hs2⟩ := HGV.out.sym
        obtain ⟨hcc, hc1, hc2, hc3⟩ := HGV.out.cod
        obtain ⟨hg, hg1, hg2⟩ := HGV.out.giv
        have htab := HGV.out.tab
        obtain ⟨r1, r2, r3⟩ := HRR.out n (by omega)
        have c50 := htab.cell 50 (by decide)
        rw [H50.out] at c50
        have c49 := htab.cell 49 (by decide)
        rw [H49.out] at c49
        have cF := htab.cell (n * 3) (by omega)
        rw [r1] at cF
        have cA := htab.cell (n * 3 + 2) (by omega)
        rw [r3] at cA
        have cG := hg1.cell n (by omega)
        rw [hg2 n (by omega)] at cG
        have gF := hg1.fz n
        have d0 := hc1.cell (k * 2) (by omega)
        have d1 := hc1.cell (k * 2 + 1) (by omega)
        have e0 := hc1.fz (k * 2)
        have e1 := hc1.fz (k * 2 + 1)
        have HFB : fstC ln len n + cnt ln n k ≤ 32768 := by
          have h1 := code_fits ln len n hk15 hkr
          have h2 : 2 ^ n ≤ 2 ^ 15 := Nat.pow_le_pow_right (by decide) hk15
          have h3 := cnt_mono ln n (show k ≤ len by omega)
          omega
        have HAM : atC ln len n + cnt ln n k < M := by
          have h1 := at_total ln len n hk15
          have h2 : cnt ln n k < cnt ln n len := by
            have := cnt_lt ln hlt (show 0 < ln k by rw [← HN.out]; omega)
            rw [← HN.out] at this
            exact this
          have := HMM.out
          have := HM.out
          omega
        have HSB := hidM hs1
        have HCB := hidM hc1
        have HGB := hidM hg1
        have HTB2 := hidM htab
        have H2 := hidM (And.intro hs2 (And.intro hc2 (And.intro hc3 hg2)))
        have HCC : Hid (codeC ln len k = fstC ln len n + cnt ln n k) := by unfold Hid codeC; rw [← HN.out, if_neg h0]
        obtain ⟨Fn, hFn⟩ : ∃ Fn, Fn = fstC ln len n := ⟨_, rfl⟩
        obtain ⟨An, hAn⟩ : ∃ An, An = atC ln len n := ⟨_, rfl⟩
        obtain ⟨y, hy⟩ : ∃ y, y = cnt ln n k := ⟨_, rfl⟩
        rw [← hFn] at cF HFB HCC
        rw [← hAn] at cA HAM
        rw [← hy] at cG HFB HAM HCC
        have HFN := hidM hFn
        have HAN := hidM hAn
        have HYN := hidM hy
        have n1 : b ≠ gc := by have := HNb.out.2; omega
        have n2 : gg ≠ gc := by have := HGG.out; omega
        have n3 : gc ≠ b := Ne.symm n1
        have n4 : gc ≠ gg := Ne.symm n2
        have b1 : (0 : Int) ≤ (n : Int) := by omega
        have b2 : (n : Int) < 16 := by omega
        have b3 : (k : Int) < (len : Int) := by omega
        clear hs1 hs2 hc1 hc2 hc3 hg1 hg2 htab r1 r2 r3 hFn hAn hy
        go_wp2
        go_region_held3 (fun w' => w'.cell? ⟨b, 50, none⟩ = some (.slice (some ⟨gc, 0, none⟩) len len) ∧ w'.cell? ⟨b, n * 3, none⟩ = some (.int .u32 (Fn : Int)) ∧ w'.cell? ⟨gg, n, none⟩ = some (.int .u32 (y : Int))) (go_keep) (fail)
        obtain ⟨Z, hZ⟩ : ∃ Z, Z = Fn + y := ⟨_, rfl⟩
        have hwr : IntKind.u32.wrap ((Fn : Int) + (y : Int)) = (Z : Int) := by rw [IntKind.wrap_u32']; omega
        rw [hwr]
        have HZ : Hid (codeC ln len k = Z) := by unfold Hid; rw [HCC.out, hZ]
        have HTa : Hid (TBox (((wr.setCell ⟨gc, k * 2, none⟩ (.int .u32 (Z : Int))).setCell ⟨gc, k * 2 + 1, none⟩ (.int .i64 (n : Int))).drew) b g5) :=
          (HTB2.out.same (Below.heap_setCell wr ⟨gc, k * 2, none⟩ _ b n1)).same (Below.heap_setCell _ ⟨gc, k * 2 + 1, none⟩ _ b n1)
        have HGa : Hid (ABox (((wr.setCell ⟨gc, k * 2, none⟩ (.int .u32 (Z : Int))).setCell ⟨gc, k * 2 + 1, none⟩ (.int .i64 (n : Int))).drew) gg 360 16 hg) :=
          (HGB.out.same (Below.heap_setCell wr ⟨gc, k * 2, none⟩ _ gg n2)).same (Below.heap_setCell _ ⟨gc, k * 2 + 1, none⟩ _ gg n2)
        have n5 : gs ≠ gc := by have := HGC.out; omega
        have HSa : Hid (ABox (((wr.setCell ⟨gc, k * 2, none⟩ (.int .u32 (Z : Int))).setCell ⟨gc, k * 2 + 1, none⟩ (.int .i64 (n : Int))).drew) gs 3 M hs) :=
          (HSB.out.same (Below.heap_setCell wr ⟨gc, k * 2, none⟩ _ gs n5)).same (Below.heap_setCell _ ⟨gc, k * 2 + 1, none⟩ _ gs n5)
        have HCa : Hid (ABox (((wr.setCell ⟨gc, k * 2, none⟩ (.int .u32 (Z : Int))).setCell ⟨gc, k * 2 + 1, none⟩ (.int .i64 (n : Int))).drew) gc 310 (len * 2) (upd (upd hcc (k * 2) (.int .u32 (Z : Int))) (k * 2 + 1) (.int .i64 (n : Int)))) := (HCB.out.set (k * 2) _).set (k * 2 + 1) _
        have HBa : Hid (Below b w (((wr.setCell ⟨gc, k * 2, none⟩ (.int .u32 (Z : Int))).setCell ⟨gc, k * 2 + 1, none⟩ (.int .i64 (n : Int))).drew)) :=
          below_drewN (below_set (below_set HBR.out (by have := HBG.out; have := HGC.out; omega)) (by have := HBG.out; have := HGC.out; omega)) 1
        generalize ((wr.setCell ⟨gc, k * 2, none⟩ (.int .u32 (Z : Int))).setCell ⟨gc, k * 2 + 1, none⟩ (.int .i64 (n : Int))).drew = wA at *
        have C49 := HTa.out.cell 49 (by decide)
        rw [H49.out] at C49
        have CA := HTa.out.cell (n * 3 + 2) (by omega)
        rw [(HRR.out n (by omega)).2.2, ← HAN.out] at CA
        have CG := HGa.out.cell n (by omega)
        rw [H2.out.2.2.2 n (by omega), ← HYN.out] at CG
        obtain ⟨P, hP⟩ : ∃ P, P = An + y := ⟨_, rfl⟩
        have eP : (An : Int) + (y : Int) = (P : Int) := by omega
        have wP : IntKind.u32.wrap ((P : Nat) : Int) = (P : Int) := by rw [IntKind.wrap_u32']; omega
        have pM : P < M := by omega
        have HP := hidM hP
        have D0 := HSa.out.cell P pM
        have E0 := HSa.out.fz P
        have b4 : (P : Int) < (M : Int) := by omega
        have m1 : b ≠ gs := by have := HNb.out.1; omega
        have m2 : gg ≠ gs := by have := HGG.out; omega
        have m3 : gs ≠ b := Ne.symm m1
        have m4' : gs ≠ gg := Ne.symm m2
        clear c50 c49 cF cA cG gF d0 d1 e0 e1 hc' hwr hZ hP
        go_wp2
        go_region_held3 (fun w' => w'.cell? ⟨b, 49, none⟩ = some (.slice (some ⟨gs, 0, none⟩) M M) ∧ w'.cell? ⟨b, n * 3 + 2, none⟩ = some (.int .u32 (An : Int)) ∧ w'.cell? ⟨gg, n, none⟩ = some (.int .u32 (y : Int))) (go_keep) (fail)
        have HTb : Hid (TBox ((wA.setCell ⟨gs, P, none⟩ (.int .i64 (k : Int))).drew) b g5) := HTa.out.same (Below.heap_setCell wA ⟨gs, P, none⟩ _ b m1)
        have HGb : Hid (ABox ((wA.setCell ⟨gs, P, none⟩ (.int .i64 (k : Int))).drew) gg 360 16 hg) := HGa.out.same (Below.heap_setCell wA ⟨gs, P, none⟩ _ gg m2)
        have HCb : Hid (ABox ((wA.setCell ⟨gs, P, none⟩ (.int .i64 (k : Int))).drew) gc 310 (len * 2) (upd (upd hcc (k * 2) (.int .u32 (Z : Int))) (k * 2 + 1) (.int .i64 (n : Int)))) := HCa.out.same (Below.heap_setCell wA ⟨gs, P, none⟩ _ gc (Ne.symm n5))
        have HSb : Hid (ABox ((wA.setCell ⟨gs, P, none⟩ (.int .i64 (k : Int))).drew) gs 3 M (upd hs P (.int .i64 (k : Int)))) := HSa.out.set P _
        have HBb : Hid (Below b w ((wA.setCell ⟨gs, P, none⟩ (.int .i64 (k : Int))).drew)) := below_drewN (below_set HBa.out (Nat.le_of_lt HBG.out)) 1
        generalize (wA.setCell ⟨gs, P, none⟩ (.int .i64 (k : Int))).drew = wB at *
        have CG2 := HGb.out.cell n (by omega)
        rw [H2.out.2.2.2 n (by omega), ← HYN.out] at CG2
        have CF2 := HGb.out.fz n
        have y4 : y ≤ 32768 := by omega
        have HTc : Hid (TBox (wB.setCell ⟨gg, n, none⟩ (.int .u32 ((y : Int) + 1))) b g5) := HTb.out.same (Below.heap_setCell wB ⟨gg, n, none⟩ _ b (by have := HGG.out; simp; omega))
        have HCc : Hid (ABox (wB.setCell ⟨gg, n, none⟩ (.int .u32 ((y : Int) + 1))) gc 310 (len * 2) (upd (upd hcc (k * 2) (.int .u32 (Z : Int))) (k * 2 + 1) (.int .i64 (n : Int)))) := HCb.out.same (Below.heap_setCell wB ⟨gg, n, none⟩ _ gc n4)
        have HSc : Hid (ABox (wB.setCell ⟨gg, n, none⟩ (.int .u32 ((y : Int) + 1))) gs 3 M (upd hs P (.int .i64 (k : Int)))) := HSb.out.same (Below.heap_setCell wB ⟨gg, n, none⟩ _ gs m4')
        have HGc : Hid (ABox (wB.setCell ⟨gg, n, none⟩ (.int .u32 ((y : Int) + 1))) gg 360 16 (upd hg n (.int .u32 ((y : Int) + 1)))) := HGb.out.set n _
        have HBc : Hid (Below b w (wB.setCell ⟨gg, n, none⟩ (.int .u32 ((y : Int) + 1)))) := below_set HBb.out (by have := HGG.out; omega)
        have HG9 : Hid (Given (wB.setCell ⟨gg, n, none⟩ (.int .u32 ((y : Int) + 1))) b gs gc gg ln len M (k + 1) g5) := by
          have q1 := HN.out
          refine Given.next (hs := hs) (hc := hcc) (hg := hg) (by rw [← q1]; omega) hlt HTc.out H2.out.1 H2.out.2.1 H2.out.2.2.1 H2.out.2.2.2 ?_ ?_ ?_
          · rw [← q1, ← HAN.out, ← HYN.out, ← HP.out]; exact HSc.out
          · rw [HZ.out, ← q1]; exact HCc.out
          · rw [← q1, ← HYN.out]; exact HGc.out
        clear C49 CA CG D0 E0 eP wP
        go_wp2
        go_roundw
        case rel => exact ⟨k + 1, by omega, by go_num, HG9.out, HBc.out⟩
        case measure => simp [intOf]; omega
    · have HK : Hid (k = len) := by unfold Hid; omega
      go_wp2
      refine bodyPost_end (results_none Tryz.results260 _ _ _) rfl ⟨rfl, ⟨g5, gs, gc, gg, M, by have := HGV.out; rw [HK.out] at this; exact this, HRR.out, by rw [HMM.out, HM.out], H48.out, H49.out, H50.out, HBG.out, by have := HBG.out; have := HGC.out; omega, by have := HGC.out; omega, HGG.out.1⟩, HBR.out⟩
/-- A table of codes at b. -/
def Tab (w : World) (b : Nat) (ln : Nat → Nat) (L : Nat) : Prop :=
  ∃ g gs gc gg M, Given w b gs gc gg ln L M L g ∧ RowsAre g (fstC ln L) (fun n => cnt ln n L) (atC ln L) ∧ M = atC ln L 15 + cnt ln 15 L ∧ g 48 = .int .i64 (lgs ln L : Int) ∧ g 49 = .slice (some ⟨gs, 0, none⟩) M M ∧ g 50 = .slice (some ⟨gc, 0, none⟩) L L
set_option maxRecDepth 100000 in
theorem Tab.below {w w' : World} {b : Nat} {ln : Nat → Nat} {L : Nat} (h : Tab w b ln L) (hb : Below w.heap.size w w') : Tab w' b ln L := by
  obtain ⟨g, gs, gc, gg, M, hg, hr⟩ := h
  obtain ⟨hs, hs1, hs2⟩ := hg.sym
  obtain ⟨hc, hc1, hc2⟩ := hg.cod
  obtain ⟨hv, hv1, hv2⟩ := hg.giv
  exact ⟨g, gs, gc, gg, M, ⟨hg.tab.same (hb.block b hg.tab.lt), ⟨hs, hs1.same (hb.block gs hs1.lt), hs2⟩, ⟨hc, hc1.same (hb.block gc hc1.lt), hc2⟩, ⟨hv, hv1.same (hb.block gg hv1.lt), hv2⟩⟩, hr⟩
def g0 : Nat → Value := fun i => if i < 48 then .int .u32 0 else if i = 48 then .int .i64 0 else .slice none 0 0
set_option maxRecDepth 100000 in
theorem g0_rows : RowsAre g0 (fun _ => 0) (fun _ => 0) (fun _ => 0) := by
  intro n hn
  unfold g0
  exact ⟨by rw [if_pos (by omega)]; rfl, by rw [if_pos (by omega)]; rfl, by rw [if_pos (by omega)]; rfl⟩
end Go.Proofs.YtlmeoahcpmikiaaGreatDoor
