/-
  What a sum has taken in: the words behind the full blocks, the begun block, the count.
-/
import Derived.Test.YtbodjopdhciaeabDoorShaE
namespace Go.Proofs.YtbodjopdhciaeabDoor
open Go.RowKit

/-! ### Plain mathematics: block by block -/
def blk (M : List UInt8) (k : Nat) : List UInt8 := (M.drop (64 * k)).take 64
def absN (mix : List Nat → List UInt8 → List Nat) (s : List Nat) (M : List UInt8) : Nat → List Nat
  | 0 => s
  | k + 1 => mix (absN mix s M k) (blk M k)
theorem absN_app (mix : List Nat → List UInt8 → List Nat) (s : List Nat) (M l : List UInt8) (k : Nat) (h : 64 * k ≤ M.length) : absN mix s (M ++ l) k = absN mix s M k := by
  induction k with
  | zero => rfl
  | succ k ih =>
    have e : blk (M ++ l) k = blk M k := by
      unfold blk
      rw [List.drop_append_of_le_length (by omega), List.take_append_of_le_length (by rw [List.length_drop]; omega)]
    rw [absN, absN, ih (by omega), e]
def wordsAt (mix : List Nat → List UInt8 → List Nat) (s : List Nat) (M : List UInt8) : List Nat := absN mix s M (M.length / 64)
theorem wordsAt_nil (mix : List Nat → List UInt8 → List Nat) (s : List Nat) : wordsAt mix s [] = s := rfl
/-- A row of words of 32 bits. -/
structure W32 (n : Nat) (l : List Nat) : Prop where
  len : l.length = n
  bd : ∀ j, l.getD j 0 < 4294967296
theorem absN_ok {mix : List Nat → List UInt8 → List Nat} {s : List Nat} {n : Nat} (hs : W32 n s) (hm : ∀ h p, W32 n h → W32 n (mix h p)) (M : List UInt8) (k : Nat) : W32 n (absN mix s M k) := by
  induction k with
  | zero => exact hs
  | succ k ih => exact hm _ _ ih
/-- Part of a block is taken in; the block is not full. -/
theorem wordsAt_more (mix : List Nat → List UInt8 → List Nat) (s : List Nat) (M l : List UInt8) (h : (M.length + l.length) / 64 = M.length / 64) : wordsAt mix s (M ++ l) = wordsAt mix s M := by
  unfold wordsAt
  rw [List.length_append, h]
  exact absN_app mix s M l _ (by omega)
theorem wordsAt_full (mix : List Nat → List UInt8 → List Nat) (s : List Nat) (M l : List UInt8) (h : (M.length + l.length) / 64 = M.length / 64 + 1) (h0 : (M.length + l.length) % 64 = 0) :
    wordsAt mix s (M ++ l) = mix (wordsAt mix s M) ((M ++ l).drop (M.length / 64 * 64)) := by
  unfold wordsAt
  rw [List.length_append, h, absN, absN_app mix s M l _ (by omega)]
  congr 1
  unfold blk
  rw [Nat.mul_comm, List.take_of_length_le]
  rw [List.length_drop, List.length_append]; omega
theorem part_next (part M l : List UInt8) (hp : part.length = 64) (h : part.take (M.length % 64) = M.drop (M.length / 64 * 64)) (_hl : M.length % 64 + l.length ≤ 64) :
    (putB part (M.length % 64) l).take (M.length % 64 + l.length) = (M ++ l).drop (M.length / 64 * 64) := by
  unfold putB
  have e1 : (part.take (M.length % 64) ++ l).length = M.length % 64 + l.length := by rw [List.length_append, List.length_take]; omega
  rw [List.take_append_of_le_length (by omega), List.take_of_length_le (by omega), h, List.drop_append_of_le_length (by omega)]
theorem part_full (part M l : List UInt8) (hp : part.length = 64) (h : part.take (M.length % 64) = M.drop (M.length / 64 * 64)) (hl : M.length % 64 + l.length = 64) :
    putB part (M.length % 64) l = (M ++ l).drop (M.length / 64 * 64) := by
  rw [← part_next part M l hp h (by omega), hl, List.take_of_length_le]
  rw [putB_len _ _ _ (by omega)]; omega

/-! ### The box -/
/-- Blocks below B are as they were, but for b. -/
structure But (b B : Nat) (w w' : World) : Prop where
  os : w'.os = w.os
  tape : w'.tape = w.tape
  output : w'.output = w.output
  size : w.heap.size ≤ w'.heap.size
  block : ∀ k, k < B → k ≠ b → w'.heap[k]? = w.heap[k]?
theorem But.refl (b B : Nat) (w : World) : But b B w w := ⟨rfl, rfl, rfl, Nat.le_refl _, fun _ _ _ => rfl⟩
theorem But.trans {b B : Nat} {u v w : World} (h : But b B u v) (k : But b B v w) : But b B u w :=
  ⟨k.os.trans h.os, k.tape.trans h.tape, k.output.trans h.output, Nat.le_trans h.size k.size, fun i hi hb => (k.block i hi hb).trans (h.block i hi hb)⟩
theorem But.mono {b B B' : Nat} {w w' : World} (h : But b B w w') (hB : B' ≤ B) : But b B' w w' := ⟨h.os, h.tape, h.output, h.size, fun k hk => h.block k (Nat.lt_of_lt_of_le hk hB)⟩
theorem Only.but {b : Nat} {w w' : World} (h : Only b w w') (B : Nat) : But b B w w' := ⟨h.os, h.tape, h.output, by rw [h.size]; exact Nat.le_refl _, fun k _ hb => h.block k hb⟩
theorem But.below {b B : Nat} {w w' : World} (h : But b B w w') (hB : B ≤ b) : Below B w w' := ⟨h.os, h.tape, h.output, h.size, fun k hk => h.block k hk (by omega)⟩
theorem But.ofBelow {b B : Nat} {w w' : World} (h : Below B w w') : But b B w w' := ⟨h.os, h.tape, h.output, h.size, fun k hk _ => h.block k hk⟩
theorem But.drewN {b B : Nat} {w w' : World} (h : But b B w w') (n : Nat) : But b B w (w'.drewN n) := ⟨h.os, h.tape, h.output, h.size, h.block⟩
theorem Only.setCells {b : Nat} : ∀ (vs : List Value) (o : Nat) {w w' : World}, Only b w w' → Only b w (w'.setCells b o vs)
  | [], _, _, _, h => h
  | v :: r, o, _, _, h => Only.setCells r (o + 1) (h.setCell o v)
theorem setCells_box (b t : Nat) (rest : List Value) : ∀ (vs old A : List Value) (w : World), vs.length = old.length → w.heap[b]? = some (.cells (A ++ (old ++ rest)).toArray t (0, 0)) →
    (w.setCells b A.length vs).heap[b]? = some (.cells (A ++ (vs ++ rest)).toArray t (0, 0))
  | [], [], _, _, _, h => h
  | v :: r, x :: old, A, w, hl, h => by
    rw [World.setCells]
    have h1 := heap_setCell_same w b A.length _ t v h
    have e : (A ++ (x :: old ++ rest)).toArray.setIfInBounds A.length v = ((A ++ [v]) ++ (old ++ rest)).toArray := by
      rw [List.setIfInBounds_toArray, List.set_append_right _ _ (by omega)]; simp
    rw [e] at h1
    have h2 := setCells_box b t rest r old (A ++ [v]) _ (by simpa using hl) h1
    rw [List.length_append] at h2
    simpa using h2
theorem HBox.setPre {w : World} {b t : Nat} {pre : List Value} {part : List UInt8} {n : Nat} (h : HBox w b t pre part n) (pre' : List Value) (hl : pre'.length = pre.length) : HBox (w.setCells b 0 pre') b t pre' part n := by
  have := setCells_box b t (bytesV part ++ [Value.int .u64 (n : Int)]) pre' pre [] w hl h
  exact this
theorem HBox.rangePre {w : World} {b t : Nat} {pre : List Value} {part : List UInt8} {n : Nat} (h : HBox w b t pre part n) : w.rangeAt b 0 pre := by
  intro j v hv
  rw [cell_of_row w b (0 + j) _ t (0, 0) h]
  have hj : j < pre.length := (List.getElem?_eq_some_iff.1 hv).1
  rw [Nat.zero_add]
  simp only [List.getElem?_toArray]
  rw [List.getElem?_append_left hj]; exact hv
theorem HBox.rangePart {w : World} {b t : Nat} {pre : List Value} {part : List UInt8} {n : Nat} (h : HBox w b t pre part n) : w.rangeAt b pre.length (bytesV part) := by
  intro j v hv
  rw [cell_of_row w b (pre.length + j) _ t (0, 0) h]
  have hj : j < (bytesV part).length := (List.getElem?_eq_some_iff.1 hv).1
  simp only [List.getElem?_toArray]
  rw [List.getElem?_append_right (by omega), show pre.length + j - pre.length = j by omega, List.getElem?_append_left hj]; exact hv
theorem HBox.therePre {w : World} {b t : Nat} {pre : List Value} {part : List UInt8} {n : Nat} (h : HBox w b t pre part n) : w.there b 0 pre.length := by
  intro j hj
  exact ⟨h.rangePre.isSome j hj, h.frozenN (0 + j)⟩

/-- The sum at b has taken in M. -/
def HashT (mix : List Nat → List UInt8 → List Nat) (s : List Nat) (t : Nat) (w : World) (b : Nat) (M : List UInt8) : Prop :=
  ∃ part, part.length = 64 ∧ part.take (M.length % 64) = M.drop (M.length / 64 * 64) ∧ HBox w b t (wordsV (wordsAt mix s M)) part M.length
/-- The same, but of an untouched sum the words are whatever. -/
def HashS (mix : List Nat → List UInt8 → List Nat) (s : List Nat) (t : Nat) (w : World) (b : Nat) (M : List UInt8) : Prop :=
  ∃ ws part, ws.length = s.length ∧ part.length = 64 ∧ (M ≠ [] → ws = wordsAt mix s M) ∧ part.take (M.length % 64) = M.drop (M.length / 64 * 64) ∧ HBox w b t (wordsV ws) part M.length
theorem HashT.loose {mix : List Nat → List UInt8 → List Nat} {s : List Nat} {t : Nat} {w : World} {b : Nat} {M : List UInt8} (h : HashT mix s t w b M) (hl : (wordsAt mix s M).length = s.length) : HashS mix s t w b M := by
  obtain ⟨part, h1, h2, h3⟩ := h
  exact ⟨_, part, hl, h1, fun _ => rfl, h2, h3⟩
theorem HashS.same {mix : List Nat → List UInt8 → List Nat} {s : List Nat} {t : Nat} {w w' : World} {b : Nat} {M : List UInt8} (h : HashS mix s t w b M) (hh : w'.heap[b]? = w.heap[b]?) : HashS mix s t w' b M := by
  obtain ⟨ws, part, h1, h2, h3, h4, h5⟩ := h
  exact ⟨ws, part, h1, h2, h3, h4, h5.same hh⟩

/-! ### SHA-1's mixing, of lists -/
theorem h0_ok : W32 5 h0 := ⟨rfl, by
  intro j
  match j with
  | 0 | 1 | 2 | 3 | 4 => decide
  | j + 5 => simp [h0]⟩
theorem mixL1_form (h : List Nat) (p : List UInt8) : ∃ a b c d e a' b' c' d' e', mixL1 h p = [add32 a a', add32 b b', add32 c c', add32 d d', add32 e e'] := by
  unfold mixL1
  generalize rounds1 (sched1 p) (h.getD 0 0, h.getD 1 0, h.getD 2 0, h.getD 3 0, h.getD 4 0) 80 = r
  exact ⟨_, _, _, _, _, _, _, _, _, _, rfl⟩
theorem mixL1_ok (h : List Nat) (p : List UInt8) : W32 5 (mixL1 h p) := by
  obtain ⟨a, b, c, d, e, a', b', c', d', e', hf⟩ := mixL1_form h p
  rw [hf]
  refine ⟨rfl, ?_⟩
  intro j
  match j with
  | 0 => exact add32_lt a a'
  | 1 => exact add32_lt b b'
  | 2 => exact add32_lt c c'
  | 3 => exact add32_lt d d'
  | 4 => exact add32_lt e e'
  | j + 5 => simp
theorem five_of (h : List Nat) (hl : h.length = 5) : ∃ a b c d e, h = [a, b, c, d, e] := by
  match h, hl with
  | [a, b, c, d, e], _ => exact ⟨a, b, c, d, e, rfl⟩
theorem W32.at5 {n : Nat} {l : List Nat} (h : W32 n l) (j x : Nat) (hx : l.getD j 0 = x) : x < 4294967296 := by rw [← hx]; exact h.bd j
theorem mix1_list (h : List Nat) (p : List UInt8) (w : World) (hp : p.length = 64) (hh : W32 5 h) :
    Calls Tryd.prog 40 #[.agg (wordsV h).toArray, .agg (bytesV p).toArray] w fun e w' => e = .returned (.agg (wordsV (mixL1 h p)).toArray) ∧ Below w.heap.size w w' := by
  obtain ⟨a, b, c, d, e, rfl⟩ := five_of h hh.len
  exact mix1_any a b c d e p w hp (hh.at5 0 a rfl) (hh.at5 1 b rfl) (hh.at5 2 c rfl) (hh.at5 3 d rfl) (hh.at5 4 e rfl)
end Go.Proofs.YtbodjopdhciaeabDoor
