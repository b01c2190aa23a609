/-
  The lexer of module files: the next token.
-/
import Derived.Test.YtgkjmmfpbcgmgaaDoorLexA
import Derived.OwnWalk
import Derived.Laws.Tables
import Derived.Scope
import Derived.ScopeJumps
namespace Go.Proofs.YtgkjmmfpbcgmgaaDoor
open Go.RowKit

/-- As Q; by a goto to label l: J l. -/
def jumpN (J : Nat → Act → World → Prop) (Q : Exit → Act → World → Prop) : Exit → Act → World → Prop
  | .goto l, a, w => J l a w
  | e, a, w => Q e a w
theorem wp_scope_many {P : Program} {a : Act} {w : World} {Q : Exit → Act → World → Prop} {c : Code} (J : Nat → Act → World → Prop) (μ : Nat → Act → World → Nat)
    (first : c.wp P (jumpN (fun l a w => (findLabel c l).isSome = true ∧ J l a w) Q) a w)
    (pass : ∀ l rest a w, findLabel c l = some rest → J l a w → rest.wp P (jumpN (fun l' a' w' => (findLabel c l').isSome = true ∧ J l' a' w' ∧ μ l' a' w' < μ l a w) Q) a w) : (Code.scope c).wp P Q a w := by
  intro b k cs
  have hg : ∀ l rest, findLabel c l = some rest → gotoIn l (.inScope c :: k) = some (.code rest :: .inScope c :: k) := fun l rest hf => by simp [gotoIn, hf]
  have key : ∀ n l rest a w, findLabel c l = some rest → μ l a w = n → J l a w → ∃ e a' w', Q e a' w' ∧ Arrives P (lone (b.at a (.code rest :: .inScope c :: k)) cs w) b k cs e a' w' := by
    intro n
    induction n using Nat.strongRecOn with
    | _ n ih =>
      intro l rest a w hf hn hJ
      obtain ⟨e, a₁, w₁, hq, harr⟩ := pass l rest a w hf hJ b (.inScope c :: k) cs
      cases e with
      | normal => exact ⟨.normal, a₁, w₁, hq, Steps.trans harr (.one step_inScope)⟩
      | exit id => exact ⟨.exit id, a₁, w₁, hq, fun k' hk => harr k' (by simp [exitTo, hk])⟩
      | goto l' =>
        obtain ⟨hs, hJ', hlt⟩ := hq
        obtain ⟨rest', hf'⟩ := Option.isSome_iff_exists.1 hs
        obtain ⟨e₂, a₂, w₂, hq₂, harr₂⟩ := ih _ (by omega) l' rest' a₁ w₁ hf' rfl hJ'
        exact ⟨e₂, a₂, w₂, hq₂, .of_steps (harr _ (hg _ _ hf')) harr₂⟩
      | ret => exact ⟨_, a₁, w₁, hq, harr⟩
      | panic ch => exact ⟨_, a₁, w₁, hq, harr⟩
      | outgrown => exact ⟨_, a₁, w₁, hq, harr⟩
  obtain ⟨e, a₁, w₁, hq, harr⟩ := first b (.inScope c :: k) cs
  cases e with
  | normal => exact ⟨.normal, a₁, w₁, hq, .head step_scope (Steps.trans harr (.one step_inScope))⟩
  | exit id => exact ⟨.exit id, a₁, w₁, hq, fun k' hk => .head step_scope (harr k' (by simp [exitTo, hk]))⟩
  | goto l' =>
    obtain ⟨hs, hJ'⟩ := hq
    obtain ⟨rest', hf'⟩ := Option.isSome_iff_exists.1 hs
    obtain ⟨e₂, a₂, w₂, hq₂, harr₂⟩ := key _ l' rest' a₁ w₁ hf' rfl hJ'
    exact ⟨e₂, a₂, w₂, hq₂, .of_steps (.head step_scope (harr _ (hg _ _ hf'))) harr₂⟩
  | ret => exact ⟨_, a₁, w₁, hq, .of_steps (.one step_scope) harr⟩
  | panic ch => exact ⟨_, a₁, w₁, hq, .of_steps (.one step_scope) harr⟩
  | outgrown => exact ⟨_, a₁, w₁, hq, .of_steps (.one step_scope) harr⟩
/-- .. five labels, where the way falls through from label m (the first one) to label n. -/
theorem wp_scope_fall {P : Program} {a : Act} {w : World} {Q : Exit → Act → World → Prop} {c ym yn y1 y2 y3 : Code} (m n l1 l2 l3 : Nat) (J : Nat → Act → World → Prop) (μ : Nat → Act → World → Nat)
    (fm : findLabel c m = some (.seq .skip ym)) (fn : findLabel c n = some (.seq .skip yn)) (f1 : findLabel c l1 = some (.seq .skip y1)) (f2 : findLabel c l2 = some (.seq .skip y2)) (f3 : findLabel c l3 = some (.seq .skip y3))
    (hl : ∀ l a w, J l a w → l = m ∨ l = n ∨ l = l1 ∨ l = l2 ∨ l = l3)
    (hn : ∀ a w, J n a w → yn.wp P (jumpN (fun l' a' w' => J l' a' w' ∧ μ l' a' w' < μ n a w) Q) a w)
    (hm : (∀ a w M, J n a w → μ n a w ≤ M → yn.wp P (jumpN (fun l' a' w' => J l' a' w' ∧ μ l' a' w' < M) Q) a w) →
      ∀ a w, J m a w → ym.wp P (jumpN (fun l' a' w' => J l' a' w' ∧ μ l' a' w' < μ m a w) Q) a w)
    (h1 : ∀ a w, J l1 a w → y1.wp P (jumpN (fun l' a' w' => J l' a' w' ∧ μ l' a' w' < μ l1 a w) Q) a w)
    (h2 : ∀ a w, J l2 a w → y2.wp P (jumpN (fun l' a' w' => J l' a' w' ∧ μ l' a' w' < μ l2 a w) Q) a w)
    (h3 : ∀ a w, J l3 a w → y3.wp P (jumpN (fun l' a' w' => J l' a' w' ∧ μ l' a' w' < μ l3 a w) Q) a w)
    (first : (∀ a w, J m a w → ym.wp P (jumpN (fun l a w => (findLabel c l).isSome = true ∧ J l a w) Q) a w) → c.wp P (jumpN (fun l a w => (findLabel c l).isSome = true ∧ J l a w) Q) a w) : (Code.scope c).wp P Q a w := by
  have hs : ∀ l a w, J l a w → (findLabel c l).isSome = true := by
    intro l a w hJ
    rcases hl l a w hJ with rfl | rfl | rfl | rfl | rfl
    · rw [fm]; rfl
    · rw [fn]; rfl
    · rw [f1]; rfl
    · rw [f2]; rfl
    · rw [f3]; rfl
  have hn' : ∀ a w M, J n a w → μ n a w ≤ M → yn.wp P (jumpN (fun l' a' w' => J l' a' w' ∧ μ l' a' w' < M) Q) a w :=
    fun a w M hJ hM => wp_mono (hn a w hJ) (fun e a w h => by cases e <;> first | exact h | exact ⟨h.1, Nat.lt_of_lt_of_le h.2 hM⟩)
  have hm' := hm hn'
  have up : ∀ (M : Nat) e a w, jumpN (fun l' a' w' => J l' a' w' ∧ μ l' a' w' < M) Q e a w → jumpN (fun l' a' w' => (findLabel c l').isSome = true ∧ J l' a' w' ∧ μ l' a' w' < M) Q e a w :=
    fun M e a w h => by cases e <;> first | exact h | exact ⟨hs _ _ _ h.1, h.1, h.2⟩
  refine wp_scope_many J μ (first fun a w hJ => wp_mono (hm' a w hJ) (fun e a w h => by cases e <;> first | exact h | exact ⟨hs _ _ _ h.1, h.1⟩)) ?_
  intro l rest a w hf hJ
  rcases hl l a w hJ with rfl | rfl | rfl | rfl | rfl
  · rw [fm] at hf; cases hf; exact wp_seq (wp_skip (wp_mono (hm' a w hJ) (up _)))
  · rw [fn] at hf; cases hf; exact wp_seq (wp_skip (wp_mono (hn a w hJ) (up _)))
  · rw [f1] at hf; cases hf; exact wp_seq (wp_skip (wp_mono (h1 a w hJ) (up _)))
  · rw [f2] at hf; cases hf; exact wp_seq (wp_skip (wp_mono (h2 a w hJ) (up _)))
  · rw [f3] at hf; cases hf; exact wp_seq (wp_skip (wp_mono (h3 a w hJ) (up _)))

/-- Of the blocks below D only b has turned. -/
structure But (b D : Nat) (w w' : World) : Prop where
  os : w'.os = w.os
  tape : w'.tape = w.tape
  output : w'.output = w.output
  size : w.heap.size ≤ w'.heap.size
  block : ∀ k, k < D → k ≠ b → w'.heap[k]? = w.heap[k]?
theorem But.refl (b D : Nat) (w : World) : But b D w w := ⟨rfl, rfl, rfl, Nat.le_refl _, fun _ _ _ => rfl⟩
theorem But.trans {b D : Nat} {u v w : World} (h : But b D u v) (k : But b D v w) : But b D u w :=
  ⟨k.os.trans h.os, k.tape.trans h.tape, k.output.trans h.output, Nat.le_trans h.size k.size, fun n h1 h2 => (k.block n h1 h2).trans (h.block n h1 h2)⟩
theorem But.mono {b D B : Nat} {v w : World} (h : But b B v w) (hB : D ≤ B) : But b D v w :=
  ⟨h.os, h.tape, h.output, h.size, fun n h1 h2 => h.block n (by omega) h2⟩
theorem Only.but {b D : Nat} {v w : World} (h : Only b v w) : But b D v w := ⟨h.os, h.tape, h.output, by rw [h.size]; exact Nat.le_refl _, fun k _ hk => h.block k hk⟩
theorem But.of_below {b D B : Nat} {v w : World} (h : Below B v w) (hB : D ≤ B) : But b D v w := ⟨h.os, h.tape, h.output, h.size, fun k h1 _ => h.block k (by omega)⟩
theorem But.setRow {b D : Nat} {v w : World} {c : Array Value} (h : But b D v w) : But b D v (w.setRow D c) :=
  h.trans ⟨rfl, rfl, rfl, by simp, fun k h1 _ => setRow_other w D k c (by omega)⟩
theorem But.setCell {b D : Nat} {v w : World} (h : But b D v w) (o : Nat) (x : Value) : But b D v (w.setCell ⟨D, o, none⟩ x) :=
  h.trans ⟨rfl, rfl, rfl, by simp [World.setCell], fun k h1 _ => Below.heap_setCell w ⟨D, o, none⟩ x k (by simp; omega)⟩

/-- The lexer's box and the token's, within a call. -/
structure NX (b D : Nat) (s : ByteArray) (w0 w : World) (p : Nat) : Prop where
  box : RBox w b s p
  lim : p ≤ s.size
  cell : w.heap[D]? = some (.cells #[.int .i64 0, .string ⟨#[]⟩] 66 (0, 0))
  but : But b D w0 w
  own : b < D
theorem NX.only {b D : Nat} {s : ByteArray} {w0 w w' : World} {p p' : Nat} (h : NX b D s w0 w p) (hB : RBox w' b s p') (hp : p' ≤ s.size) (hO : Only b w w') : NX b D s w0 w' p' :=
  ⟨hB, hp, (hO.block D (by have := h.own; omega)).trans h.cell, h.but.trans hO.but, h.own⟩
theorem NX.lt {b D : Nat} {s : ByteArray} {w0 w : World} {p : Nat} (h : NX b D s w0 w p) : D < w.heap.size := (Array.getElem?_eq_some_iff.1 h.cell).1
theorem NX.below {b D B : Nat} {s : ByteArray} {w0 w w' : World} {p : Nat} (h : NX b D s w0 w p) (hb : Below B w w') (hB : D < B) : NX b D s w0 w' p :=
  ⟨h.box.below hb (by have := h.own; omega), h.lim, (hb.block D hB).trans h.cell, h.but.trans (But.of_below hb (by omega)), h.own⟩
theorem NX.quiet {b D : Nat} {s : ByteArray} {w0 w : World} {p : Nat} (h : NX b D s w0 w p) (n : Nat) : NX b D s w0 (w.drewN n) p :=
  h.only (h.box.drewN n) h.lim (Only.quiet n)
def frN (b D : Nat) (sv fv : Value) (a : Act) : Prop := ∃ u : Nat → Value, a = { tmps := #[.pointer (some ⟨b, 0, none⟩), u 1, .pointer (some ⟨D, 0, none⟩), sv, fv, u 5, u 6, u 7, u 8, u 9, u 10, u 11, u 12, u 13, u 14, u 15, u 16, u 17, u 18, u 19, u 20, u 21, u 22, u 23, u 24, u 25, u 26, u 27, u 28, u 29, u 30, u 31, u 32, u 33, u 34, u 35, u 36, u 37, u 38, u 39, u 40, u 41, u 42, u 43, u 44, u 45, u 46, u 47, u 48, u 49, u 50, u 51, u 52, u 53, u 54, u 55, u 56, u 57, u 58, u 59, u 60, u 61, u 62, u 63, u 64, u 65, u 66, u 67, u 68, u 69, u 70, u 71, u 72, u 73, u 74, u 75, u 76, u 77, u 78, u 79, u 80, u 81, u 82, u 83, u 84, u 85, u 86, u 87, u 88, u 89, u 90, u 91, u 92, u 93, u 94, u 95, u 96, u 97, u 98, u 99, u 100, u 101, u 102, u 103, u 104], defers := [] }
set_option maxRecDepth 100000 in
theorem list_105 (l : List Value) (h : l.length = 105) : l = [l.getD 0 undef, l.getD 1 undef, l.getD 2 undef, l.getD 3 undef, l.getD 4 undef, l.getD 5 undef, l.getD 6 undef, l.getD 7 undef, l.getD 8 undef, l.getD 9 undef, l.getD 10 undef, l.getD 11 undef, l.getD 12 undef, l.getD 13 undef, l.getD 14 undef, l.getD 15 undef, l.getD 16 undef, l.getD 17 undef, l.getD 18 undef, l.getD 19 undef, l.getD 20 undef, l.getD 21 undef, l.getD 22 undef, l.getD 23 undef, l.getD 24 undef, l.getD 25 undef, l.getD 26 undef, l.getD 27 undef, l.getD 28 undef, l.getD 29 undef, l.getD 30 undef, l.getD 31 undef, l.getD 32 undef, l.getD 33 undef, l.getD 34 undef, l.getD 35 undef, l.getD 36 undef, l.getD 37 undef, l.getD 38 undef, l.getD 39 undef, l.getD 40 undef, l.getD 41 undef, l.getD 42 undef, l.getD 43 undef, l.getD 44 undef, l.getD 45 undef, l.getD 46 undef, l.getD 47 undef, l.getD 48 undef, l.getD 49 undef, l.getD 50 undef, l.getD 51 undef, l.getD 52 undef, l.getD 53 undef, l.getD 54 undef, l.getD 55 undef, l.getD 56 undef, l.getD 57 undef, l.getD 58 undef, l.getD 59 undef, l.getD 60 undef, l.getD 61 undef, l.getD 62 undef, l.getD 63 undef, l.getD 64 undef, l.getD 65 undef, l.getD 66 undef, l.getD 67 undef, l.getD 68 undef, l.getD 69 undef, l.getD 70 undef, l.getD 71 undef, l.getD 72 undef, l.getD 73 undef, l.getD 74 undef, l.getD 75 undef, l.getD 76 undef, l.getD 77 undef, l.getD 78 undef, l.getD 79 undef, l.getD 80 undef, l.getD 81 undef, l.getD 82 undef, l.getD 83 undef, l.getD 84 undef, l.getD 85 undef, l.getD 86 undef, l.getD 87 undef, l.getD 88 undef, l.getD 89 undef, l.getD 90 undef, l.getD 91 undef, l.getD 92 undef, l.getD 93 undef, l.getD 94 undef, l.getD 95 undef, l.getD 96 undef, l.getD 97 undef, l.getD 98 undef, l.getD 99 undef, l.getD 100 undef, l.getD 101 undef, l.getD 102 undef, l.getD 103 undef, l.getD 104 undef] := by
  apply List.ext_getElem?
  intro i
  by_cases hi : i < 105
  · have h1 : l[i]? = some (l.getD i undef) := by rw [List.getD_eq_getElem?_getD, List.getElem?_eq_getElem (by omega)]; rfl
    rw [h1]
    have h2 : ∀ i, i < 105 → ([0, 1, 2, 3, 4, 5, 6, 7, 8, 9, 10, 11, 12, 13, 14, 15, 16, 17, 18, 19, 20, 21, 22, 23, 24, 25, 26, 27, 28, 29, 30, 31, 32, 33, 34, 35, 36, 37, 38, 39, 40, 41, 42, 43, 44, 45, 46, 47, 48, 49, 50, 51, 52, 53, 54, 55, 56, 57, 58, 59, 60, 61, 62, 63, 64, 65, 66, 67, 68, 69, 70, 71, 72, 73, 74, 75, 76, 77, 78, 79, 80, 81, 82, 83, 84, 85, 86, 87, 88, 89, 90, 91, 92, 93, 94, 95, 96, 97, 98, 99, 100, 101, 102, 103, 104] : List Nat)[i]? = some i := by decide
    have h3 : [l.getD 0 undef, l.getD 1 undef, l.getD 2 undef, l.getD 3 undef, l.getD 4 undef, l.getD 5 undef, l.getD 6 undef, l.getD 7 undef, l.getD 8 undef, l.getD 9 undef, l.getD 10 undef, l.getD 11 undef, l.getD 12 undef, l.getD 13 undef, l.getD 14 undef, l.getD 15 undef, l.getD 16 undef, l.getD 17 undef, l.getD 18 undef, l.getD 19 undef, l.getD 20 undef, l.getD 21 undef, l.getD 22 undef, l.getD 23 undef, l.getD 24 undef, l.getD 25 undef, l.getD 26 undef, l.getD 27 undef, l.getD 28 undef, l.getD 29 undef, l.getD 30 undef, l.getD 31 undef, l.getD 32 undef, l.getD 33 undef, l.getD 34 undef, l.getD 35 undef, l.getD 36 undef, l.getD 37 undef, l.getD 38 undef, l.getD 39 undef, l.getD 40 undef, l.getD 41 undef, l.getD 42 undef, l.getD 43 undef, l.getD 44 undef, l.getD 45 undef, l.getD 46 undef, l.getD 47 undef, l.getD 48 undef, l.getD 49 undef, l.getD 50 undef, l.getD 51 undef, l.getD 52 undef, l.getD 53 undef, l.getD 54 undef, l.getD 55 undef, l.getD 56 undef, l.getD 57 undef, l.getD 58 undef, l.getD 59 undef, l.getD 60 undef, l.getD 61 undef, l.getD 62 undef, l.getD 63 undef, l.getD 64 undef, l.getD 65 undef, l.getD 66 undef, l.getD 67 undef, l.getD 68 undef, l.getD 69 undef, l.getD 70 undef, l.getD 71 undef, l.getD 72 undef, l.getD 73 undef, l.getD 74 undef, l.getD 75 undef, l.getD 76 undef, l.getD 77 undef, l.getD 78 undef, l.getD 79 undef, l.getD 80 undef, l.getD 81 undef, l.getD 82 undef, l.getD 83 undef, l.getD 84 undef, l.getD 85 undef, l.getD 86 undef, l.getD 87 undef, l.getD 88 undef, l.getD 89 undef, l.getD 90 undef, l.getD 91 undef, l.getD 92 undef, l.getD 93 undef, l.getD 94 undef, l.getD 95 undef, l.getD 96 undef, l.getD 97 undef, l.getD 98 undef, l.getD 99 undef, l.getD 100 undef, l.getD 101 undef, l.getD 102 undef, l.getD 103 undef, l.getD 104 undef] = ([0, 1, 2, 3, 4, 5, 6, 7, 8, 9, 10, 11, 12, 13, 14, 15, 16, 17, 18, 19, 20, 21, 22, 23, 24, 25, 26, 27, 28, 29, 30, 31, 32, 33, 34, 35, 36, 37, 38, 39, 40, 41, 42, 43, 44, 45, 46, 47, 48, 49, 50, 51, 52, 53, 54, 55, 56, 57, 58, 59, 60, 61, 62, 63, 64, 65, 66, 67, 68, 69, 70, 71, 72, 73, 74, 75, 76, 77, 78, 79, 80, 81, 82, 83, 84, 85, 86, 87, 88, 89, 90, 91, 92, 93, 94, 95, 96, 97, 98, 99, 100, 101, 102, 103, 104] : List Nat).map (fun k => l.getD k undef) := rfl
    rw [h3, List.getElem?_map, h2 i hi]
    rfl
  · rw [List.getElem?_eq_none (by omega), List.getElem?_eq_none (by simp; omega)]
theorem frN_mk {b D : Nat} {sv fv : Value} {a : Act} (hs : a.tmps.toList.length = 105) (h0 : a.tmps.toList.getD 0 undef = .pointer (some ⟨b, 0, none⟩)) (h2 : a.tmps.toList.getD 2 undef = .pointer (some ⟨D, 0, none⟩))
    (h3 : a.tmps.toList.getD 3 undef = sv) (h4 : a.tmps.toList.getD 4 undef = fv) (hd : a.defers = []) : frN b D sv fv a := by
  refine ⟨fun i => a.tmps.toList.getD i undef, ?_⟩
  have h := list_105 _ hs
  rw [h0, h2, h3, h4] at h
  obtain ⟨t, d⟩ := a
  obtain ⟨l⟩ := t
  simp only at hd h
  rw [hd]
  congr 2
/-- bytes in a row -/
def bytesV (l : List UInt8) : List Value := l.map fun (c : UInt8) => .int .u8 (c.toNat : Int)
theorem bytesV_app (a b : List UInt8) : bytesV (a ++ b) = bytesV a ++ bytesV b := by simp [bytesV]
theorem bytesV_at (l : List UInt8) (j : Nat) (hj : j < l.length) : (bytesV l)[j]? = some (.int .u8 ((l[j].toNat : Nat) : Int)) := by simp [bytesV, hj]
/-- The value v owns just the bytes l, in memory from 'base' on. -/
def OwnB (w : World) (base : Nat) (v : Value) (l : List UInt8) : Prop := w.ownsRow base 5 1 v l.length (bytesV l)
set_option maxRecDepth 100000 in
theorem conv_own {w : World} {base : Nat} {v : Value} {l : List UInt8} (h : OwnB w base v l) :
    (convert 73 9 v).run Tryd.prog w = .ok (.string ⟨l.toArray⟩) w := by
  rcases h.2 with ⟨rfl, hn⟩ | ⟨g, cap, cur, rfl, hb, hg, hnc, hcm, hcs, htake⟩
  · have : l = [] := List.eq_nil_of_length_eq_zero hn
    subst this
    rw [run_convert_bytes_string w 73 9 5 none 0 0 Tryd.underlying73 Tryd.underlying5 Tryd.underlying9]
    rfl
  · refine run_convert_bytes_back w 73 9 5 _ cap l Tryd.underlying73 Tryd.underlying5 Tryd.underlying9 ?_
    intro j hj
    have := World.ownsRow.cells (g := g) h rfl j _ (bytesV_at l j hj)
    exact this
theorem cell_new_one (w : World) (v : Value) : ∀ j u, [v][j]? = some u → (w.alloc (.cells #[v] 5)).cell? ((⟨w.heap.size, 0, none⟩ : Addr).add j) = some u := by
  intro j u hj
  match j, hj with
  | 0, hj => simp at hj; subst hj; simp [Addr.add]
theorem own_push {w1 : World} {B : Nat} {v' : Value} {P : List UInt8} {c : UInt8} (h : w1.ownsRow B 5 1 v' (P.length + 1) (bytesV P ++ [.int .u8 (c.toNat : Int)])) : OwnB w1 B v' (P ++ [c]) := by
  unfold OwnB
  rw [bytesV_app]
  simpa [bytesV] using h
theorem below_push {w wr w1 : World} {B : Nat} {v : Value} {P : List UInt8} {o : Obj} (hown : OwnB wr B v P) (hb : Below B w wr) (hB : B ≤ wr.heap.size) (hg : (wr.alloc o).grownBy w1 v.ownBlock) : Below B w w1 :=
  (hb.alloc hB o).grown hg (by simp; omega) (fun k hk => (World.ownsRow.lt hown k hk).1)
def jumpL (b D : Nat) (s : ByteArray) (S : List UInt8) (w0 : World) (l : Nat) (a : Act) (w : World) : Prop :=
  match l with
  | 0 => ∃ fv, frN b D (.slice none 0 0) fv a ∧ ∃ p, NX b D s w0 w p ∧ skipL false (restL s p) = S
  | 1 => ∃ fv, frN b D (.slice none 0 0) fv a ∧ ∃ p, NX b D s w0 w p ∧ skipL true (restL s p) = S
  | 2 => ∃ sv fv, frN b D sv fv a ∧ ∃ p r acc, NX b D s w0 w p ∧ S = 34 :: r ∧ OwnB w (D + 1) sv acc ∧ acc.length ≤ p ∧ quoL r = (quoL (restL s p)).map fun x => (acc ++ x.1, x.2)
  | 3 => ∃ f : Nat, frN b D (.slice none 0 0) (.int .i64 (f : Int)) a ∧ ∃ p r, NX b D s w0 w p ∧ S = 96 :: r ∧ restL s f = S ∧ f + 1 ≤ p ∧ rawL r = (rawL (restL s p)).map (· + (p - f - 1))
  | 4 => ∃ f : Nat, frN b D (.slice none 0 0) (.int .i64 (f : Int)) a ∧ ∃ p c r, NX b D s w0 w p ∧ S = c :: r ∧ restL s f = S ∧ f + 1 ≤ p ∧ wordN r = (p - f - 1) + wordN (restL s p) ∧ tokS S = (5, c :: r.take (wordN r), r.drop (wordN r))
  | _ => False
def posOf (b : Nat) (w : World) : Nat := match w.cell? ⟨b, 1, none⟩ with
  | some (.int _ q) => q.toNat
  | _ => 0
theorem posOf_box {b : Nat} {w : World} {s : ByteArray} {t : Nat} (h : RBox w b s t) : posOf b w = t := by
  unfold posOf
  rw [h.taken]
  rfl
def muL (b : Nat) (s : ByteArray) (l : Nat) (_a : Act) (w : World) : Nat :=
  4 * (s.size - posOf b w) + (if l = 0 then (if remB (restL s (posOf b w)) then 3 else 1) else if l = 1 then 2 else 0)
theorem muL_box {b : Nat} {w : World} {s : ByteArray} {t l : Nat} {a : Act} (h : RBox w b s t) : muL b s l a w = 4 * (s.size - t) + (if l = 0 then (if remB (restL s t) then 3 else 1) else if l = 1 then 2 else 0) := by
  unfold muL; rw [posOf_box h]
def NextPost (b : Nat) (s : ByteArray) (t : Nat) (w : World) (e : Ending) (w' : World) : Prop :=
  ∃ p', e = .returned (.agg #[.int .i64 ((tokL (restL s t)).1 : Int), .string ⟨(tokL (restL s t)).2.1.toArray⟩]) ∧ RBox w' b s p' ∧ p' ≤ s.size ∧ But b w.heap.size w w' ∧ ((tokL (restL s t)).1 ≠ 6 → restL s p' = (tokL (restL s t)).2.2)
theorem size66 : (Tryd.prog.info? 66).map (·.size) = some 2 := by kernel_rfl
theorem zero66 (w : World) : (zeroValue 66).run Tryd.prog w = .ok (.agg #[.int .i64 0, .string ⟨#[]⟩]) w := by kernel_rfl
theorem ones66 (m : Int) (a : ByteArray) : (#[.int .i64 m, .string a] : Array Value).all (·.oneCell') = true := by simp [Value.oneCell']
theorem rem_skip {l : List UInt8} (h : remB l = true) : skipL true l = skipL false l := by
  cases l with
  | nil => simp [remB] at h
  | cons c r =>
    have hc : c ≠ 10 := by rintro rfl; cases r <;> simp [remB] at h
    rw [skipL, skipL, if_neg hc, if_pos h]
theorem ext_bytes (s : ByteArray) (f p : Nat) : s.extract f p = ⟨((restL s f).take (p - f)).toArray⟩ := by
  have h : (s.extract f p).data.toList = (restL s f).take (p - f) := by rw [Lib.extract_data]; rfl
  rw [← h]
theorem byte_of {c : UInt8} {n : Nat} (h : (c.toNat : Int) = (n : Int)) (hn : n < 256) : c = UInt8.ofNat n := by
  apply UInt8.toNat_inj.1
  simp
  omega

theorem own_only {w w' : World} {B b : Nat} {v : Value} {P : List UInt8} (h : OwnB w B v P) (hO : Only b w w') (hb : b < B) : OwnB w' B v P := by
  obtain ⟨hl, h2⟩ := h
  refine ⟨hl, ?_⟩
  rcases h2 with h2 | ⟨g, cap, cur, rfl, hB, hg, hr⟩
  · exact .inl h2
  · exact .inr ⟨g, cap, cur, rfl, hB, (hO.block g (by omega)).trans hg, hr⟩
theorem info5x : (Tryd.prog.info? 5).map (fun i => (i.zero, i.size, i.bytes)) = some (some (.int .u8 0), 1, 1) := by kernel_rfl
theorem mnt_eq (d : UInt8) : mntI (d.toNat : Int) = match mntL d with | none => -1 | some e => (e.toNat : Int) := by
  unfold mntI mntL
  by_cases h1 : d = 34
  · subst h1; rfl
  · by_cases h2 : d = 92
    · subst h2; rfl
    · by_cases h3 : d = 110
      · subst h3; rfl
      · by_cases h4 : d = 116
        · subst h4; rfl
        · have e1 : ¬ ((d.toNat : Int) = 34 ∨ (d.toNat : Int) = 92) := by
            rintro (h | h)
            · exact h1 (byte_of (n := 34) h (by decide))
            · exact h2 (byte_of (n := 92) h (by decide))
          have e2 : ¬ (d.toNat : Int) = 110 := fun h => h3 (byte_of (n := 110) h (by decide))
          have e3 : ¬ (d.toNat : Int) = 116 := fun h => h4 (byte_of (n := 116) h (by decide))
          simp [e1, e2, e3, h1, h2, h3, h4]
theorem mnt_none {d : UInt8} (h : mntL d = none) : mntI (d.toNat : Int) = -1 := by rw [mnt_eq, h]
theorem mnt_some {d e : UInt8} (h : mntL d = some e) : mntI (d.toNat : Int) = (e.toNat : Int) := by rw [mnt_eq, h]
theorem u8_wrap (e : UInt8) : IntKind.u8.wrap (e.toNat : Int) = (e.toNat : Int) := by
  have := e.toNat_lt
  simp [IntKind.wrap, IntKind.bits, IntKind.signed]
  try omega

theorem box2_set {w : World} {g : Nat} {x y a0 a1 : Value} {ty : TypeId} (h : w.heap[g]? = some (.cells #[a0, a1] ty (0, 0))) : ((w.setCell ⟨g, 0, none⟩ x).setCell ⟨g, 1, none⟩ y).heap[g]? = some (.cells #[x, y] ty (0, 0)) := by
  have h1 := heap_setCell_same w g 0 _ ty x h
  rw [heap_setCell_same _ g 1 _ ty y h1]
  rfl
theorem jumpL_is {b D : Nat} {s : ByteArray} {S : List UInt8} {w0 : World} (l : Nat) (a : Act) (w : World) (h : jumpL b D s S w0 l a w) : l = 0 ∨ l = 4 ∨ l = 1 ∨ l = 3 ∨ l = 2 := by
  match l, h with
  | 0, _ => simp
  | 1, _ => simp
  | 2, _ => simp
  | 3, _ => simp
  | 4, _ => simp
set_option maxHeartbeats 400000 in
theorem box2_set_dummy : True := trivial
set_option maxHeartbeats 400000 in
theorem clone_any (s : ByteArray) (w : World) (hlim : s.size ≤ 281474976710656) :
    Calls Tryd.prog 55 #[.string s] w fun e w' => e = .returned (.string s) ∧ Below w.heap.size w w' := by
  go_enter Tryd.func55, Tryd.ntmps55
  go_wp2_with fail
  refine (Tryd.stringslite_Clone s w hlim).mono ?_
  rintro _ w' ⟨rfl, hb⟩
  go_wp2
  go_ret
  exact ⟨rfl, hb⟩
set_option maxHeartbeats 8000000 in
set_option maxRecDepth 100000 in
theorem next_any (b : Nat) (s : ByteArray) (t : Nat) (w : World) (h : RBox w b s t) (hs : s.size ≤ 1000000) (ht : t ≤ s.size) :
    Calls Tryd.prog 38 #[.pointer (some ⟨b, 0, none⟩)] w fun e w' => NextPost b s t w e w' := by
  obtain ⟨S, hS⟩ : ∃ S, S = skipL false (restL s t) := ⟨_, rfl⟩
  have HS := hidM hS
  have HFIN : Hid (∀ k says rest p' (V : World), tokS S = (k, says, rest) → RBox V b s p' → p' ≤ s.size → But b w.heap.size w V → (k ≠ 6 → restL s p' = rest) → NextPost b s t w (.returned (.agg #[.int .i64 (k : Int), .string ⟨says.toArray⟩])) V) := by
    intro k says rest p' V h1 h2 h3 h4 h5
    have h6 : tokL (restL s t) = (k, says, rest) := by unfold tokL; rw [← hS]; exact h1
    unfold NextPost
    rw [h6]
    exact ⟨p', rfl, h2, h3, h4, h5⟩
  have HROW : Hid (∀ p' (V : World), NX b w.heap.size s w V p' → ∀ c, RBox (V.setRow w.heap.size c) b s p' ∧ But b w.heap.size w (V.setRow w.heap.size c)) :=
    fun p' V hN c => ⟨hN.box.same (setRow_other V _ b c (by have := hN.own; omega)), hN.but.setRow⟩
  have HA0 : Hid (NX b w.heap.size s w (w.alloc (.cells #[.int .i64 0, .string ⟨#[]⟩] 66)) t) :=
    ⟨h.same (heap_alloc_old w _ h.lt), ht, heap_alloc_new w _, But.of_below ((Below.refl _ w).alloc (Nat.le_refl _) _) (Nat.le_refl _), h.lt⟩
  have hz := zero66
  clear h hS ht
  go_enter Tryd.func38, Tryd.ntmps38
  go_wp2
  refine wp_scope_fall 0 4 1 3 2 (jumpL b w.heap.size s S w) (muL b s) rfl rfl rfl rfl rfl jumpL_is ?_ ?_ ?_ ?_ ?_ ?_
  · -- in a word
    intro a w1 hJ
    clear HA0
    obtain ⟨f, ⟨u, rfl⟩, p, c, r, hN, hSc, hSf, hfp, hwn, htk⟩ := hJ
    have HN := hidM hN
    have HT := hidM htk
    have HM : Hid (∀ a, muL b s 4 a w1 = 4 * (s.size - p)) := fun a => by rw [muL_box hN.box]; simp
    have HSC := hidM hSc
    have HSF := hidM hSf
    have HWN := hidM hwn
    have hlim := hN.lim
    have HW := hidM (wordEnds_any b s p w1 hN.box hs hN.lim)
    clear htk hSc hSf hwn
    generalize hwe : wEnd (restL s p) = we at *
    have HWE := hidM hwe
    clear hwe
    cases we with
    | true =>
      have h0 : wordN (restL s p) = 0 := by
        have := HWE.out
        cases hr : restL s p with
        | nil => rfl
        | cons d q => rw [hr] at this; rw [wordN, if_pos this]
      have HNr : Hid (wordN r = p - f - 1) := by have := HWN.out; rw [h0] at this; exact this
      clear h0 HWE HWN hN
      go_wp2_with fail
      refine HW.out.mono ?_
      rintro _ _ ⟨rfl, n, rfl⟩
      have HN2 := hidM (HN.out.quiet n)
      have c0 := HN2.out.box.text
      have c1 := HN2.out.box.taken
      have hfp' : f ≤ p := by omega
      obtain ⟨X, hX⟩ : ∃ X, X = s.extract f p := ⟨_, rfl⟩
      have hXs : X.size ≤ 281474976710656 := by rw [hX, ByteArray.size_extract]; omega
      have HCL := hidM (fun V => clone_any X V hXs)
      have HXE : Hid (X = ⟨(c :: r.take (wordN r)).toArray⟩) := by
        unfold Hid
        rw [hX, ext_bytes, HSF.out, HSC.out, HNr.out, show p - f = (p - f - 1) + 1 by omega]
        rfl
      have HRE : Hid (restL s p = r.drop (wordN r)) := by
        unfold Hid
        rw [HNr.out]
        have h1 := HSF.out
        rw [HSC.out] at h1
        obtain ⟨_, _, h2⟩ := rest_cons h1
        rw [← h2]
        unfold restL
        rw [List.drop_drop]
        congr 1
        omega
      have he : s.extract f p = X := hX.symm
      clear hX HW HNr
      generalize w1.drewN n = w2 at *
      go_upto_region 20 with fail
      go_region_with (go_at_call 55; refine (HCL.out _).mono ?_; rintro _ w4 ⟨rfl, hb4⟩; have HN4 := hidM (NX.below (w := w2.drew) (HN2.out.quiet 1) hb4 (NX.lt (HN2.out.quiet 1))); have d0 : w4.cell? ⟨w.heap.size, 0, none⟩ = some (.int .i64 0) := (by rw [cell_of_row _ _ _ _ 66 (0, 0) HN4.out.cell]; rfl); have d1 : w4.cell? ⟨w.heap.size, 1, none⟩ = some (.string ⟨#[]⟩) := (by rw [cell_of_row _ _ _ _ 66 (0, 0) HN4.out.cell]; rfl); have f0 : w4.frozen? ⟨w.heap.size, 0, none⟩ = false := (by simp [World.frozen?, HN4.out.cell]); have f1 : w4.frozen? ⟨w.heap.size, 1, none⟩ = false := (by simp [World.frozen?, HN4.out.cell]))
      all_goals (
        go_wp2
        simp only [jumpN]
        have h1 := HFIN.out 5 (c :: r.take (wordN r)) (r.drop (wordN r)) p ((w4.setCell ⟨w.heap.size, 0, none⟩ (.int .i64 5)).setCell ⟨w.heap.size, 1, none⟩ (.string X)) HT.out
          (HN4.out.box.same ((Below.heap_setCell _ _ _ b (by have := HN4.out.own; simp; omega)).trans (Below.heap_setCell _ _ _ b (by have := HN4.out.own; simp; omega)))) hlim ((HN4.out.but.setCell _ _).setCell _ _) (fun _ => HRE.out)
        rw [← HXE.out] at h1
        exact bodyPost_ret (results_cell_row rfl _ _ w.heap.size 66 _ (0, 0) _ rfl (box2_set HN4.out.cell) Tryd.underlying66 rfl size66) rfl h1)
    | false =>
      have hl : p < s.size := by
        apply Classical.byContradiction; intro hn
        have : restL s p = [] := by
          apply List.eq_nil_of_length_eq_zero
          rw [rest_len]; omega
        have h2 := HWE.out
        rw [this] at h2
        cases h2
      have HTK := hidM (fun n => take_any b s p (w1.drewN n) (HN.out.quiet n).box hs hlim)
      have HW2 : Hid (wordN r = (p + 1 - f - 1) + wordN (restL s (p + 1))) := by
        unfold Hid
        have h1 := HWN.out
        cases hr : restL s p with
        | nil => have := rest_len s p; rw [hr] at this; simp at this; omega
        | cons d q =>
          obtain ⟨_, _, h2⟩ := rest_cons hr
          have h3 := HWE.out
          rw [hr] at h3
          rw [h1, hr, wordN, if_neg (by rw [h3]; simp), h2]
          omega
      clear HWE HWN hN
      go_wp2_with fail
      refine HW.out.mono ?_
      rintro _ _ ⟨rfl, n, rfl⟩
      go_wp2_with fail
      refine (HTK.out n).mono ?_
      rintro _ w2 ⟨rfl, hB2, hO2⟩
      rw [if_pos hl] at hB2
      have HN2 := hidM ((HN.out.quiet n).only hB2 (by omega) hO2)
      clear hB2 hO2 HTK HW
      go_wp2
      go_step3
      refine ⟨⟨f, frN_mk rfl rfl rfl rfl rfl rfl, p + 1, c, r, HN2.out, HSC.out, HSF.out, by omega, HW2.out, HT.out⟩, ?_⟩
      rw [HM.out, muL_box HN2.out.box]
      simp
      omega
  · -- between
    intro h4 a w1 hJ
    clear HA0
    obtain ⟨fv, ⟨u, rfl⟩, p, hN, hSk⟩ := hJ
    have HN := hidM hN
    have hlim := hN.lim
    have HM : Hid (∀ a, muL b s 0 a w1 = 4 * (s.size - p) + (if 0 = 0 then (if remB (restL s p) then 3 else 1) else if 0 = 1 then 2 else 0)) := fun a => muL_box hN.box
    have HSK := hidM hSk
    have c1 := hN.box.taken
    have HRK := hidM (remark_any b s p w1 hN.box hN.lim)
    have HTK := hidM (fun n => take_any b s p (w1.drewN n) (hN.quiet n).box hs hN.lim)
    have H4 := hidM h4
    clear hN hSk h4
    cases hrm : remB (restL s p) with
    | true =>
      have HSK2 : Hid (skipL true (restL s p) = S) := by unfold Hid; rw [rem_skip hrm]; exact HSK.out
      rw [hrm] at HRK
      have HRM := hidM hrm
      clear hrm HTK HSK
      go_wp2_with fail
      refine HRK.out.mono ?_
      rintro _ _ ⟨rfl, n, rfl⟩
      have HN2 := hidM (HN.out.quiet n)
      go_wp2
      go_step3
      refine ⟨⟨_, frN_mk rfl rfl rfl rfl rfl rfl, p, HN2.out, HSK2.out⟩, ?_⟩
      rw [HM.out, muL_box HN2.out.box, HRM.out]
      simp
    | false =>
      rw [hrm] at HRK
      have HRM := hidM hrm
      clear hrm
      cases hr : restL s p with
      | nil =>
        have hl : ¬ p < s.size := by have := rest_nil hr hlim; omega
        have HR := hidM hr
        rw [hr] at HTK
        have HT : Hid (tokS S = (1, [], [])) := by unfold Hid; rw [← HSK.out, hr]; rfl
        simp only [headI] at HTK
        clear hr HSK
        go_wp2_with fail
        refine HRK.out.mono ?_
        rintro _ _ ⟨rfl, n, rfl⟩
        go_wp2_with fail
        refine (HTK.out n).mono ?_
        rintro _ w2 ⟨rfl, hB2, hO2⟩
        rw [if_neg hl] at hB2
        have HN2 := hidM ((HN.out.quiet n).only hB2 hlim hO2)
        clear hB2 hO2 HTK HRK
        have HC := hidM HN2.out.cell
        go_wp2_with (refine wpList_store_row rfl 66 (.tmp 2) (.tmp 16) rfl w.heap.size #[.int .i64 1, .string ⟨#[]⟩] rfl rfl 66 #[.int .i64 0, .string ⟨#[]⟩] HC.out size66 rfl (ones66 _ _) ?_)
        go_wp2
        simp only [jumpN]
        exact bodyPost_ret (results_cell_row rfl _ _ w.heap.size 66 _ (0, 0) _ rfl (setRow_heap _ _ _ _ 66 _ HC.out) Tryd.underlying66 rfl size66) rfl (HFIN.out 1 [] [] p _ HT.out (HROW.out _ _ HN2.out _).1 HN2.out.lim (HROW.out _ _ HN2.out _).2 (fun _ => HR.out))
      | cons c q =>
        obtain ⟨hl, _, hq⟩ := rest_cons hr
        have HQ := hidM hq
        rw [hr] at HTK HRM
        by_cases k1 : c = 10
        · subst k1
          have hk : headI (10 :: q) = 10 := rfl
          rw [hk] at HTK
          have HSS : Hid (S = 10 :: q) := by unfold Hid; rw [← HSK.out, hr, skipL, HRM.out]; simp [blkB]
          have HT : Hid (tokS S = (2, [], q)) := by unfold Hid; rw [HSS.out, tokS]; simp
          clear hr HSK hq hk
          go_wp2_with fail
          refine HRK.out.mono ?_
          rintro _ _ ⟨rfl, n, rfl⟩
          go_wp2_with fail
          refine (HTK.out n).mono ?_
          rintro _ w2 ⟨rfl, hB2, hO2⟩
          rw [if_pos hl] at hB2
          have HN2 := hidM ((HN.out.quiet n).only hB2 (by omega) hO2)
          clear hB2 hO2 HTK HRK
          have HC := hidM HN2.out.cell
          go_wp2_with (refine wpList_store_row rfl 66 (.tmp 2) (.tmp 19) rfl w.heap.size #[.int .i64 2, .string ⟨#[]⟩] rfl rfl 66 #[.int .i64 0, .string ⟨#[]⟩] HC.out size66 rfl (ones66 _ _) ?_)
          go_wp2
          simp only [jumpN]
          exact bodyPost_ret (results_cell_row rfl _ _ w.heap.size 66 _ (0, 0) _ rfl (setRow_heap _ _ _ _ 66 _ HC.out) Tryd.underlying66 rfl size66) rfl (HFIN.out 2 [] q (p + 1) _ HT.out (HROW.out _ _ HN2.out _).1 HN2.out.lim (HROW.out _ _ HN2.out _).2 (fun _ => HQ.out))
        by_cases k2 : c = 40
        · subst k2
          have hk : headI (40 :: q) = 40 := rfl
          rw [hk] at HTK
          have HSS : Hid (S = 40 :: q) := by unfold Hid; rw [← HSK.out, hr, skipL, HRM.out]; simp [blkB]
          have HT : Hid (tokS S = (3, [], q)) := by unfold Hid; rw [HSS.out, tokS]; simp
          clear hr HSK hq hk
          go_wp2_with fail
          refine HRK.out.mono ?_
          rintro _ _ ⟨rfl, n, rfl⟩
          go_wp2_with fail
          refine (HTK.out n).mono ?_
          rintro _ w2 ⟨rfl, hB2, hO2⟩
          rw [if_pos hl] at hB2
          have HN2 := hidM ((HN.out.quiet n).only hB2 (by omega) hO2)
          clear hB2 hO2 HTK HRK
          have HC := hidM HN2.out.cell
          go_wp2_with (refine wpList_store_row rfl 66 (.tmp 2) (.tmp 22) rfl w.heap.size #[.int .i64 3, .string ⟨#[]⟩] rfl rfl 66 #[.int .i64 0, .string ⟨#[]⟩] HC.out size66 rfl (ones66 _ _) ?_)
          go_wp2
          simp only [jumpN]
          exact bodyPost_ret (results_cell_row rfl _ _ w.heap.size 66 _ (0, 0) _ rfl (setRow_heap _ _ _ _ 66 _ HC.out) Tryd.underlying66 rfl size66) rfl (HFIN.out 3 [] q (p + 1) _ HT.out (HROW.out _ _ HN2.out _).1 HN2.out.lim (HROW.out _ _ HN2.out _).2 (fun _ => HQ.out))
        by_cases k3 : c = 41
        · subst k3
          have hk : headI (41 :: q) = 41 := rfl
          rw [hk] at HTK
          have HSS : Hid (S = 41 :: q) := by unfold Hid; rw [← HSK.out, hr, skipL, HRM.out]; simp [blkB]
          have HT : Hid (tokS S = (4, [], q)) := by unfold Hid; rw [HSS.out, tokS]; simp
          clear hr HSK hq hk
          go_wp2_with fail
          refine HRK.out.mono ?_
          rintro _ _ ⟨rfl, n, rfl⟩
          go_wp2_with fail
          refine (HTK.out n).mono ?_
          rintro _ w2 ⟨rfl, hB2, hO2⟩
          rw [if_pos hl] at hB2
          have HN2 := hidM ((HN.out.quiet n).only hB2 (by omega) hO2)
          clear hB2 hO2 HTK HRK
          have HC := hidM HN2.out.cell
          go_wp2_with (refine wpList_store_row rfl 66 (.tmp 2) (.tmp 25) rfl w.heap.size #[.int .i64 4, .string ⟨#[]⟩] rfl rfl 66 #[.int .i64 0, .string ⟨#[]⟩] HC.out size66 rfl (ones66 _ _) ?_)
          go_wp2
          simp only [jumpN]
          exact bodyPost_ret (results_cell_row rfl _ _ w.heap.size 66 _ (0, 0) _ rfl (setRow_heap _ _ _ _ 66 _ HC.out) Tryd.underlying66 rfl size66) rfl (HFIN.out 4 [] q (p + 1) _ HT.out (HROW.out _ _ HN2.out _).1 HN2.out.lim (HROW.out _ _ HN2.out _).2 (fun _ => HQ.out))
        by_cases k4 : c = 32
        · subst k4
          have hk : headI (32 :: q) = 32 := rfl
          rw [hk] at HTK
          have HJ : Hid (skipL false (restL s (p + 1)) = S) := by unfold Hid; rw [hq, ← HSK.out, hr, skipL.eq_def false (32 :: q)]; simp only [HRM.out]; simp [blkB]
          clear hr HSK hq hk
          go_wp2_with fail
          refine HRK.out.mono ?_
          rintro _ _ ⟨rfl, n, rfl⟩
          go_wp2_with fail
          refine (HTK.out n).mono ?_
          rintro _ w2 ⟨rfl, hB2, hO2⟩
          rw [if_pos hl] at hB2
          have HN2 := hidM ((HN.out.quiet n).only hB2 (by omega) hO2)
          clear hB2 hO2 HTK HRK
          go_wp2
          go_step3
          refine ⟨⟨_, frN_mk rfl rfl rfl rfl rfl rfl, p + 1, HN2.out, HJ.out⟩, ?_⟩
          rw [HM.out, muL_box HN2.out.box]
          simp
          split <;> omega
        by_cases k5 : c = 9
        · subst k5
          have hk : headI (9 :: q) = 9 := rfl
          rw [hk] at HTK
          have HJ : Hid (skipL false (restL s (p + 1)) = S) := by unfold Hid; rw [hq, ← HSK.out, hr, skipL.eq_def false (9 :: q)]; simp only [HRM.out]; simp [blkB]
          clear hr HSK hq hk
          go_wp2_with fail
          refine HRK.out.mono ?_
          rintro _ _ ⟨rfl, n, rfl⟩
          go_wp2_with fail
          refine (HTK.out n).mono ?_
          rintro _ w2 ⟨rfl, hB2, hO2⟩
          rw [if_pos hl] at hB2
          have HN2 := hidM ((HN.out.quiet n).only hB2 (by omega) hO2)
          clear hB2 hO2 HTK HRK
          go_wp2
          go_step3
          refine ⟨⟨_, frN_mk rfl rfl rfl rfl rfl rfl, p + 1, HN2.out, HJ.out⟩, ?_⟩
          rw [HM.out, muL_box HN2.out.box]
          simp
          split <;> omega
        by_cases k6 : c = 13
        · subst k6
          have hk : headI (13 :: q) = 13 := rfl
          rw [hk] at HTK
          have HJ : Hid (skipL false (restL s (p + 1)) = S) := by unfold Hid; rw [hq, ← HSK.out, hr, skipL.eq_def false (13 :: q)]; simp only [HRM.out]; simp [blkB]
          clear hr HSK hq hk
          go_wp2_with fail
          refine HRK.out.mono ?_
          rintro _ _ ⟨rfl, n, rfl⟩
          go_wp2_with fail
          refine (HTK.out n).mono ?_
          rintro _ w2 ⟨rfl, hB2, hO2⟩
          rw [if_pos hl] at hB2
          have HN2 := hidM ((HN.out.quiet n).only hB2 (by omega) hO2)
          clear hB2 hO2 HTK HRK
          go_wp2
          go_step3
          refine ⟨⟨_, frN_mk rfl rfl rfl rfl rfl rfl, p + 1, HN2.out, HJ.out⟩, ?_⟩
          rw [HM.out, muL_box HN2.out.box]
          simp
          split <;> omega
        by_cases k7 : c = 34
        · subst k7
          have hk : headI (34 :: q) = 34 := rfl
          rw [hk] at HTK
          have HSS : Hid (S = 34 :: q) := by unfold Hid; rw [← HSK.out, hr, skipL, HRM.out]; simp [blkB]
          clear hr HSK hq hk
          go_wp2_with fail
          refine HRK.out.mono ?_
          rintro _ _ ⟨rfl, n, rfl⟩
          go_wp2_with fail
          refine (HTK.out n).mono ?_
          rintro _ w2 ⟨rfl, hB2, hO2⟩
          rw [if_pos hl] at hB2
          have HN2 := hidM ((HN.out.quiet n).only hB2 (by omega) hO2)
          clear hB2 hO2 HTK HRK
          go_wp2
          go_step3
          refine ⟨⟨_, _, frN_mk rfl rfl rfl rfl rfl rfl, p + 1, q, [], HN2.out, HSS.out, ⟨rfl, .inl ⟨rfl, rfl⟩⟩, by simp, by rw [HQ.out]; cases quoL q <;> simp⟩, ?_⟩
          rw [HM.out, muL_box HN2.out.box]
          simp
          split <;> omega
        by_cases k8 : c = 96
        · subst k8
          have hk : headI (96 :: q) = 96 := rfl
          rw [hk] at HTK
          have HSS : Hid (S = 96 :: q) := by unfold Hid; rw [← HSK.out, hr, skipL, HRM.out]; simp [blkB]
          have HRF : Hid (restL s p = S) := by unfold Hid; rw [HSS.out, hr]
          clear hr HSK hq hk
          go_wp2_with fail
          refine HRK.out.mono ?_
          rintro _ _ ⟨rfl, n, rfl⟩
          go_wp2_with fail
          refine (HTK.out n).mono ?_
          rintro _ w2 ⟨rfl, hB2, hO2⟩
          rw [if_pos hl] at hB2
          have HN2 := hidM ((HN.out.quiet n).only hB2 (by omega) hO2)
          clear hB2 hO2 HTK HRK
          go_wp2
          go_step3
          refine ⟨⟨p, frN_mk rfl rfl rfl rfl rfl rfl, p + 1, q, HN2.out, HSS.out, HRF.out, by omega, by rw [HQ.out, show p + 1 - p - 1 = 0 by omega]; cases rawL q <;> simp⟩, ?_⟩
          rw [HM.out, muL_box HN2.out.box]
          simp
          split <;> omega
        have hk : headI (c :: q) = (c.toNat : Int) := rfl
        rw [hk] at HTK
        have hbk : blkB c = false := by simp [blkB, k4, k5, k6]
        have HSS : Hid (S = c :: q) := by unfold Hid; rw [← HSK.out, hr, skipL, HRM.out, hbk]; simp
        have HRF : Hid (restL s p = S) := by unfold Hid; rw [HSS.out, hr]
        have HT : Hid (tokS S = (5, c :: q.take (wordN q), q.drop (wordN q))) := by unfold Hid; rw [HSS.out, tokS]; simp [k1, k2, k3, k7, k8]
        have b0 : ((c.toNat : Int) == -1) = false := by simp
        have b1 : ((c.toNat : Int) == 10) = false := beq_false_of_ne fun h => k1 (byte_of (n := 10) h (by decide))
        have b2 : ((c.toNat : Int) == 40) = false := beq_false_of_ne fun h => k2 (byte_of (n := 40) h (by decide))
        have b3 : ((c.toNat : Int) == 41) = false := beq_false_of_ne fun h => k3 (byte_of (n := 41) h (by decide))
        have b4 : ((c.toNat : Int) == 32) = false := beq_false_of_ne fun h => k4 (byte_of (n := 32) h (by decide))
        have b5 : ((c.toNat : Int) == 9) = false := beq_false_of_ne fun h => k5 (byte_of (n := 9) h (by decide))
        have b6 : ((c.toNat : Int) == 13) = false := beq_false_of_ne fun h => k6 (byte_of (n := 13) h (by decide))
        have b7 : ((c.toNat : Int) == 34) = false := beq_false_of_ne fun h => k7 (byte_of (n := 34) h (by decide))
        have b8 : ((c.toNat : Int) == 96) = false := beq_false_of_ne fun h => k8 (byte_of (n := 96) h (by decide))
        clear hr HSK hq hk hbk k1 k2 k3 k4 k5 k6 k7 k8
        go_wp2_with fail
        refine HRK.out.mono ?_
        rintro _ _ ⟨rfl, n, rfl⟩
        go_wp2_with fail
        refine (HTK.out n).mono ?_
        rintro _ w2 ⟨rfl, hB2, hO2⟩
        rw [if_pos hl] at hB2
        have HN2 := hidM ((HN.out.quiet n).only hB2 (by omega) hO2)
        clear hB2 hO2 HTK HRK
        go_wp2
        go_step3
        refine (by assumption : ∀ (a : Act) (w : World), _ → _) _ _ ?_
        refine H4.out _ _ _ ⟨p, frN_mk rfl rfl rfl rfl rfl rfl, p + 1, c, q, HN2.out, HSS.out, HRF.out, by omega, by rw [HQ.out]; omega, HT.out⟩ ?_
        rw [HM.out, muL_box HN2.out.box]
        simp
        split <;> omega
  · -- a remark
    intro a w1 hJ
    clear HA0
    obtain ⟨fv, ⟨u, rfl⟩, p, hN, hSk⟩ := hJ
    have HN := hidM hN
    have hlim := hN.lim
    have HM : Hid (∀ a, muL b s 1 a w1 = 4 * (s.size - p) + (if 1 = 0 then (if remB (restL s p) then 3 else 1) else if 1 = 1 then 2 else 0)) := fun a => muL_box hN.box
    have HSK := hidM hSk
    have HL := hidM (look_any b s p w1 hN.box hs hN.lim)
    clear hN hSk
    cases hr : restL s p with
    | nil =>
      rw [hr] at HL HSK HM
      have HSK2 : Hid (skipL false (restL s p) = S) := by unfold Hid; rw [hr]; exact HSK.out
      have HRM : Hid (remB (restL s p) = false) := by unfold Hid; rw [hr]; rfl
      clear hr HSK
      simp only [headI] at HL
      go_wp2_with fail
      refine HL.out.mono ?_
      rintro _ _ ⟨rfl, n, rfl⟩
      have HN2 := hidM (HN.out.quiet n)
      go_wp2
      go_step3
      refine ⟨⟨_, frN_mk rfl rfl rfl rfl rfl rfl, p, HN2.out, HSK2.out⟩, ?_⟩
      rw [HM.out, muL_box HN2.out.box, HRM.out]
      simp
    | cons c q =>
      obtain ⟨hl, _, hq⟩ := rest_cons hr
      have HQ := hidM hq
      by_cases hc : c = 10
      · subst hc
        rw [hr] at HL HSK
        have HRM : Hid (remB (restL s p) = false) := by unfold Hid; rw [hr]; cases q <;> simp [remB]
        have HSK2 : Hid (skipL false (restL s p) = S) := by
          unfold Hid; have h1 := HRM.out; rw [hr] at h1 ⊢; rw [← HSK.out, skipL, skipL, h1]; simp [blkB]
        clear hr HSK hq
        have hk : headI (10 :: q) = 10 := rfl
        rw [hk] at HL
        go_wp2_with fail
        refine HL.out.mono ?_
        rintro _ _ ⟨rfl, n, rfl⟩
        have HN2 := hidM (HN.out.quiet n)
        go_wp2
        go_step3
        refine ⟨⟨_, frN_mk rfl rfl rfl rfl rfl rfl, p, HN2.out, HSK2.out⟩, ?_⟩
        rw [HM.out, muL_box HN2.out.box, HRM.out]
        simp
      · have HSK2 : Hid (skipL true (restL s (p + 1)) = S) := by
          unfold Hid; rw [hq, ← HSK.out, hr, skipL, if_neg hc]
        have HTK := hidM (fun n => take_any b s p (w1.drewN n) (HN.out.quiet n).box hs hlim)
        rw [hr] at HL HTK
        have hk : headI (c :: q) = (c.toNat : Int) := rfl
        rw [hk] at HL HTK
        have b1 : ((c.toNat : Int) == 10) = false := by
          refine beq_false_of_ne fun h => hc ?_
          exact byte_of (n := 10) h (by decide)
        have b2 : ((c.toNat : Int) == -1) = false := by simp
        clear hr HSK hq hc hk
        go_wp2_with fail
        refine HL.out.mono ?_
        rintro _ _ ⟨rfl, n, rfl⟩
        go_wp2_with fail
        refine (HTK.out n).mono ?_
        rintro _ w2 ⟨rfl, hB2, hO2⟩
        rw [if_pos hl] at hB2
        have HN2 := hidM ((HN.out.quiet n).only hB2 (by omega) hO2)
        clear hB2 hO2 HTK HL
        go_wp2
        go_step3
        refine ⟨⟨_, frN_mk rfl rfl rfl rfl rfl rfl, p + 1, HN2.out, HSK2.out⟩, ?_⟩
        rw [HM.out, muL_box HN2.out.box]
        simp
        omega
  · -- as it is written
    intro a w1 hJ
    clear HA0
    obtain ⟨f, ⟨u, rfl⟩, p, r, hN, hSc, hSf, hfp, hraw⟩ := hJ
    have HN := hidM hN
    have hlim := hN.lim
    have HM : Hid (∀ a, muL b s 3 a w1 = 4 * (s.size - p) + (if 3 = 0 then (if remB (restL s p) then 3 else 1) else if 3 = 1 then 2 else 0)) := fun a => muL_box hN.box
    have HSC := hidM hSc
    have HSF := hidM hSf
    have HRW := hidM hraw
    have HTK := hidM (take_any b s p w1 hN.box hs hN.lim)
    have HT6 : Hid (rawL r = none → tokS S = (6, [], [])) := by intro h; rw [hSc, tokS]; simp [h]
    have HT5 : Hid (∀ n, rawL r = some n → tokS S = (5, r.take n, r.drop (n + 1))) := by intro n h; rw [hSc, tokS]; simp [h]
    clear hN hSc hSf hraw
    cases hr : restL s p with
    | nil =>
      have hl : ¬ p < s.size := by have := rest_nil hr hlim; omega
      rw [hr] at HTK HRW
      have HR0 := hidM (HT6.out (by rw [HRW.out]; rfl))
      simp only [headI] at HTK
      clear hr HRW
      go_wp2_with fail
      refine HTK.out.mono ?_
      rintro _ w2 ⟨rfl, hB2, hO2⟩
      rw [if_neg hl] at hB2
      have HN2 := hidM (HN.out.only hB2 hlim hO2)
      clear hB2 hO2 HTK
      have HC := hidM HN2.out.cell
      go_wp2_with (refine wpList_store_row rfl 66 (.tmp 2) (.tmp 81) rfl w.heap.size #[.int .i64 6, .string ⟨#[]⟩] rfl rfl 66 #[.int .i64 0, .string ⟨#[]⟩] HC.out size66 rfl (ones66 _ _) ?_)
      go_wp2
      simp only [jumpN]
      exact bodyPost_ret (results_cell_row rfl _ _ w.heap.size 66 _ (0, 0) _ rfl (setRow_heap _ _ _ _ 66 _ HC.out) Tryd.underlying66 rfl size66) rfl (HFIN.out 6 [] [] _ _ HR0.out (HROW.out _ _ HN2.out _).1 HN2.out.lim (HROW.out _ _ HN2.out _).2 (fun h => absurd rfl h))
    | cons c q =>
      obtain ⟨hl, _, hq⟩ := rest_cons hr
      have HQ := hidM hq
      rw [hr] at HTK HRW
      by_cases hc : c = 96
      · subst hc
        have hk : headI (96 :: q) = 96 := rfl
        rw [hk] at HTK
        have HRN : Hid (rawL r = some (p - f - 1)) := by unfold Hid; rw [HRW.out, rawL, if_pos rfl]; simp
        have HT := hidM (HT5.out _ HRN.out)
        obtain ⟨m, hm⟩ : ∃ m, m = f + 1 := ⟨_, rfl⟩
        obtain ⟨X, hX⟩ : ∃ X, X = s.extract m p := ⟨_, rfl⟩
        have hmf : (f : Int) + 1 = (m : Int) := by omega
        have hmp : m ≤ p := by omega
        have hXs : X.size ≤ 281474976710656 := by rw [hX, ByteArray.size_extract]; omega
        have HCL := hidM (fun V => clone_any X V hXs)
        have hRr : restL s (f + 1) = r := by
          have h1 := HSF.out
          rw [HSC.out] at h1
          exact (rest_cons h1).2.2
        have HXE : Hid (X = ⟨(r.take (p - f - 1)).toArray⟩) := by
          unfold Hid
          rw [hX, ext_bytes, hm, hRr]
          rfl
        have HRE : Hid (restL s (p + 1) = r.drop (p - f - 1 + 1)) := by
          unfold Hid
          rw [← hRr]
          unfold restL
          rw [List.drop_drop]
          congr 1
          omega
        have he : s.extract m p = X := hX.symm
        obtain ⟨p1, hp1⟩ : ∃ p1, p1 = p + 1 := ⟨_, rfl⟩
        have hpp : (p1 : Int) - 1 = (p : Int) := by omega
        rw [← hp1] at HRE
        have HP1 := hidM hp1
        have hp1l : p1 ≤ s.size := by omega
        have hm6 : m ≤ 1000000 := by omega
        have hp6 : p ≤ 1000000 := by omega
        have hw1 : IntKind.i64.wrap (m : Int) = (m : Int) := by rw [IntKind.wrap_i64]; omega
        have hw2 : IntKind.i64.wrap (p : Int) = (p : Int) := by rw [IntKind.wrap_i64]; omega
        have hw3 : wrap64 (m : Int) = (m : Int) := by unfold wrap64; omega
        have hw4 : wrap64 (p : Int) = (p : Int) := by unfold wrap64; omega
        clear hX hm hr HRW hq hRr
        go_wp2_with fail
        refine HTK.out.mono ?_
        rintro _ w2 ⟨rfl, hB2, hO2⟩
        rw [if_pos hl, ← hp1] at hB2
        clear hp1
        have HN2 := hidM (HN.out.only hB2 hp1l hO2)
        have c0 := hB2.text
        have c1 := hB2.taken
        clear hB2 hO2 HTK
        go_upto_region 27 with fail
        go_region_with (go_at_call 55; refine (HCL.out _).mono ?_; rintro _ w4 ⟨rfl, hb4⟩; have HN4 := hidM (NX.below (w := w2.drew) (HN2.out.quiet 1) hb4 (NX.lt (HN2.out.quiet 1))); have d0 : w4.cell? ⟨w.heap.size, 0, none⟩ = some (.int .i64 0) := (by rw [cell_of_row _ _ _ _ 66 (0, 0) HN4.out.cell]; rfl); have d1 : w4.cell? ⟨w.heap.size, 1, none⟩ = some (.string ⟨#[]⟩) := (by rw [cell_of_row _ _ _ _ 66 (0, 0) HN4.out.cell]; rfl); have f0 : w4.frozen? ⟨w.heap.size, 0, none⟩ = false := (by simp [World.frozen?, HN4.out.cell]); have f1 : w4.frozen? ⟨w.heap.size, 1, none⟩ = false := (by simp [World.frozen?, HN4.out.cell]))
        all_goals (
          go_wp2
          simp only [jumpN]
          have h1 := HFIN.out 5 (r.take (p - f - 1)) (r.drop (p - f - 1 + 1)) p1 ((w4.setCell ⟨w.heap.size, 0, none⟩ (.int .i64 5)).setCell ⟨w.heap.size, 1, none⟩ (.string X)) HT.out
            (HN4.out.box.same ((Below.heap_setCell _ _ _ b (by have := HN4.out.own; simp; omega)).trans (Below.heap_setCell _ _ _ b (by have := HN4.out.own; simp; omega)))) hp1l ((HN4.out.but.setCell _ _).setCell _ _) (fun _ => HRE.out)
          rw [← HXE.out] at h1
          exact bodyPost_ret (results_cell_row rfl _ _ w.heap.size 66 _ (0, 0) _ rfl (box2_set HN4.out.cell) Tryd.underlying66 rfl size66) rfl h1)
      · by_cases hc2 : c = 10
        · subst hc2
          have hk : headI (10 :: q) = 10 := rfl
          rw [hk] at HTK
          have HR0 := hidM (HT6.out (by rw [HRW.out, rawL, if_neg (by decide), if_pos rfl]; rfl))
          clear hr HRW hq hc hk
          go_wp2_with fail
          refine HTK.out.mono ?_
          rintro _ w2 ⟨rfl, hB2, hO2⟩
          rw [if_pos hl] at hB2
          have HN2 := hidM (HN.out.only hB2 (by omega) hO2)
          clear hB2 hO2 HTK
          have HC := hidM HN2.out.cell
          go_wp2_with (refine wpList_store_row rfl 66 (.tmp 2) (.tmp 81) rfl w.heap.size #[.int .i64 6, .string ⟨#[]⟩] rfl rfl 66 #[.int .i64 0, .string ⟨#[]⟩] HC.out size66 rfl (ones66 _ _) ?_)
          go_wp2
          simp only [jumpN]
          exact bodyPost_ret (results_cell_row rfl _ _ w.heap.size 66 _ (0, 0) _ rfl (setRow_heap _ _ _ _ 66 _ HC.out) Tryd.underlying66 rfl size66) rfl (HFIN.out 6 [] [] _ _ HR0.out (HROW.out _ _ HN2.out _).1 HN2.out.lim (HROW.out _ _ HN2.out _).2 (fun h => absurd rfl h))
        · have hk : headI (c :: q) = (c.toNat : Int) := rfl
          rw [hk] at HTK
          have b1 : ((c.toNat : Int) == 96) = false := by
            refine beq_false_of_ne fun h => hc ?_
            exact byte_of (n := 96) h (by decide)
          have b2 : ((c.toNat : Int) == 10) = false := by
            refine beq_false_of_ne fun h => hc2 ?_
            exact byte_of (n := 10) h (by decide)
          have b3 : ((c.toNat : Int) == -1) = false := by simp
          have HR2 : Hid (rawL r = (rawL (restL s (p + 1))).map (· + (p + 1 - f - 1))) := by
            unfold Hid
            rw [HRW.out, rawL, if_neg hc, if_neg hc2, hq, Option.map_map]
            congr 1
            funext n
            simp only [Function.comp]
            omega
          clear hr HRW hq hc hc2 hk
          go_wp2_with fail
          refine HTK.out.mono ?_
          rintro _ w2 ⟨rfl, hB2, hO2⟩
          rw [if_pos hl] at hB2
          have HN2 := hidM (HN.out.only hB2 (by omega) hO2)
          clear hB2 hO2 HTK
          go_wp2
          go_step3
          refine ⟨⟨f, frN_mk rfl rfl rfl rfl rfl rfl, p + 1, r, HN2.out, HSC.out, HSF.out, by omega, HR2.out⟩, ?_⟩
          rw [HM.out, muL_box HN2.out.box]
          simp
          omega
  · -- quoted
    intro a w1 hJ
    clear HA0
    obtain ⟨sv, fv, ⟨u, rfl⟩, p, r, acc, hN, hSc, hown, hacc, hquo⟩ := hJ
    have HN := hidM hN
    have hlim := hN.lim
    have HM : Hid (∀ a, muL b s 2 a w1 = 4 * (s.size - p) + (if 2 = 0 then (if remB (restL s p) then 3 else 1) else if 2 = 1 then 2 else 0)) := fun a => muL_box hN.box
    have HSC := hidM hSc
    have HO := hidM hown
    have HQU := hidM hquo
    have HTK := hidM (take_any b s p w1 hN.box hs hN.lim)
    have HT6 : Hid (quoL r = none → tokS S = (6, [], [])) := by intro h; rw [hSc, tokS]; simp [h]
    have HT5 : Hid (∀ x y, quoL r = some (x, y) → tokS S = (5, x, y)) := by intro x y h; rw [hSc, tokS]; simp [h]
    have HPUSH : Hid (∀ (V : World) (p' : Nat) (x : UInt8), NX b w.heap.size s w V p' → OwnB V (w.heap.size + 1) sv acc → ∀ o v' V', V'.ownsRow (w.heap.size + 1) 5 1 v' (acc.length + 1) (bytesV acc ++ [.int .u8 (x.toNat : Int)]) → (V.alloc o).grownBy V' sv.ownBlock → NX b w.heap.size s w V' p' ∧ OwnB V' (w.heap.size + 1) v' (acc ++ [x])) :=
      fun V p' x h1 h2 o v' V' h3 h4 => ⟨h1.below (below_push h2 (Below.refl _ V) h1.lt h4) (Nat.lt_succ_self _), own_push h3⟩
    clear hN hSc hown hquo
    obtain ⟨i0, hi, hz0, hz1, hz2⟩ := info_parts info5x
    cases hr : restL s p with
    | nil =>
      have hl : ¬ p < s.size := by have := rest_nil hr hlim; omega
      rw [hr] at HTK HQU
      have HR0 := hidM (HT6.out (by rw [HQU.out]; rfl))
      simp only [headI] at HTK
      clear hr HQU
      go_wp2_with fail
      refine HTK.out.mono ?_
      rintro _ w2 ⟨rfl, hB2, hO2⟩
      rw [if_neg hl] at hB2
      have HN2 := hidM (HN.out.only hB2 hlim hO2)
      clear hB2 hO2 HTK
      have HC := hidM HN2.out.cell
      go_wp2_with (refine wpList_store_row rfl 66 (.tmp 2) (.tmp 99) rfl w.heap.size #[.int .i64 6, .string ⟨#[]⟩] rfl rfl 66 #[.int .i64 0, .string ⟨#[]⟩] HC.out size66 rfl (ones66 _ _) ?_)
      go_wp2
      simp only [jumpN]
      exact bodyPost_ret (results_cell_row rfl _ _ w.heap.size 66 _ (0, 0) _ rfl (setRow_heap _ _ _ _ 66 _ HC.out) Tryd.underlying66 rfl size66) rfl (HFIN.out 6 [] [] _ _ HR0.out (HROW.out _ _ HN2.out _).1 HN2.out.lim (HROW.out _ _ HN2.out _).2 (fun h => absurd rfl h))
    | cons c q =>
      obtain ⟨hl, _, hq⟩ := rest_cons hr
      have HQ := hidM hq
      rw [hr] at HTK HQU
      by_cases hc : c = 34
      · subst hc
        have hk : headI (34 :: q) = 34 := rfl
        rw [hk] at HTK
        have HT := hidM (HT5.out acc q (by rw [HQU.out, quoL.eq_def]; simp))
        clear hr HQU hk
        go_wp2_with fail
        refine HTK.out.mono ?_
        rintro _ w2 ⟨rfl, hB2, hO2⟩
        rw [if_pos hl] at hB2
        have HN2 := hidM (HN.out.only hB2 (by omega) hO2)
        have HO2 : Hid (OwnB w2 (w.heap.size + 1) sv acc) := own_only HO.out hO2 (by have := HN.out.own; omega)
        have hcv := conv_own HO2.out
        clear hB2 hO2 HTK
        have HC := hidM HN2.out.cell
        go_wp2_with (refine wpList_store_row rfl 66 (.tmp 2) (.tmp 89) rfl w.heap.size #[.int .i64 5, .string ⟨acc.toArray⟩] rfl rfl 66 #[.int .i64 0, .string ⟨#[]⟩] HC.out size66 rfl (ones66 _ _) ?_)
        go_wp2
        simp only [jumpN]
        exact bodyPost_ret (results_cell_row rfl _ _ w.heap.size 66 _ (0, 0) _ rfl (setRow_heap _ _ _ _ 66 _ HC.out) Tryd.underlying66 rfl size66) rfl (HFIN.out 5 acc q (p + 1) _ HT.out (HROW.out _ _ HN2.out _).1 HN2.out.lim (HROW.out _ _ HN2.out _).2 (fun _ => HQ.out))
      · by_cases hc3 : c = 10
        · subst hc3
          have hk : headI (10 :: q) = 10 := rfl
          rw [hk] at HTK
          have HR0 := hidM (HT6.out (by rw [HQU.out, quoL.eq_def]; simp))
          clear hr HQU hq hc hk
          go_wp2_with fail
          refine HTK.out.mono ?_
          rintro _ w2 ⟨rfl, hB2, hO2⟩
          rw [if_pos hl] at hB2
          have HN2 := hidM (HN.out.only hB2 (by omega) hO2)
          clear hB2 hO2 HTK
          have HC := hidM HN2.out.cell
          go_wp2_with (refine wpList_store_row rfl 66 (.tmp 2) (.tmp 99) rfl w.heap.size #[.int .i64 6, .string ⟨#[]⟩] rfl rfl 66 #[.int .i64 0, .string ⟨#[]⟩] HC.out size66 rfl (ones66 _ _) ?_)
          go_wp2
          simp only [jumpN]
          exact bodyPost_ret (results_cell_row rfl _ _ w.heap.size 66 _ (0, 0) _ rfl (setRow_heap _ _ _ _ 66 _ HC.out) Tryd.underlying66 rfl size66) rfl (HFIN.out 6 [] [] _ _ HR0.out (HROW.out _ _ HN2.out _).1 HN2.out.lim (HROW.out _ _ HN2.out _).2 (fun h => absurd rfl h))
        · by_cases hc2 : c = 92
          · subst hc2
            have hk : headI (92 :: q) = 92 := rfl
            rw [hk] at HTK
            have HTK2 := hidM (fun V (hV : RBox V b s (p + 1)) => take_any b s (p + 1) V hV hs (by omega))
            rw [hq] at HTK2
            cases q with
            | nil =>
              have hl2 : ¬ p + 1 < s.size := by have := rest_nil hq (by omega); omega
              have HR0 := hidM (HT6.out (by rw [HQU.out, quoL.eq_def]; simp))
              simp only [headI] at HTK2
              have HMT := hidM (fun V => meant_any (-1) V)
              have hmi : mntI (-1) = -1 := by decide
              rw [hmi] at HMT
              clear hr HQU hq hc hk
              go_wp2_with fail
              refine HTK.out.mono ?_
              rintro _ w2 ⟨rfl, hB2, hO2⟩
              rw [if_pos hl] at hB2
              have HN1 := hidM (HN.out.only hB2 (by omega) hO2)
              clear hO2 HTK
              go_wp2_with fail
              refine (HTK2.out _ hB2).mono ?_
              rintro _ w3 ⟨rfl, hB3, hO3⟩
              rw [if_neg hl2] at hB3
              have HN2 := hidM (HN1.out.only hB3 (by omega) hO3)
              clear hB3 hO3 hB2 HTK2
              go_wp2_with fail
              refine (HMT.out _).mono ?_
              rintro _ w4 ⟨rfl, h4⟩
              rw [h4]
              clear h4 w4
              have HC := hidM HN2.out.cell
              go_wp2_with (refine wpList_store_row rfl 66 (.tmp 2) (.tmp 99) rfl w.heap.size #[.int .i64 6, .string ⟨#[]⟩] rfl rfl 66 #[.int .i64 0, .string ⟨#[]⟩] HC.out size66 rfl (ones66 _ _) ?_)
              go_wp2
              simp only [jumpN]
              exact bodyPost_ret (results_cell_row rfl _ _ w.heap.size 66 _ (0, 0) _ rfl (setRow_heap _ _ _ _ 66 _ HC.out) Tryd.underlying66 rfl size66) rfl (HFIN.out 6 [] [] _ _ HR0.out (HROW.out _ _ HN2.out _).1 HN2.out.lim (HROW.out _ _ HN2.out _).2 (fun h => absurd rfl h))
            | cons d q' =>
              obtain ⟨hl2, _, hq2⟩ := rest_cons hq
              have HQ2 := hidM hq2
              have hk2 : headI (d :: q') = (d.toNat : Int) := rfl
              rw [hk2] at HTK2
              have HMT := hidM (fun V => meant_any (d.toNat : Int) V)
              cases hm : mntL d with
              | none =>
                rw [mnt_none hm] at HMT
                have HR0 := hidM (HT6.out (by rw [HQU.out, quoL.eq_def]; simp [hm]))
                clear hr HQU hq hc hk hk2 hm hq2
                go_wp2_with fail
                refine HTK.out.mono ?_
                rintro _ w2 ⟨rfl, hB2, hO2⟩
                rw [if_pos hl] at hB2
                have HN1 := hidM (HN.out.only hB2 (by omega) hO2)
                clear hO2 HTK
                go_wp2_with fail
                refine (HTK2.out _ hB2).mono ?_
                rintro _ w3 ⟨rfl, hB3, hO3⟩
                rw [if_pos hl2] at hB3
                have HN2 := hidM (HN1.out.only hB3 (by omega) hO3)
                clear hB3 hO3 hB2 HTK2
                go_wp2_with fail
                refine (HMT.out _).mono ?_
                rintro _ w4 ⟨rfl, h4⟩
                rw [h4]
                clear h4 w4
                have HC := hidM HN2.out.cell
                go_wp2_with (refine wpList_store_row rfl 66 (.tmp 2) (.tmp 99) rfl w.heap.size #[.int .i64 6, .string ⟨#[]⟩] rfl rfl 66 #[.int .i64 0, .string ⟨#[]⟩] HC.out size66 rfl (ones66 _ _) ?_)
                go_wp2
                simp only [jumpN]
                exact bodyPost_ret (results_cell_row rfl _ _ w.heap.size 66 _ (0, 0) _ rfl (setRow_heap _ _ _ _ 66 _ HC.out) Tryd.underlying66 rfl size66) rfl (HFIN.out 6 [] [] _ _ HR0.out (HROW.out _ _ HN2.out _).1 HN2.out.lim (HROW.out _ _ HN2.out _).2 (fun h => absurd rfl h))
              | some e =>
                rw [mnt_some hm] at HMT
                have HQ3 : Hid (quoL r = (quoL (restL s (p + 2))).map fun x => ((acc ++ [e]) ++ x.1, x.2)) := by
                  unfold Hid
                  rw [HQU.out, quoL.eq_def]
                  simp [hm, hq2, Option.map_map, Function.comp_def]
                have b1 : ((e.toNat : Int) == -1) = false := by simp
                clear hr HQU hq hc hk hk2 hm hq2
                go_wp2_with fail
                refine HTK.out.mono ?_
                rintro _ w2 ⟨rfl, hB2, hO2⟩
                rw [if_pos hl] at hB2
                have HN1 := hidM (HN.out.only hB2 (by omega) hO2)
                have HO1 : Hid (OwnB w2 (w.heap.size + 1) sv acc) := own_only HO.out hO2 (by have := HN.out.own; omega)
                clear hO2 HTK
                go_wp2_with fail
                refine (HTK2.out _ hB2).mono ?_
                rintro _ w3 ⟨rfl, hB3, hO3⟩
                rw [if_pos hl2] at hB3
                have HN2 := hidM (HN1.out.only hB3 (by omega) hO3)
                have HO2 : Hid (OwnB w3 (w.heap.size + 1) sv acc) := own_only HO1.out hO3 (by have := HN.out.own; omega)
                clear hB3 hO3 hB2 HTK2
                go_wp2_with fail
                refine (HMT.out _).mono ?_
                rintro _ w4 ⟨rfl, h4⟩
                rw [h4]
                clear h4 w4
                have hsz := HN2.out.lt
                have hu : IntKind.u8.wrap (e.toNat : Int) = (e.toNat : Int) := u8_wrap e
                have hx8 : e.toNat < 256 := e.toNat_lt
                go_wp2_with (at_builtin; refine wpList_append_own _ rfl _ _ 73 rfl (w.heap.size + 1) 5 i0 (.int .u8 0) 1 1 Tryd.underlying73 hi hz0 hz1 hz2 rfl (by decide) _ _ _ rfl (World.ownsRow.alloc HO2.out _) ⟨w3.heap.size, 0, none⟩ 1 1 [.int .u8 (e.toNat : Int)] ?d0a rfl ?d1a ?d2a ?d3a ?d4a ?d5a ?_)
                case d0a => rfl
                case d1a => exact cell_new_one w3 _
                case d2a => intro u hu; simp at hu; subst hu; rfl
                case d3a => unfold maxLen; omega
                case d4a => omega
                case d5a => simp; omega
                intro v' w5 hown' hgrow _
                obtain ⟨hn5, ho5⟩ := HPUSH.out w3 _ e HN2.out HO2.out _ v' w5 hown' hgrow
                have HN5 := hidM hn5
                have HO5 := hidM ho5
                clear hown' hgrow hn5 ho5
                go_wp2
                go_step3
                refine ⟨⟨_, _, frN_mk rfl rfl rfl rfl rfl rfl, p + 2, r, acc ++ [e], HN5.out, HSC.out, HO5.out, by simp; omega, HQ3.out⟩, ?_⟩
                rw [HM.out, muL_box HN5.out.box]
                simp
                omega
          · have hk : headI (c :: q) = (c.toNat : Int) := rfl
            rw [hk] at HTK
            have b1 : ((c.toNat : Int) == 34) = false := by
              refine beq_false_of_ne fun h => hc ?_
              exact byte_of (n := 34) h (by decide)
            have b2 : ((c.toNat : Int) == 10) = false := by
              refine beq_false_of_ne fun h => hc3 ?_
              exact byte_of (n := 10) h (by decide)
            have b3 : ((c.toNat : Int) == 92) = false := by
              refine beq_false_of_ne fun h => hc2 ?_
              exact byte_of (n := 92) h (by decide)
            have b4 : ((c.toNat : Int) == -1) = false := by simp
            have HQ3 : Hid (quoL r = (quoL (restL s (p + 1))).map fun x => ((acc ++ [c]) ++ x.1, x.2)) := by
              unfold Hid
              rw [HQU.out, quoL.eq_def]
              simp [hc, hc2, hc3, hq, Option.map_map, Function.comp_def]
            clear hr HQU hq hc hc2 hc3 hk
            go_wp2_with fail
            refine HTK.out.mono ?_
            rintro _ w2 ⟨rfl, hB2, hO2⟩
            rw [if_pos hl] at hB2
            have HN2 := hidM (HN.out.only hB2 (by omega) hO2)
            have HO2 : Hid (OwnB w2 (w.heap.size + 1) sv acc) := own_only HO.out hO2 (by have := HN.out.own; omega)
            clear hB2 hO2 HTK
            have hsz := HN2.out.lt
            have hu : IntKind.u8.wrap (c.toNat : Int) = (c.toNat : Int) := u8_wrap c
            have hx8 : c.toNat < 256 := c.toNat_lt
            go_wp2_with (at_builtin; refine wpList_append_own _ rfl _ _ 73 rfl (w.heap.size + 1) 5 i0 (.int .u8 0) 1 1 Tryd.underlying73 hi hz0 hz1 hz2 rfl (by decide) _ _ _ rfl (World.ownsRow.alloc HO2.out _) ⟨w2.heap.size, 0, none⟩ 1 1 [.int .u8 (c.toNat : Int)] ?d0b rfl ?d1b ?d2b ?d3b ?d4b ?d5b ?_)
            case d0b => rfl
            case d1b => exact cell_new_one w2 _
            case d2b => intro u hu; simp at hu; subst hu; rfl
            case d3b => unfold maxLen; omega
            case d4b => omega
            case d5b => simp; omega
            intro v' w5 hown' hgrow _
            obtain ⟨hn5, ho5⟩ := HPUSH.out w2 _ c HN2.out HO2.out _ v' w5 hown' hgrow
            have HN5 := hidM hn5
            have HO5 := hidM ho5
            clear hown' hgrow hn5 ho5
            go_wp2
            go_step3
            refine ⟨⟨_, _, frN_mk rfl rfl rfl rfl rfl rfl, p + 1, r, acc ++ [c], HN5.out, HSC.out, HO5.out, by simp; omega, HQ3.out⟩, ?_⟩
            rw [HM.out, muL_box HN5.out.box]
            simp
            omega
  · -- the first pass
    intro hp
    go_wp2
    go_step3
    refine (by assumption : ∀ (a : Act) (w : World), _ → _) _ _ ?_
    exact hp _ _ ⟨_, frN_mk rfl rfl rfl rfl rfl rfl, _, HA0.out, HS.out.symm⟩
end Go.Proofs.YtgkjmmfpbcgmgaaDoor
