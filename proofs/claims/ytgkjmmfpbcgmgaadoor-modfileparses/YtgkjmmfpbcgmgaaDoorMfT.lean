/-
  A line's tokens as a list, and what a line says by them.
-/
import Derived.Test.YtgkjmmfpbcgmgaaDoorMfP
namespace Go.Proofs.YtgkjmmfpbcgmgaaDoor

abbrev To := Nat × List UInt8
/-- the tokens of a line -/
def toksG : Nat → List UInt8 → Option (List To)
  | 0, _ => none
  | f + 1, l => if (tokL l).1 = 1 ∨ (tokL l).1 = 2 then some [] else if (tokL l).1 = 6 then none else (toksG f (tokL l).2.2).map (((tokL l).1, (tokL l).2.1) :: ·)
def toksL (l : List UInt8) : Option (List To) := toksG (l.length + 1) l
theorem toks_fuel : ∀ (f g : Nat) (l : List UInt8), l.length < f → l.length < g → toksG f l = toksG g l
  | 0, _, l, h, _ => absurd h (by omega)
  | _, 0, l, _, h => absurd h (by omega)
  | f + 1, g + 1, l, hf, hg => by
    rw [toksG, toksG]
    split
    · rfl
    · split
      · rfl
      · rename_i h1 h6
        have := tok_less (l := l) (fun e => h1 (.inl e)) h6
        rw [toks_fuel f g _ (by omega) (by omega)]
theorem toks_eq (l : List UInt8) : toksL l = if (tokL l).1 = 1 ∨ (tokL l).1 = 2 then some [] else if (tokL l).1 = 6 then none else (toksL (tokL l).2.2).map (((tokL l).1, (tokL l).2.1) :: ·) := by
  unfold toksL
  rw [toksG]
  split
  · rfl
  · split
    · rfl
    · rename_i h1 h6
      have := tok_less (l := l) (fun e => h1 (.inl e)) h6
      rw [toks_fuel l.length ((tokL l).2.2.length + 1) _ (by omega) (by omega)]
/-- a row out of tokens -/
def rowT : List To → List (List UInt8) → Nat → Option (List (List UInt8) × Nat)
  | [], ws, b => some (ws, b)
  | t :: T, ws, b => if b ≠ 0 then none else if t.1 = 5 then rowT T (ws ++ [t.2]) b else rowT T ws t.1
theorem row_toks : ∀ (f : Nat) (l : List UInt8) ws b, l.length < f → (rowG f l ws b).map (fun r => (r.1, r.2.1)) = (toksG f l).bind fun T => rowT T ws b
  | 0, l, _, _, h => absurd h (by omega)
  | f + 1, l, ws, b, hf => by
    rw [rowG, toksG]
    by_cases h1 : (tokL l).1 = 1
    · rw [if_pos h1, if_pos (.inl h1)]; rfl
    · rw [if_neg h1]
      by_cases h2 : (tokL l).1 = 2
      · rw [if_pos h2, if_pos (.inr h2)]; rfl
      · rw [if_neg h2, if_neg (show ¬ ((tokL l).1 = 1 ∨ (tokL l).1 = 2) by omega)]
        by_cases h6 : (tokL l).1 = 6
        · rw [if_pos (.inl h6), if_pos h6]; rfl
        · rw [if_neg h6]
          have hl := tok_less h1 h6
          by_cases hb : b ≠ 0
          · rw [if_pos (.inr hb)]
            cases toksG f (tokL l).2.2 with
            | none => rfl
            | some T => simp [rowT, hb]
          · rw [if_neg (show ¬ ((tokL l).1 = 6 ∨ b ≠ 0) by omega)]
            simp only [ne_eq, Decidable.not_not] at hb
            subst hb
            split
            · rename_i h5
              rw [row_toks f _ _ _ (by omega)]
              cases toksG f (tokL l).2.2 with
              | none => rfl
              | some T => simp [rowT, h5]
            · rename_i h5
              rw [row_toks f _ _ _ (by omega)]
              cases toksG f (tokL l).2.2 with
              | none => rfl
              | some T => simp [rowT, h5]
theorem toks_kind : ∀ (f : Nat) (l : List UInt8) T, toksG f l = some T → ∀ t ∈ T, t.1 = 3 ∨ t.1 = 4 ∨ t.1 = 5
  | 0, l, T, h => by cases h
  | f + 1, l, T, h => by
    rw [toksG] at h
    have hk := tok_kind l
    split at h
    · simp at h; subst h; simp
    · split at h
      · cases h
      · rename_i h1 h6
        cases hr : toksG f (tokL l).2.2 with
        | none => rw [hr] at h; cases h
        | some T' =>
          rw [hr] at h
          simp at h
          subst h
          intro t ht
          rcases List.mem_cons.1 ht with rfl | ht
          · simp only; omega
          · exact toks_kind f _ T' hr t ht
/-- what the document's Parse makes of a line's tokens -/
def decT (blk : List UInt8) (T : List To) (k : Nat) : Option (List UInt8 × List Ln) :=
  if T = [] then some (blk, [])
  else if blk ≠ [] ∧ T.length = 1 ∧ (T.getD 0 (0, [])).1 = 4 then some ([], [])
  else if blk = [] ∧ T.length = 2 ∧ (T.getD 1 (0, [])).1 = 3 ∧ (T.getD 0 (0, [])).1 = 5 ∧ (T.getD 0 (0, [])).2 ≠ [] then some ((T.getD 0 (0, [])).2, [])
  else if T.any (fun t => t.1 != 5) then none
  else if blk ≠ [] then some (blk, [(blk, T.map (·.2), k)])
  else if (T.getD 0 (0, [])).2 = [] then none
  else some (blk, [((T.getD 0 (0, [])).2, (T.map (·.2)).drop 1, k)])
theorem rowT_words : ∀ (T : List To) ws, T.any (fun t => t.1 != 5) = false → rowT T ws 0 = some (ws ++ T.map (·.2), 0)
  | [], ws, _ => by simp [rowT]
  | t :: T, ws, h => by
    simp only [List.any_cons, Bool.or_eq_false_iff, bne_eq_false_iff_eq] at h
    rw [rowT]
    simp only [ne_eq, not_true_eq_false, if_false, h.1, if_true]
    rw [rowT_words T _ h.2]
    simp
theorem rowT_mark : ∀ (T : List To) ws r, (∀ t ∈ T, t.1 = 3 ∨ t.1 = 4 ∨ t.1 = 5) → T.any (fun t => t.1 != 5) = true → rowT T ws 0 = some r → ∃ W y, T = W ++ [(r.2, y)] ∧ r.2 ≠ 5 ∧ r.2 ≠ 0 ∧ (∀ t ∈ W, t.1 = 5) ∧ r.1 = ws ++ W.map (·.2)
  | [], ws, r, _, h, _ => by simp at h
  | t :: T, ws, r, hk, h, hr => by
    have ht := hk t (by simp)
    rw [rowT] at hr
    simp only [ne_eq, not_true_eq_false, if_false] at hr
    by_cases h5 : t.1 = 5
    · rw [if_pos h5] at hr
      have h' : T.any (fun t => t.1 != 5) = true := by
        simp only [List.any_cons, h5] at h
        simpa using h
      obtain ⟨W, y, e1, e2, e3, e4, e5⟩ := rowT_mark T _ r (fun x hx => hk x (by simp [hx])) h' hr
      refine ⟨t :: W, y, by rw [e1]; rfl, e2, e3, ?_, ?_⟩
      · intro x hx
        rcases List.mem_cons.1 hx with rfl | hx
        · exact h5
        · exact e4 x hx
      · rw [e5]; simp
    · rw [if_neg h5] at hr
      cases T with
      | nil =>
        simp [rowT] at hr
        subst hr
        exact ⟨[], t.2, by simp, h5, by omega, by simp, by simp⟩
      | cons u T =>
        rw [rowT, if_pos (by omega)] at hr
        cases hr
theorem take_T (blk : List UInt8) (T : List To) (k : Nat) (hk : ∀ t ∈ T, t.1 = 3 ∨ t.1 = 4 ∨ t.1 = 5) : ((rowT T [] 0).bind fun r => takeD blk r.1 r.2 k) = decT blk T k := by
  unfold decT
  by_cases h0 : T = []
  · rw [if_pos h0, h0]; simp [rowT, takeD]
  · rw [if_neg h0]
    by_cases hm : T.any (fun t => t.1 != 5) = true
    · cases hr : rowT T [] 0 with
      | none =>
        -- no row: neither a single mark nor a word and a mark
        have n1 : ¬ (blk ≠ [] ∧ T.length = 1 ∧ (T.getD 0 (0, [])).1 = 4) := by
          rintro ⟨_, h1, h2⟩
          obtain ⟨t, rfl⟩ := List.length_eq_one_iff.1 h1
          simp at h2
          simp [rowT] at hr
          split at hr <;> simp at hr
        have n2 : ¬ (blk = [] ∧ T.length = 2 ∧ (T.getD 1 (0, [])).1 = 3 ∧ (T.getD 0 (0, [])).1 = 5 ∧ (T.getD 0 (0, [])).2 ≠ []) := by
          rintro ⟨_, h1, h2, h3, _⟩
          obtain ⟨t, u, rfl⟩ : ∃ t u, T = [t, u] := by
            match T, h1 with
            | [t, u], _ => exact ⟨t, u, rfl⟩
          simp at h2 h3
          simp [rowT, h2, h3] at hr
        rw [if_neg n1, if_neg n2, if_pos hm]; rfl
      | some r =>
        obtain ⟨W, y, e1, e2, e3, e4, e5⟩ := rowT_mark T [] r hk hm hr
        obtain ⟨ws, b⟩ := r
        simp only [List.nil_append] at e1 e2 e3 e5
        simp only [Option.bind_some]
        have hb : b = 3 ∨ b = 4 := by
          have := hk (b, y) (by rw [e1]; simp)
          simp only at this
          omega
        rcases hb with rfl | rfl
        · -- an opening bracket
          have n1 : ¬ (blk ≠ [] ∧ T.length = 1 ∧ (T.getD 0 (0, [])).1 = 4) := by
            rintro ⟨_, h1, h2⟩
            rw [e1] at h1 h2
            simp at h1
            subst h1
            simp at h2
          rw [if_neg n1]
          unfold takeD
          rw [if_pos rfl]
          by_cases hW : W.length = 1
          · obtain ⟨t, rfl⟩ := List.length_eq_one_iff.1 hW
            have ht := e4 t (by simp)
            subst e1 e5
            by_cases hc : blk = [] ∧ t.2 ≠ []
            · rw [if_pos ⟨hc.1, by simp, by simp, by simpa using ht, by simpa using hc.2⟩]
              simp [hc]
            · rw [if_neg (fun h => hc ⟨h.1, by simpa using h.2.2.2.2⟩), if_pos hm]
              simp [hc]
          · have n2 : ¬ (blk = [] ∧ T.length = 2 ∧ (T.getD 1 (0, [])).1 = 3 ∧ (T.getD 0 (0, [])).1 = 5 ∧ (T.getD 0 (0, [])).2 ≠ []) := by
              rintro ⟨_, h1, _⟩
              rw [e1] at h1; simp at h1; exact hW h1
            rw [if_neg n2, if_pos hm, e5]
            cases W with
            | nil => rfl
            | cons a W =>
              cases W with
              | nil => simp at hW
              | cons b W => rfl
        · -- a closing one
          have n2 : ¬ (blk = [] ∧ T.length = 2 ∧ (T.getD 1 (0, [])).1 = 3 ∧ (T.getD 0 (0, [])).1 = 5 ∧ (T.getD 0 (0, [])).2 ≠ []) := by
            rintro ⟨_, h1, h2, _⟩
            rw [e1] at h1 h2
            simp at h1
            obtain ⟨t, rfl⟩ := List.length_eq_one_iff.1 h1
            simp at h2
          unfold takeD
          rw [if_neg (by omega), if_pos rfl]
          by_cases hW : W = []
          · subst hW
            simp only [List.nil_append, List.map_nil] at e1 e5
            subst e1 e5
            by_cases hbk : blk = []
            · rw [if_neg (by simp [hbk]), if_neg (by simp [hbk]), if_neg n2, if_pos hm]
            · rw [if_pos ⟨hbk, rfl⟩, if_pos ⟨hbk, by simp, by simp⟩]
          · have hws : ws ≠ [] := by rw [e5]; simpa using hW
            rw [if_neg (fun h => hws h.2), if_neg, if_neg n2, if_pos hm]
            rintro ⟨_, h1, _⟩
            rw [e1] at h1; simp at h1; exact hW h1
    · have hm' : T.any (fun t => t.1 != 5) = false := Bool.eq_false_iff.2 hm
      have h5 : ∀ t ∈ T, t.1 = 5 := fun t ht => by
        have := List.any_eq_false.1 hm' t ht
        simpa using this
      rw [rowT_words T [] hm']
      simp only [Option.bind_some, List.nil_append]
      obtain ⟨t, R, rfl⟩ : ∃ t R, T = t :: R := by
        cases T with
        | nil => exact absurd rfl h0
        | cons t R => exact ⟨t, R, rfl⟩
      have ht := h5 t (by simp)
      have n1 : ¬ (blk ≠ [] ∧ (t :: R).length = 1 ∧ ((t :: R).getD 0 (0, [])).1 = 4) := by
        rintro ⟨_, _, h2⟩; simp at h2; omega
      have n2 : ¬ (blk = [] ∧ (t :: R).length = 2 ∧ ((t :: R).getD 1 (0, [])).1 = 3 ∧ ((t :: R).getD 0 (0, [])).1 = 5 ∧ ((t :: R).getD 0 (0, [])).2 ≠ []) := by
        rintro ⟨_, h1, h2, _⟩
        cases R with
        | nil => simp at h1
        | cons u R => have := h5 u (by simp); simp at h2; omega
      rw [if_neg n1, if_neg n2, if_neg (by rw [hm']; simp)]
      unfold takeD
      rw [if_neg (by omega), if_neg (by omega)]
      simp only [List.map_cons]
      by_cases hbk : blk = []
      · simp [hbk]
      · simp [hbk]
/-- a text by its lines: the first line's step -/
theorem par_dec_none {l : List UInt8} (_h10 : 10 ∉ l) (h : toksL l = none) : rowL l = none := by
  have := row_toks (l.length + 1) l [] 0 (Nat.lt_succ_self _)
  rw [show toksG (l.length + 1) l = none from h] at this
  unfold rowL
  cases hr : rowG (l.length + 1) l [] 0 with
  | none => rfl
  | some r => rw [hr] at this; cases this
theorem row_dec {l : List UInt8} {T : List To} (h : toksL l = some T) (blk : List UInt8) (k : Nat) : ((rowL l).bind fun r => takeD blk r.1 r.2.1 k) = decT blk T k := by
  have h1 := row_toks (l.length + 1) l [] 0 (Nat.lt_succ_self _)
  rw [show toksG (l.length + 1) l = some T from h] at h1
  rw [← take_T blk T k (toks_kind _ l T h)]
  unfold rowL
  cases hr : rowG (l.length + 1) l [] 0 with
  | none => rw [hr] at h1; simp at h1; rw [← h1]; rfl
  | some r => rw [hr] at h1; simp at h1; rw [← h1]; rfl
/-- the directives of lines, one by one, as the document's Parse finds them -/
def linG : List (List UInt8) → List UInt8 → List Ln → Nat → Par
  | [], blk, out, k => if blk = [] then (out, 0, 0) else ([], k - 1, 3)
  | l :: r, blk, out, k => match toksL l with
    | none => ([], k, 3)
    | some T => match decT blk T k with
      | none => ([], k, 3)
      | some (blk', x) => linG r blk' (out ++ x) (k + 1)
/-- a text's lines -/
def linesL : List UInt8 → List (List UInt8)
  | [] => [[]]
  | c :: l => if c = 10 then [] :: linesL l else match linesL l with
    | h :: t => (c :: h) :: t
    | [] => [[c]]
theorem linesL_ne (l : List UInt8) : linesL l ≠ [] := by
  cases l with
  | nil => simp [linesL]
  | cons c l => unfold linesL; split; simp; split <;> simp
theorem lines_app : ∀ (a b : List UInt8), 10 ∉ a → linesL (a ++ 10 :: b) = a :: linesL b
  | [], b, _ => by simp [linesL]
  | c :: a, b, h => by
    have hc : c ≠ 10 := fun e => h (by simp [e])
    rw [List.cons_append, linesL, if_neg hc, lines_app a b (fun e => h (by simp [e]))]
theorem lines_one : ∀ (a : List UInt8), 10 ∉ a → linesL a = [a]
  | [], _ => rfl
  | c :: a, h => by
    have hc : c ≠ 10 := fun e => h (by simp [e])
    rw [linesL, if_neg hc, lines_one a (fun e => h (by simp [e]))]
theorem split_10 : ∀ (l : List UInt8), 10 ∉ l ∨ ∃ a b, l = a ++ 10 :: b ∧ 10 ∉ a
  | [] => .inl (by simp)
  | c :: l => by
    by_cases hc : c = 10
    · exact .inr ⟨[], l, by rw [hc]; rfl, by simp⟩
    · rcases split_10 l with h | ⟨a, b, h1, h2⟩
      · exact .inl (fun e => by rcases List.mem_cons.1 e with e | e; exact hc e.symm; exact h e)
      · exact .inr ⟨c :: a, b, by rw [h1]; rfl, fun e => by rcases List.mem_cons.1 e with e | e; exact hc e.symm; exact h2 e⟩
theorem par_lines : ∀ (f : Nat) (l blk : List UInt8) (out : List Ln) (k : Nat), l.length < f → 1 ≤ k → parG f l blk out k = linG (linesL l) blk out k
  | 0, l, _, _, _, h, _ => absurd h (by omega)
  | f + 1, l, blk, out, k, hf, hk => by
    rcases split_10 l with h | ⟨a, b, rfl, ha⟩
    · rw [lines_one l h, linG]
      cases ht : toksL l with
      | none => rw [parG, par_dec_none h ht]
      | some T =>
        have hd := row_dec ht blk k
        simp only
        rw [parG]
        cases hr : rowL l with
        | none => rw [hr] at hd; simp only [Option.bind_none] at hd; rw [← hd]
        | some r =>
          rw [hr] at hd
          obtain ⟨h1, h2⟩ := row_alone _ _ _ _ _ h (Nat.lt_succ_self _) hr
          obtain ⟨ws, b, last, t⟩ := r
          simp only at h1 h2
          subst h1
          simp only [Option.bind_some] at hd
          simp only
          rw [hd]
          cases decT blk T k with
          | none => rfl
          | some y =>
            simp only [if_true, linG]
            rw [show k + 1 - 1 = k from rfl]
    · rw [lines_app a b ha, linG]
      have hrl : rowL (a ++ 10 :: b) = (rowL a).map fun r => (r.1, r.2.1, false, b) := row_line _ _ a b [] 0 ha (Nat.lt_succ_self _) (Nat.lt_succ_self _)
      rw [parG, hrl]
      cases ht : toksL a with
      | none => rw [par_dec_none ha ht]; rfl
      | some T =>
        have hd := row_dec ht blk k
        cases hr : rowL a with
        | none => rw [hr] at hd; simp only [Option.bind_none] at hd; simp only [Option.map_none]; rw [← hd]
        | some r =>
          rw [hr] at hd
          simp only [Option.bind_some] at hd
          simp only [Option.map_some]
          rw [hd]
          cases decT blk T k with
          | none => rfl
          | some y =>
            simp only [Bool.false_eq_true, if_false]
            exact par_lines f b y.1 _ (k + 1) (by simp at hf; omega) (by omega)
theorem parL_lines (l : List UInt8) : parL l = linG (linesL l) [] [] 1 := par_lines _ l [] [] 1 (Nat.lt_succ_self _) (Nat.le_refl _)
end Go.Proofs.YtgkjmmfpbcgmgaaDoor
