/-
  Taken over from another program: MfT.
  Taken over from another program: RqM.
  Taken over from another program: JoiW.
  CartularyRequired: the law's walk.
  A slice of numbers that was handed in, opened.
-/
import Derived.Test.YtmhjdahmmdfbcaaGreatDoorJMMfP
import Derived.Test.YtmhjdahmmdfbcaaGreatDoorJMLexD
import Derived.Laws.OwnMore
import Derived.ProofKit
import Derived.SizedLaws
namespace Go.Proofs.YtmhjdahmmdfbcaaGreatDoor.M
open Go.RowKit
abbrev To := Nat × List UInt8
/-- the tokens of a line -/
def toksG : Nat → List UInt8 → Option (List To)
  | 0, _ => none
  | f + 1, l => if (tokL l).1 = 1 ∨ (tokL l).1 = 2 then some [] else if (tokL l).1 = 6 then none else (toksG f (tokL l).2.2).map (((tokL l).1, (tokL l).2.1) :: ·)
def toksL (l : List UInt8) : Option (List To) := toksG (l.length + 1) l
theorem toks_fuel : ∀ (f g : Nat) (l : List UInt8), l.length < f → l.length < g → toksG f l = toksG g l
  | 0, _, l, h, _ => absurd h (by omega)
  | _, 0, l, _, h => absurd h (by omega)
  | f + 1, g + 1, l, hf, hg => by
    rw [toksG, toksG]
    split
    · rfl
    · split
      · rfl
      · rename_i h1 h6
        have := tok_less (l := l) (fun e => h1 (.inl e)) h6
        rw [toks_fuel f g _ (by omega) (by omega)]
theorem toks_eq (l : List UInt8) : toksL l = if (tokL l).1 = 1 ∨ (tokL l).1 = 2 then some [] else if (tokL l).1 = 6 then none else (toksL (tokL l).2.2).map (((tokL l).1, (tokL l).2.1) :: ·) := by
  unfold toksL
  rw [toksG]
  split
  · rfl
  · split
    · rfl
    · rename_i h1 h6
      have := tok_less (l := l) (fun e => h1 (.inl e)) h6
      rw [toks_fuel l.length ((tokL l).2.2.length + 1) _ (by omega) (by omega)]
/-- a row out of tokens -/
def rowT : List To → List (List UInt8) → Nat → Option (List (List UInt8) × Nat)
  | [], ws, b => some (ws, b)
  | t :: T, ws, b => if b ≠ 0 then none else if t.1 = 5 then rowT T (ws ++ [t.2]) b else rowT T ws t.1
theorem row_toks : ∀ (f : Nat) (l : List UInt8) ws b, l.length < f → (rowG f l ws b).map (fun r => (r.1, r.2.1)) = (toksG f l).bind fun T => rowT T ws b
  | 0, l, _,_, h => absurd h (by omega)
  | f + 1, l, ws, b, hf => by
    rw [rowG, toksG]
    by_cases h1 : (tokL l).1 = 1
    · rw [if_pos h1, if_pos (.inl h1)]; rfl
    · rw [if_neg h1]
      by_cases h2 : (tokL l).1 = 2
      · rw [if_pos h2, if_pos (.inr h2)]; rfl
      · rw [if_neg h2, if_neg (show ¬ ((tokL l).1 = 1 ∨ (tokL l).1 = 2) by omega)]
        by_cases h6 : (tokL l).1 = 6
        · rw [if_pos (.inl h6), if_pos h6]; rfl
        · rw [if_neg h6]
          have hl := tok_less h1 h6
          by_cases hb : b ≠ 0
          · rw [if_pos (.inr hb)]
            cases toksG f (tokL l).2.2 with
            | none => rfl
            | some T => simp [rowT, hb]
          · rw [if_neg (show ¬ ((tokL l).1 = 6 ∨ b ≠ 0) by omega)]
            simp only [ne_eq, Decidable.not_not] at hb
            subst hb
            split
            · rename_i h5
              rw [row_toks f _ _ _ (by omega)]
              cases toksG f (tokL l).2.2 with
              | none => rfl
              | some T => simp [rowT, h5]
            · rename_i h5
              rw [row_toks f _ _ _ (by omega)]
              cases toksG f (tokL l).2.2 with
              | none => rfl
              | some T => simp [rowT, h5]
theorem toks_kind : ∀ (f : Nat) (l : List UInt8) T, toksG f l = some T → ∀ t ∈ T, t.1 = 3 ∨ t.1 = 4 ∨ t.1 = 5
  | 0, l, T, h => by cases h
  | f + 1, l, T, h => by
    rw [toksG] at h
    have hk := tok_kind l
    split at h
    · simp at h; subst h; simp
    · split at h
      · cases h
      · rename_i h1 h6
        cases hr : toksG f (tokL l).2.2 with
        | none => rw [hr] at h; cases h
        | some T' =>
          rw [hr] at h
          simp at h
          subst h
          intro t ht
          rcases List.mem_cons.1 ht with rfl | ht
          · simp only; omega
          · exact toks_kind f _ T' hr t ht
/-- what the document's Parse makes of a line's tokens -/
def decT (blk : List UInt8) (T : List To) (k : Nat) : Option (List UInt8 × List Ln) :=
  if T = [] then some (blk, [])
  else if blk ≠ [] ∧ T.length = 1 ∧ (T.getD 0 (0, [])).1 = 4 then some ([], [])
  else if blk = [] ∧ T.length = 2 ∧ (T.getD 1 (0, [])).1 = 3 ∧ (T.getD 0 (0, [])).1 = 5 ∧ (T.getD 0 (0, [])).2 ≠ [] then some ((T.getD 0 (0, [])).2, [])
  else if T.any (fun t => t.1 != 5) then none
  else if blk ≠ [] then some (blk, [(blk, T.map (·.2), k)])
  else if (T.getD 0 (0, [])).2 = [] then none
  else some (blk, [((T.getD 0 (0, [])).2, (T.map (·.2)).drop 1, k)])
theorem rowT_words : ∀ (T : List To) ws, T.any (fun t => t.1 != 5) = false → rowT T ws 0 = some (ws ++ T.map (·.2), 0)
  | [], ws, _ => by simp [rowT]
  | t :: T, ws, h => by
    simp only [List.any_cons, Bool.or_eq_false_iff, bne_eq_false_iff_eq] at h
    rw [rowT]
    simp only [ne_eq, not_true_eq_false, if_false, h.1, if_true]
    rw [rowT_words T _ h.2]
    simp
theorem rowT_mark : ∀ (T : List To) ws r, (∀ t ∈ T, t.1 = 3 ∨ t.1 = 4 ∨ t.1 = 5) → T.any (fun t => t.1 != 5) = true → rowT T ws 0 = some r → ∃ W y, T = W ++ [(r.2, y)] ∧ r.2 ≠ 5 ∧ r.2 ≠ 0 ∧ (∀ t ∈ W, t.1 = 5) ∧ r.1 = ws ++ W.map (·.2)
  | [], ws, r, _, h, _ => by simp at h
  | t :: T, ws, r, hk, h, hr => by
    have ht := hk t (by simp)
    rw [rowT] at hr
    simp only [ne_eq, not_true_eq_false, if_false] at hr
    by_cases h5 : t.1 = 5
    · rw [if_pos h5] at hr
      have h' : T.any (fun t => t.1 != 5) = true := by
        simp only [List.any_cons, h5] at h
        simpa using h
      obtain ⟨W, y, e1, e2, e3, e4, e5⟩ := rowT_mark T _ r (fun x hx => hk x (by simp [hx])) h' hr
      refine ⟨t :: W, y, by rw [e1]; rfl, e2, e3, ?_, ?_⟩
      · intro x hx
        rcases List.mem_cons.1 hx with rfl | hx
        · exact h5
        · exact e4 x hx
      · rw [e5]; simp
    · rw [if_neg h5] at hr
      cases T with
      | nil =>
        simp [rowT] at hr
        subst hr
        exact ⟨[], t.2, by simp, h5, by omega, by simp, by simp⟩
      | cons u T =>
        rw [rowT, if_pos (by omega)] at hr
        cases hr
theorem take_T (blk : List UInt8) (T : List To) (k : Nat) (hk : ∀ t ∈ T, t.1 = 3 ∨ t.1 = 4 ∨ t.1 = 5) : ((rowT T [] 0).bind fun r => takeD blk r.1 r.2 k) = decT blk T k := by
  unfold decT
  by_cases h0 : T = []
  · rw [if_pos h0, h0]; simp [rowT, takeD]
  · rw [if_neg h0]
    by_cases hm : T.any (fun t => t.1 != 5) = true
    · cases hr : rowT T [] 0 with
      | none =>
        -- no row: neither a single mark nor a word and a mark
        have n1 : ¬ (blk ≠ [] ∧ T.length = 1 ∧ (T.getD 0 (0, [])).1 = 4) := by
          rintro ⟨_, h1, h2⟩
          obtain ⟨t, rfl⟩ := List.length_eq_one_iff.1 h1
          simp at h2
          simp [rowT] at hr
          split at hr <;> simp at hr
        have n2 : ¬ (blk = [] ∧ T.length = 2 ∧ (T.getD 1 (0, [])).1 = 3 ∧ (T.getD 0 (0, [])).1 = 5 ∧ (T.getD 0 (0, [])).2 ≠ []) := by
          rintro ⟨_, h1, h2, h3, _⟩
          obtain ⟨t, u, rfl⟩ : ∃ t u, T = [t, u] := by
            match T, h1 with
            | [t, u], _ => exact ⟨t, u, rfl⟩
          simp at h2 h3
          simp [rowT, h2, h3] at hr
        rw [if_neg n1, if_neg n2, if_pos hm]; rfl
      | some r =>
        obtain ⟨W, y, e1, e2, e3, e4, e5⟩ := rowT_mark T [] r hk hm hr
        obtain ⟨ws, b⟩ := r
        simp only [List.nil_append] at e1 e2 e3 e5
        simp only [Option.bind_some]
        have hb : b = 3 ∨ b = 4 := by
          have := hk (b, y) (by rw [e1]; simp)
          simp only at this
          omega
        rcases hb with rfl | rfl
        · -- an opening bracket
          have n1 : ¬ (blk ≠ [] ∧ T.length = 1 ∧ (T.getD 0 (0, [])).1 = 4) := by
            rintro ⟨_, h1, h2⟩
            rw [e1] at h1 h2
            simp at h1
            subst h1
            simp at h2
          rw [if_neg n1]
          unfold takeD
          rw [if_pos rfl]
          by_cases hW : W.length = 1
          · obtain ⟨t, rfl⟩ := List.length_eq_one_iff.1 hW
            have ht := e4 t (by simp)
            subst e1 e5
            by_cases hc : blk = [] ∧ t.2 ≠ []
            · rw [if_pos ⟨hc.1, by simp, by simp, by simpa using ht, by simpa using hc.2⟩]
              simp [hc]
            · rw [if_neg (fun h => hc ⟨h.1, by simpa using h.2.2.2.2⟩), if_pos hm]
              simp [hc]
          · have n2 : ¬ (blk = [] ∧ T.length = 2 ∧ (T.getD 1 (0, [])).1 = 3 ∧ (T.getD 0 (0, [])).1 = 5 ∧ (T.getD 0 (0, [])).2 ≠ []) := by
              rintro ⟨_, h1, _⟩
              rw [e1] at h1; simp at h1; exact hW h1
            rw [if_neg n2, if_pos hm, e5]
            cases W with
            | nil => rfl
            | cons a W =>
              cases W with
              | nil => simp at hW
              | cons b W => rfl
        · -- a closing one
          have n2 : ¬ (blk = [] ∧ T.length = 2 ∧ (T.getD 1 (0, [])).1 = 3 ∧ (T.getD 0 (0, [])).1 = 5 ∧ (T.getD 0 (0, [])).2 ≠ []) := by
            rintro ⟨_, h1, h2, _⟩
            rw [e1] at h1 h2
            simp at h1
            obtain ⟨t, rfl⟩ := List.length_eq_one_iff.1 h1
            simp at h2
          unfold takeD
          rw [if_neg (by omega), if_pos rfl]
          by_cases hW : W = []
          · subst hW
            simp only [List.nil_append, List.map_nil] at e1 e5
            subst e1 e5
            by_cases hbk : blk = []
            · rw [if_neg (by simp [hbk]), if_neg (by simp [hbk]), if_neg n2, if_pos hm]
            · rw [if_pos ⟨hbk, rfl⟩, if_pos ⟨hbk, by simp, by simp⟩]
          · have hws : ws ≠ [] := by rw [e5]; simpa using hW
            rw [if_neg (fun h => hws h.2), if_neg, if_neg n2, if_pos hm]
            rintro ⟨_, h1, _⟩
            rw [e1] at h1; simp at h1; exact hW h1
    · have hm' : T.any (fun t => t.1 != 5) = false := Bool.eq_false_iff.2 hm
      have h5 : ∀ t ∈ T, t.1 = 5 := fun t ht => by
        have := List.any_eq_false.1 hm' t ht
        simpa using this
      rw [rowT_words T [] hm']
      simp only [Option.bind_some, List.nil_append]
      obtain ⟨t, R, rfl⟩ : ∃ t R, T = t :: R := by
        cases T with
        | nil => exact absurd rfl h0
        | cons t R => exact ⟨t, R, rfl⟩
      have ht := h5 t (by simp)
      have n1 : ¬ (blk ≠ [] ∧ (t :: R).length = 1 ∧ ((t :: R).getD 0 (0, [])).1 = 4) := by
        rintro ⟨_,_, h2⟩; simp at h2; omega
      have n2 : ¬ (blk = [] ∧ (t :: R).length = 2 ∧ ((t :: R).getD 1 (0, [])).1 = 3 ∧ ((t :: R).getD 0 (0, [])).1 = 5 ∧ ((t :: R).getD 0 (0, [])).2 ≠ []) := by
        rintro ⟨_, h1, h2, _⟩
        cases R with
        | nil => simp at h1
        | cons u R => have := h5 u (by simp); simp at h2; omega
      rw [if_neg n1, if_neg n2, if_neg (by rw [hm']; simp)]
      unfold takeD
      rw [if_neg (by omega), if_neg (by omega)]
      simp only [List.map_cons]
      by_cases hbk : blk = []
      · simp [hbk]
      · simp [hbk]
/-- a text by its lines: the first line's step -/
theorem par_dec_none {l : List UInt8} (_h10 : 10 ∉ l) (h : toksL l = none) : rowL l = none := by
  have := row_toks (l.length + 1) l [] 0 (Nat.lt_succ_self _)
  rw [show toksG (l.length + 1) l = none from h] at this
  unfold rowL
  cases hr : rowG (l.length + 1) l [] 0 with
  | none => rfl
  | some r => rw [hr] at this; cases this
theorem row_dec {l : List UInt8} {T : List To} (h : toksL l = some T) (blk : List UInt8) (k : Nat) : ((rowL l).bind fun r => takeD blk r.1 r.2.1 k) = decT blk T k := by
  have h1 := row_toks (l.length + 1) l [] 0 (Nat.lt_succ_self _)
  rw [show toksG (l.length + 1) l = some T from h] at h1
  rw [← take_T blk T k (toks_kind _ l T h)]
  unfold rowL
  cases hr : rowG (l.length + 1) l [] 0 with
  | none => rw [hr] at h1; simp at h1; rw [← h1]; rfl
  | some r => rw [hr] at h1; simp at h1; rw [← h1]; rfl
/-- the directives of lines, one by one, as the document's Parse finds them -/
def linG : List (List UInt8) → List UInt8 → List Ln → Nat → Par
  | [], blk, out, k => if blk = [] then (out, 0, 0) else ([], k - 1, 3)
  | l :: r, blk, out, k => match toksL l with
    | none => ([], k, 3)
    | some T => match decT blk T k with
      | none => ([], k, 3)
      | some (blk', x) => linG r blk' (out ++ x) (k + 1)
/-- a text's lines -/
def linesL : List UInt8 → List (List UInt8)
  | [] => [[]]
  | c :: l => if c = 10 then [] :: linesL l else match linesL l with
    | h :: t => (c :: h) :: t
    | [] => [[c]]
theorem lines_app : ∀ (a b : List UInt8), 10 ∉ a → linesL (a ++ 10 :: b) = a :: linesL b
  | [], b, _ => by simp [linesL]
  | c :: a, b, h => by
    have hc : c ≠ 10 := fun e => h (by simp [e])
    rw [List.cons_append, linesL, if_neg hc, lines_app a b (fun e => h (by simp [e]))]
theorem lines_one : ∀ (a : List UInt8), 10 ∉ a → linesL a = [a]
  | [], _ => rfl
  | c :: a, h => by
    have hc : c ≠ 10 := fun e => h (by simp [e])
    rw [linesL, if_neg hc, lines_one a (fun e => h (by simp [e]))]
theorem split_10 : ∀ (l : List UInt8), 10 ∉ l ∨ ∃ a b, l = a ++ 10 :: b ∧ 10 ∉ a
  | [] => .inl (by simp)
  | c :: l => by
    by_cases hc : c = 10
    · exact .inr ⟨[], l, by rw [hc]; rfl, by simp⟩
    · rcases split_10 l with h | ⟨a, b, h1, h2⟩
      · exact .inl (fun e => by rcases List.mem_cons.1 e with e | e; exact hc e.symm; exact h e)
      · exact .inr ⟨c :: a, b, by rw [h1]; rfl, fun e => by rcases List.mem_cons.1 e with e | e; exact hc e.symm; exact h2 e⟩
theorem par_lines : ∀ (f : Nat) (l blk : List UInt8) (out : List Ln) (k : Nat), l.length < f → 1 ≤ k → parG f l blk out k = linG (linesL l) blk out k
  | 0, l, _,_,_, h, _ => absurd h (by omega)
  | f + 1, l, blk, out, k, hf, hk => by
    rcases split_10 l with h | ⟨a, b, rfl, ha⟩
    · rw [lines_one l h, linG]
      cases ht : toksL l with
      | none => rw [parG, par_dec_none h ht]
      | some T =>
        have hd := row_dec ht blk k
        simp only
        rw [parG]
        cases hr : rowL l with
        | none => rw [hr] at hd; simp only [Option.bind_none] at hd; rw [← hd]
        | some r =>
          rw [hr] at hd
          obtain ⟨h1, h2⟩ := row_alone _ _ _ _ _ h (Nat.lt_succ_self _) hr
          obtain ⟨ws, b, last, t⟩ := r
          simp only at h1 h2
          subst h1
          simp only [Option.bind_some] at hd
          simp only
          rw [hd]
          cases decT blk T k with
          | none => rfl
          | some y =>
            simp only [if_true, linG]
            rw [show k + 1 - 1 = k from rfl]
    · rw [lines_app a b ha, linG]
      have hrl : rowL (a ++ 10 :: b) = (rowL a).map fun r => (r.1, r.2.1, false, b) := row_line _ _ a b [] 0 ha (Nat.lt_succ_self _) (Nat.lt_succ_self _)
      rw [parG, hrl]
      cases ht : toksL a with
      | none => rw [par_dec_none ha ht]; rfl
      | some T =>
        have hd := row_dec ht blk k
        cases hr : rowL a with
        | none => rw [hr] at hd; simp only [Option.bind_none] at hd; simp only [Option.map_none]; rw [← hd]
        | some r =>
          rw [hr] at hd
          simp only [Option.bind_some] at hd
          simp only [Option.map_some]
          rw [hd]
          cases decT blk T k with
          | none => rfl
          | some y =>
            simp only [Bool.false_eq_true, if_false]
            exact par_lines f b y.1 _ (k + 1) (by simp at hf; omega) (by omega)
theorem parL_lines (l : List UInt8) : parL l = linG (linesL l) [] [] 1 := par_lines _ l [] [] 1 (Nat.lt_succ_self _) (Nat.le_refl _)
end Go.Proofs.YtmhjdahmmdfbcaaGreatDoor.M
namespace Go.Proofs.YtmhjdahmmdfbcaaGreatDoor.M
open Go.RowKit
def rqMod : List UInt8 := [109, 111, 100, 117, 108, 101]
def rqReq : List UInt8 := [114, 101, 113, 117, 105, 114, 101]
def rqInd : List UInt8 := [32, 47, 47, 32, 105, 110, 100, 105, 114, 101, 99, 116]
def wrdB (c : UInt8) : Bool := !(c == 10 || c == 32 || c == 9 || c == 13 || c == 40 || c == 41 || c == 34 || c == 96 || c == 47)
/-- bytes of a word; a slash is followed by another byte -/
def WordL : List UInt8 → Prop
  | [] => True
  | c :: r => (wrdB c = true ∨ (c = 47 ∧ ∃ d q, r = d :: q ∧ d ≠ 47)) ∧ WordL r
theorem WordL.of_plain : ∀ {l : List UInt8}, (∀ c ∈ l, wrdB c = true) → WordL l
  | [], _ => trivial
  | c :: r, h => ⟨.inl (h c (by simp)), WordL.of_plain fun d hd => h d (by simp [hd])⟩
theorem plain_wrd {c : UInt8} (h : plnB c = true) : wrdB c = true := by
  have hx : ∀ k : UInt8, plnB k = false → c ≠ k := fun k hk e => by rw [e, hk] at h; cases h
  unfold wrdB
  simp [hx 10 (by decide), hx 32 (by decide), hx 9 (by decide), hx 13 (by decide), hx 40 (by decide), hx 41 (by decide), hx 34 (by decide), hx 96 (by decide), hx 47 (by decide)]
theorem WordL.of_path : ∀ {l : List UInt8}, (∀ c ∈ l, c = 47 ∨ plnB c = true) → (∀ p ∈ (partsL l).tail, p ≠ []) → WordL l
  | [], _,_ => trivial
  | c :: r, h, hf => by
    have hf2 : ∀ p ∈ (partsL r).tail, p ≠ [] := by
      rw [partsL_cons] at hf
      by_cases hc : c = 47
      · rw [if_pos hc] at hf
        intro p hp
        exact hf p (List.mem_of_mem_tail hp)
      · rw [if_neg hc] at hf
        cases hp : partsL r with
        | nil => exact absurd hp (partsL_ne r)
        | cons x t => rw [hp] at hf; exact hf
    refine ⟨?_, WordL.of_path (fun d hd => h d (by simp [hd])) hf2⟩
    by_cases hc : c = 47
    · refine .inr ⟨hc, ?_⟩
      rw [partsL_cons, if_pos hc] at hf
      cases r with
      | nil => exact absurd rfl (hf [] (by simp [partsL]))
      | cons d q =>
        refine ⟨d, q, rfl, fun e => ?_⟩
        subst e
        exact absurd rfl (hf [] (by rw [partsL_cons]; simp))
    · rcases h c (by simp) with e | e
      · exact absurd e hc
      · exact .inl (plain_wrd e)
theorem word_of_path {l : List UInt8} (h : pathL l = true) : WordL l ∧ ∃ c r, l = c :: r ∧ c ≠ 47 := by
  obtain ⟨h1, h2⟩ := path_parts h
  have hw : WordL l := WordL.of_path (path_bytes h) fun p hp e => by
    have := h2 p (List.mem_of_mem_tail hp)
    rw [e] at this
    exact absurd this (by decide)
  refine ⟨hw, ?_⟩
  cases l with
  | nil => exact absurd (h2 [] (by simp [partsL])) (by decide)
  | cons c r =>
    refine ⟨c, r, rfl, fun e => ?_⟩
    subst e
    have := h2 [] (by rw [partsL_cons]; simp)
    exact absurd this (by decide)
theorem wrd_ne {c : UInt8} (h : wrdB c = true) : c ≠ 10 ∧ c ≠ 32 ∧ c ≠ 9 ∧ c ≠ 13 ∧ c ≠ 40 ∧ c ≠ 41 ∧ c ≠ 34 ∧ c ≠ 96 ∧ c ≠ 47 := by
  unfold wrdB at h
  simpa [not_or, and_assoc] using h
theorem WordL.no10 : ∀ {l : List UInt8}, WordL l → (10 : UInt8) ∉ l
  | [], _ => by simp
  | c :: r, h => by
    have := WordL.no10 h.2
    intro e
    rcases List.mem_cons.1 e with e | e
    · rcases h.1 with h1 | ⟨h1, _⟩
      · exact (wrd_ne h1).1 e.symm
      · rw [← e] at h1; exact absurd h1 (by decide)
    · exact this e
/-- a word ends at a blank, or at the text's end -/
theorem word_run : ∀ (l t : List UInt8), WordL l → (t = [] ∨ ∃ d q, t = d :: q ∧ (d = 9 ∨ d = 32)) → wordN (l ++ t) = l.length
  | [], t, _, ht => by
    rcases ht with rfl | ⟨d, q, rfl, hd⟩
    · simp [wordN]
    · have : wEnd (d :: q) = true := by rcases hd with rfl | rfl <;> simp [wEnd, blkB]
      rw [List.nil_append, wordN, if_pos this]; rfl
  | c :: r, t, hw, ht => by
    have ih := word_run r t hw.2 ht
    have he : wEnd (c :: (r ++ t)) = false := by
      rcases hw.1 with h | ⟨rfl, d, q, rfl, hd⟩
      · obtain ⟨n1, n2, n3, n4, n5, n6, n7, n8, n9⟩ := wrd_ne h
        have hr : remB (c :: (r ++ t)) = false := by unfold remB; simp [n9]
        rw [wEnd, hr]
        unfold blkB
        simp [n1, n2, n3, n4, n5, n6, n7, n8]
      · have hr : remB (47 :: (d :: q ++ t)) = false := by unfold remB; simp [hd]
        rw [wEnd, hr]; rfl
    rw [List.cons_append, wordN, he]
    simp [ih]
/-- blanks, then a word, then a blank or nothing -/
theorem tok_run (l t : List UInt8) (hw : WordL l) (hc : ∃ c r, l = c :: r ∧ c ≠ 47) (ht : t = [] ∨ ∃ d q, t = d :: q ∧ (d = 9 ∨ d = 32)) (b : List UInt8) (hb : b = [] ∨ b = [9] ∨ b = [32]) : tokL (b ++ l ++ t) = (5, l, t) := by
  obtain ⟨c, r, rfl, h47⟩ := hc
  have hwc : wrdB c = true := by rcases hw.1 with h | h; exact h; exact absurd h.1 h47
  obtain ⟨n1, n2, n3, n4, n5, n6, n7, n8, n9⟩ := wrd_ne hwc
  have hn := word_run r t hw.2 ht
  have hr : remB (c :: (r ++ t)) = false := by unfold remB; simp [n9]
  have hs0 : skipL false (c :: (r ++ t)) = c :: (r ++ t) := by
    rw [skipL, hr]
    simp [blkB, n2, n3, n4]
  have hs : skipL false (b ++ (c :: r) ++ t) = c :: (r ++ t) := by
    rcases hb with rfl | rfl | rfl
    · exact hs0
    · show skipL false (9 :: c :: (r ++ t)) = _
      rw [skipL, if_neg (by simp [remB]), if_pos (by decide)]; exact hs0
    · show skipL false (32 :: c :: (r ++ t)) = _
      rw [skipL, if_neg (by simp [remB]), if_pos (by decide)]; exact hs0
  unfold tokL
  rw [hs, tokS, if_neg n1, if_neg n5, if_neg n6, if_neg n7, if_neg n8, hn]
  simp
theorem toks_word {l t w : List UInt8} {T : List To} (h : tokL l = (5, w, t)) (ht : toksL t = some T) : toksL l = some ((5, w) :: T) := by
  rw [toks_eq, h]
  simp [ht]
theorem toks_nil : toksL [] = some [] := by decide
theorem toks_ind : toksL rqInd = some [] := by decide
theorem toks_req : toksL (rqReq ++ [32, 40]) = some [(5, rqReq), (3, [])] := by decide
theorem toks_shut : toksL [41] = some [(4, [])] := by decide
theorem word_mod : WordL rqMod := WordL.of_plain (by decide)
theorem toks_mod {p : List UInt8} (h : pathL p = true) : toksL (rqMod ++ 32 :: p) = some [(5, rqMod), (5, p)] := by
  obtain ⟨hw, hc⟩ := word_of_path h
  refine toks_word (t := 32 :: p) ?_ (toks_word (t := []) ?_ toks_nil)
  · have := tok_run rqMod (32 :: p) word_mod ⟨_,_, rfl, by decide⟩ (.inr ⟨32, p, rfl, .inr rfl⟩) [] (.inl rfl)
    simpa using this
  · have := tok_run p [] hw hc (.inl rfl) [32] (.inr (.inr rfl))
    simpa using this
def reqC (p v : List UInt8) : List UInt8 := 9 :: (p ++ 9 :: (v ++ rqInd))
theorem toks_line {p v : List UInt8} (h : pathL p = true) (hv : WordL v) (hv2 : ∃ c r, v = c :: r ∧ c ≠ 47) : toksL (reqC p v) = some [(5, p), (5, v)] := by
  obtain ⟨hw, hc⟩ := word_of_path h
  refine toks_word (t := 9 :: (v ++ rqInd)) ?_ (toks_word (t := rqInd) ?_ toks_ind)
  · have := tok_run p (9 :: (v ++ rqInd)) hw hc (.inr ⟨9, _, rfl, .inl rfl⟩) [9] (.inr (.inl rfl))
    simpa [reqC] using this
  · have := tok_run v rqInd hv hv2 (.inr ⟨32, _, rfl, .inr rfl⟩) [9] (.inr (.inl rfl))
    simpa using this
theorem reqC_no10 {p v : List UInt8} (h : pathL p = true) (hv : WordL v) : (10 : UInt8) ∉ reqC p v := by
  have h1 := (word_of_path h).1.no10
  have h2 := hv.no10
  unfold reqC
  simp only [List.mem_cons, List.mem_append, not_or]
  exact ⟨by decide, h1, by decide, h2, by decide⟩
/-- the lines that require -/
def reqLs (p : List UInt8) : List (List UInt8) → Nat → List Ln
  | [], _ => []
  | v :: vs, k => (rqReq, [p, v], k) :: reqLs p vs (k + 1)
def reqF (p : List UInt8) (vs : List (List UInt8)) : List UInt8 := vs.flatMap fun v => reqC p v ++ [10]
def reqT (p : List UInt8) (vs : List (List UInt8)) : List UInt8 := rqMod ++ 32 :: p ++ 10 :: (rqReq ++ [32, 40, 10]) ++ reqF p vs
def VerL (v : List UInt8) : Prop := WordL v ∧ ∃ c r, v = c :: r ∧ c ≠ 47
theorem lin_req {p : List UInt8} (h : pathL p = true) : ∀ (vs : List (List UInt8)) (out : List Ln) (k : Nat), (∀ v ∈ vs, VerL v) → linG (linesL (reqF p vs ++ [41, 10])) rqReq out k = (out ++ reqLs p vs k, 0, 0)
  | [], out, k, _ => by
    have e : linesL (reqF p [] ++ [41, 10]) = [[41], []] := by show linesL [41, 10] = _; decide
    rw [e, linG, toks_shut]
    simp only
    have : decT rqReq [(4, [])] k = some ([], []) := by unfold decT; simp [rqReq]
    rw [this]
    simp only
    rw [linG, toks_nil]
    simp [decT, linG, reqLs]
  | v :: vs, out, k, hv => by
    obtain ⟨hv1, hv2⟩ := hv v (by simp)
    have e : reqF p (v :: vs) ++ [41, 10] = reqC p v ++ 10 :: (reqF p vs ++ [41, 10]) := by simp [reqF]
    rw [e, lines_app _ _ (reqC_no10 h hv1), linG, toks_line h hv1 hv2]
    simp only
    have : decT rqReq [(5, p), (5, v)] k = some (rqReq, [(rqReq, [p, v], k)]) := by unfold decT; simp [rqReq]
    rw [this]
    simp only
    rw [lin_req h vs _ (k + 1) (fun x hx => hv x (by simp [hx]))]
    simp [reqLs]
theorem par_req {p : List UInt8} (h : pathL p = true) (vs : List (List UInt8)) (hv : ∀ v ∈ vs, VerL v) : parL (reqT p vs ++ [41, 10]) = ((rqMod, [p], 1) :: reqLs p vs 3, 0, 0) := by
  rw [parL_lines]
  have hp := (word_of_path h).1.no10
  have e : reqT p vs ++ [41, 10] = (rqMod ++ 32 :: p) ++ 10 :: ((rqReq ++ [32, 40]) ++ 10 :: (reqF p vs ++ [41, 10])) := by simp [reqT]
  have h1 : (10 : UInt8) ∉ rqMod ++ 32 :: p := by
    simp only [List.mem_append, List.mem_cons, not_or]
    exact ⟨by decide, by decide, hp⟩
  rw [e, lines_app _ _ h1, lines_app _ _ (by decide), linG, toks_mod h]
  simp only
  have d1 : decT [] [(5, rqMod), (5, p)] 1 = some ([], [(rqMod, [p], 1)]) := by unfold decT; simp [rqMod]
  rw [d1]
  simp only
  rw [linG, toks_req]
  simp only
  have d2 : decT [] [(5, rqReq), (3, [])] 2 = some (rqReq, []) := by unfold decT; simp [rqReq]
  rw [d2]
  simp only
  rw [lin_req h vs _ 3 hv]
  simp
theorem reqLs_len (p : List UInt8) : ∀ (vs : List (List UInt8)) (k : Nat), (reqLs p vs k).length = vs.length
  | [], _ => rfl
  | _ :: vs, k => by simp [reqLs, reqLs_len p vs (k + 1)]
theorem reqLs_get (p : List UInt8) : ∀ (vs : List (List UInt8)) (k i : Nat) (d : Ln) (h : i < vs.length), (reqLs p vs k).getD i d = (rqReq, [p, vs[i]], k + i)
  | [], _,_,_, h => by simp at h
  | v :: vs, k, 0, _,_ => by simp [reqLs]
  | v :: vs, k, i + 1, d, h => by
    have := reqLs_get p vs (k + 1) i d (by simpa using h)
    simp only [reqLs, List.getD_cons_succ, this, List.getElem_cons_succ]
    rw [show k + 1 + i = k + (i + 1) by omega]
end Go.Proofs.YtmhjdahmmdfbcaaGreatDoor.M
namespace Go.Proofs.YtmhjdahmmdfbcaaGreatDoor.M
open Go.RowKit
end Go.Proofs.YtmhjdahmmdfbcaaGreatDoor.M
namespace Go.Proofs.YtmhjdahmmdfbcaaGreatDoor
open Go.RowKit

/-- numbers in a row that was handed in -/
def IntsR (w : World) (a : Option Addr) (n : Nat) (f : Nat → Int) : Prop := n = 0 ∨ ∃ b off, a = some ⟨b, off, none⟩ ∧ ∀ i, i < n → w.cell? ⟨b, off + i, none⟩ = some (.int .i64 (f i))
theorem IntsR.below {w w' : World} {a : Option Addr} {n : Nat} {f : Nat → Int} (h : IntsR w a n f) (hb : Below w.heap.size w w') : IntsR w' a n f := by
  rcases h with h | ⟨b, off, h1, h2⟩
  · exact .inl h
  · exact .inr ⟨b, off, h1, fun i hi => (hb.cell (p := ⟨b, _, none⟩) (World.block_lt_of_cell? w _ (h2 i hi))).trans (h2 i hi)⟩
theorem own_keep {w W : World} {B : Nat} {e : TypeId} {z n : Nat} {v : Value} {xs : List Value} (h : w.ownsRow B e z v n xs) (hb : ∀ (g : Nat) (cur : Array Value), w.heap[g]? = some (Obj.cells cur e (0, 0)) → W.heap[g]? = w.heap[g]?) : W.ownsRow B e z v n xs := by
  obtain ⟨hl, h2⟩ := h
  refine ⟨hl, ?_⟩
  rcases h2 with h2 | ⟨g, cap, cur, q1, q2, q3, q4⟩
  · exact .inl h2
  · exact .inr ⟨g, cap, cur, q1, q2, by rw [hb g cur q3]; exact q3, q4⟩
theorem grow_other {w w5 : World} {B : Nat} {e e' : TypeId} {z n : Nat} {v : Value} {xs : List Value} (h1 : w.ownsRow B e z v n xs) (hne : e ≠ e') (h4 : w.grownBy w5 v.ownBlock) : ∀ (g : Nat) (cur : Array Value), w.heap[g]? = some (Obj.cells cur e' (0, 0)) → w5.heap[g]? = w.heap[g]? := by
  intro g cur hg
  have hlt : g < w.heap.size := by
    by_cases h : g < w.heap.size
    · exact h
    · rw [Array.getElem?_eq_none (Nat.le_of_not_lt h)] at hg; cases hg
  refine h4.block g hlt ?_
  intro e0
  rcases h1.2 with ⟨q1, _⟩ | ⟨g', cap, cur', q1, hB, hg', _⟩
  · rw [q1] at e0; simp [Value.ownBlock] at e0
  · rw [q1] at e0
    simp [Value.ownBlock] at e0
    subst e0
    rw [hg'] at hg
    simp only [Option.some.injEq, Obj.cells.injEq] at hg
    exact hne hg.2.1
def intsV (l : List Int) : List Value := l.map (Value.int .i64)
def OwnI (w : World) (B : Nat) (v : Value) (l : List Int) : Prop := w.ownsRow B 3 1 v l.length (intsV l)
theorem OwnI.push {w : World} {B : Nat} {v : Value} {l : List Int} {x : Int} (h : w.ownsRow B 3 1 v (l.length + 1) (intsV l ++ [.int .i64 x])) : OwnI w B v (l ++ [x]) := by
  unfold OwnI intsV at *
  rw [List.length_append, List.map_append]
  exact h
theorem own_below {w wr w1 : World} {B : Nat} {e : TypeId} {z n : Nat} {v : Value} {xs : List Value} {o : Obj} (hown : wr.ownsRow B e z v n xs) (hb : Below B w wr) (hB : B ≤ wr.heap.size) (hg : (wr.alloc o).grownBy w1 v.ownBlock) : Below B w w1 :=
  (hb.alloc hB o).grown hg (by rw [World.size_alloc]; omega) (fun k hk => (World.ownsRow.lt (World.ownsRow.alloc hown o) k hk).1)
theorem OwnI.shape {w : World} {B : Nat} {v : Value} {l : List Int} (h : OwnI w B v l) : ∃ a c, v = .slice a l.length c ∧ (l ≠ [] → ∃ g, a = some ⟨g, 0, none⟩ ∧ B ≤ g ∧ g < w.heap.size ∧ ∀ j (h : j < l.length), w.cell? ⟨g, j, none⟩ = some (.int .i64 l[j])) := by
  rcases h.2 with ⟨hnil, hn⟩ | ⟨g, cap, cur, rfl, hbase, hbk, h1, h2, h3, h4⟩
  · exact ⟨none, 0, by rw [hnil, hn], fun hne => absurd (List.eq_nil_of_length_eq_zero hn) hne⟩
  · have hlt : g < w.heap.size := by
      by_cases h : g < w.heap.size
      · exact h
      · rw [Array.getElem?_eq_none (Nat.le_of_not_lt h)] at hbk; cases hbk
    refine ⟨_, cap, rfl, fun _ => ⟨g, rfl, hbase, hlt, fun j hj => ?_⟩⟩
    have : (cur.toList.take (l.length * 1))[j]? = (intsV l)[j]? := by rw [h4]
    rw [List.getElem?_take_of_lt (by omega)] at this
    rw [cell_of_row w g _ _ 3 (0, 0) hbk, ← Array.getElem?_toList, this]
    simp [intsV, hj]
theorem OwnS.cap {w : World} {B : Nat} {a : Option Addr} {n c : Nat} {l : List ByteArray} (h : OwnS w B (.slice a n c) l) : l.length ≤ c := by
  rcases h.2 with ⟨hnil, hn⟩ | ⟨g, cap, cur, q, _,_, h1, _⟩
  · omega
  · injection q with _ _ q3
    omega
/-- the text, as it grows -/
theorem req_grow (p : List UInt8) (vs : List (List UInt8)) (v : List UInt8) : M.reqT p (vs ++ [v]) = M.reqT p vs ++ (M.reqC p v ++ [10]) := by
  unfold M.reqT M.reqF
  rw [List.flatMap_append]
  simp
theorem mod_req {p : List UInt8} (h : M.pathL p = true) (vs : List (List UInt8)) (hv : ∀ v ∈ vs, M.VerL v) : M.modL (M.reqT p vs ++ [41, 10]) = (p, 0, 0) := by
  have hp := M.par_req h vs hv
  unfold M.modL
  rw [hp]
  simp only [ne_eq, not_true_eq_false, if_false]
  rw [M.modG_one (x := p) rfl rfl, if_pos h]
  have hs : ∀ (vs : List (List UInt8)) (k : Nat), M.modG (M.reqLs p vs k) p = (p, 0, 0) := by
    intro vs
    induction vs with
    | nil => intro k; rw [M.reqLs, M.modG, if_neg (M.path_ne h)]
    | cons v vs ih =>
      intro k
      rw [M.reqLs, M.modG_skip (by show M.rqReq ≠ M.modW; decide)]
      exact ih (k + 1)
  exact hs vs 3

theorem lt_of_cellR {w : World} {p : Addr} {v : Value} (h : w.cell? p = some v) : p.block < w.heap.size := M.lt_of_cell h
theorem reqLs_len2 (p : List UInt8) (vs : List (List UInt8)) (k : Nat) : (M.reqLs p vs k).length = vs.length := M.reqLs_len p vs k
theorem ver_wrd (c : UInt8) (h : verC1 c = true) : M.wrdB c = true := by
  have hk : ∀ n : Fin 256, verC1 (UInt8.ofNat n.val) = true → M.wrdB (UInt8.ofNat n.val) = true := by decide +kernel
  have := hk ⟨c.toNat, c.toNat_lt⟩
  simp only [UInt8.ofNat_toNat] at this
  exact this h
theorem ver_verL {v r : List UInt8} (e : v = 118 :: r) (h : ∀ c ∈ r, verC1 c = true) : M.VerL v := by
  subst e
  refine ⟨M.WordL.of_plain fun c hc => ver_wrd c ?_, 118, r, rfl, by decide⟩
  rcases List.mem_cons.1 hc with rfl | hc
  · decide
  · exact h c hc
theorem info3i : (Tryz.prog.info? 3).map (fun i => (i.zero, i.size, i.bytes)) = some (some (.int .i64 0), 1, 8) := by kernel_rfl
structure ReqX (R : Int → ByteArray × Int) (path : ByteArray) (w2 : World) (k : Nat) (ts : List Int) (T : ByteArray) (L W : Value) (V : World) : Prop where
  few : ts.length ≤ k
  good : ∀ t ∈ ts, (R t).2 = 0
  text : T.data.toList = M.reqT path.data.toList (ts.map fun t => (R t).1.data.toList)
  size : T.size ≤ path.size + 18 + k * 315
  list : OwnS V w2.heap.size L (ts.map fun t => (R t).1)
  when : OwnI V w2.heap.size W ts
  bel : Below w2.heap.size w2 V
theorem ReqX.skip {R : Int → ByteArray × Int} {path : ByteArray} {w2 : World} {k : Nat} {ts : List Int} {T : ByteArray} {L W : Value} {V V' : World} (h : ReqX R path w2 k ts T L W V) (hb : Below V.heap.size V V') : ReqX R path w2 (k + 1) ts T L W V' :=
  ⟨Nat.le_succ_of_le h.few, h.good, h.text, Nat.le_trans h.size (Nat.add_le_add_left (Nat.mul_le_mul_right _ (Nat.le_succ k)) _), own_keep h.list (fun g _ hg => hb.block g (Array.getElem?_eq_some_iff.1 hg).1), own_keep h.when (fun g _ hg => hb.block g (Array.getElem?_eq_some_iff.1 hg).1), h.bel.trans (hb.mono h.bel.size)⟩
set_option maxHeartbeats 8000000 in
set_option maxRecDepth 100000 in
theorem required_walk (path base : ByteArray) (ta : Option Addr) (n tc : Nat) (tf : Nat → Int) (id : ByteArray) (w : World) (hG : GT w) (hT : IntsR w ta n tf) (hn : n ≤ 9223372036854775807) (hb : base.size ≤ 140737488355328) (hpz : path.size ≤ 140737488355328) :
    Calls Tryz.prog 7 #[.string path, .string base, .slice ta n tc, .string id] w fun e w' => e = .returned (.bool true) ∧ Below w.heap.size w w' := by
  obtain ⟨R, S, hMK, hST, hS14, hGO, hLE⟩ := rq_all base id (by omega)
  have HAW := hidM (fun V hV => rq_awake V hV)
  unfold pI rqN at HAW
  have HMK := hidM hMK
  have HST := hidM hST
  have HGO := hidM hGO
  have HLE := hidM hLE
  clear hMK hST hGO hLE
  have HG := hidM hG
  have HT := hidM hT
  have HPR := hidM (fun V => M.rpath_any path V)
  have HPP := hidM (fun V => M.path_any path V)
  clear hG hT
  cases hpl : M.pathL path.data.toList with
  | false =>
    rw [hpl] at HPR HPP
    go_enter Tryz.func7, Tryz.ntmps7
    go_wp2_with fail
    refine (HAW.out _ HG.out).mono ?_
    rintro _ w1 ⟨rfl, hb1⟩
    have HB1 := hidM hb1
    clear hb1 HAW
    go_wp2_with fail
    refine (HPR.out _).mono ?_
    rintro _ w2 ⟨rfl, hb2⟩
    have HB2 := hidM (HB1.out.trans (hb2.mono HB1.out.size))
    clear hb2
    go_wp2_with fail
    refine (HPP.out _).mono ?_
    rintro _ w3 ⟨rfl, hb3⟩
    have HB3 := hidM (HB2.out.trans (hb3.mono HB2.out.size))
    clear hb3
    go_wp2
    go_ret
    exact ⟨rfl, HB3.out⟩
  | true =>
    rw [hpl] at HPR
    have hp200 : path.size ≤ 200 := by
      have := (M.path_parts hpl).1
      rw [size_len] at this
      exact this
    have HPM := hidM (fun V => M.plain_mod_any path V hpz)
    have HPL := hidM hpl
    clear hpl HPP hpz
    obtain ⟨T0, hT0⟩ : ∃ T0, M.plainB ++ path ++ (⟨#[10]⟩ : ByteArray) = T0 := ⟨_, rfl⟩
    rw [hT0] at HPM
    have hz0 : T0.size = path.size + 8 := by rw [← hT0, ByteArray.size_append, ByteArray.size_append]; show 7 + path.size + 1 = _; omega
    obtain ⟨T1, hT1⟩ : ∃ T1, T0 ++ (⟨#[114, 101, 113, 117, 105, 114, 101, 32, 40, 10]⟩ : ByteArray) = T1 := ⟨_, rfl⟩
    have hz1 : T1.size = path.size + 18 := by rw [← hT1, ByteArray.size_append, hz0]; rfl
    have HT1 : Hid (T1.data.toList = M.reqT path.data.toList []) := by
      unfold Hid
      rw [← hT1, ← hT0]
      unfold M.plainB M.reqT M.reqF
      simp [M.rqMod, M.rqReq]
    have e0 : ¬ (9223372036854775807 : Nat) < T0.size + 10 := by omega
    go_enter Tryz.func7, Tryz.ntmps7
    go_wp2_with fail
    refine (HAW.out _ HG.out).mono ?_
    rintro _ w1 ⟨rfl, hb1⟩
    have HB1 := hidM hb1
    clear hb1 HAW
    go_wp2_with fail
    refine (HPR.out _).mono ?_
    rintro _ w2 ⟨rfl, hb2⟩
    have HB2 := hidM (HB1.out.trans (hb2.mono HB1.out.size))
    clear hb2 HB1 HPR
    have HG2 := hidM (HG.out.below HB2.out)
    have HT2 := hidM (HT.out.below HB2.out)
    clear HT HG
    go_wp2_with fail
    refine (HPM.out _).mono ?_
    rintro _ w2b ⟨rfl, hw2b⟩
    rw [hw2b]
    clear hw2b HPM hT0
    have HS0 : Hid (OwnS ((w2.alloc (.cells #[] 9)).alloc (.cells #[] 3)) w2.heap.size (.slice (some ⟨w2.heap.size, 0, none⟩) 0 0) []) :=
      World.ownsRow.alloc (show (w2.alloc (.cells #[] 9)).ownsRow w2.heap.size 9 1 (.slice (some ⟨w2.heap.size, 0, none⟩) 0 0) 0 [] from ⟨rfl, .inr ⟨w2.heap.size, 0, #[], rfl, Nat.le_refl _, heap_alloc_new w2 _, Nat.le_refl _, by simp [maxLen], rfl, rfl⟩⟩) _
    have HI0 : Hid (OwnI ((w2.alloc (.cells #[] 9)).alloc (.cells #[] 3)) w2.heap.size (.slice (some ⟨w2.heap.size + 1, 0, none⟩) 0 0) []) :=
      ⟨rfl, .inr ⟨w2.heap.size + 1, 0, #[], rfl, by omega, by have := heap_alloc_new (w2.alloc (.cells #[] 9)) (.cells #[] 3); rw [World.size_alloc] at this; exact this, Nat.le_refl _, by simp [maxLen], rfl, rfl⟩⟩
    have HB0 : Hid (Below w2.heap.size w2 ((w2.alloc (.cells #[] 9)).alloc (.cells #[] 3))) := ((Below.refl _ w2).alloc (Nat.le_refl _) _).alloc (by simp) _
    have HX0 : Hid (ReqX R path w2 0 [] T1 (.slice (some ⟨w2.heap.size, 0, none⟩) 0 0) (.slice (some ⟨w2.heap.size + 1, 0, none⟩) 0 0) ((w2.alloc (.cells #[] 9)).alloc (.cells #[] 3))) :=
      ⟨Nat.le_refl _, (fun t ht => by cases ht), HT1.out, by omega, HS0.out, HI0.out, HB0.out⟩
    obtain ⟨i0, hi, hz0, hz1, hz2⟩ := info_parts info9
    obtain ⟨j0, ji, jz0, jz1, jz2⟩ := info_parts info3i
    clear HS0 HI0 HB0 HT1
    go_wp2
    go_loopw [11, 12, 13, 14] (fun T L W I wr => ∃ (k : Nat) (ts : List Int) (t : ByteArray), k ≤ n ∧ k ≤ 20 ∧ T = .string t ∧ I = .int .i64 k ∧ ReqX R path w2 k ts t L W wr) (fun _ _ _ I _ => n - (intOf I).toNat)
    case atStart => exact ⟨0, [], T1, Nat.zero_le _, by decide, rfl, rfl, HX0.out⟩
    case round =>
      obtain ⟨k, ts, T, hkn, hk20, rfl, rfl, hX⟩ := hrel
      have HX := hidM hX
      have hTz := hX.size
      have HGr := hidM (HG2.out.below hX.bel)
      have HTr := hidM (HT2.out.below hX.bel)
      clear hX HX0
      rcases (by omega : (k < n ∧ k < 20) ∨ (¬ k < n ∨ (k < n ∧ ¬ k < 20))) with ⟨hlt, h20⟩ | hex
      · have kk : (k : Int) < (n : Int) := by omega
        have k20 : (k : Int) < 20 := by omega
        obtain ⟨b, off, rfl, hc⟩ : ∃ b off, ta = some ⟨b, off, none⟩ ∧ ∀ i, i < n → wr.cell? ⟨b, off + i, none⟩ = some (.int .i64 (tf i)) := HTr.out.resolve_left (by omega)
        have ck := hc k hlt
        clear hc
        go_wp2_with fail
        refine (HMK.out _ _ HGr.out).mono ?_
        rintro _ w4 ⟨rfl, hb4⟩
        have HX4 := hidM (HX.out.skip hb4)
        have HFW := hidM HX.out.few
        have HGt := hidM (HGO.out (tf k))
        obtain ⟨r1, hr1⟩ : ∃ r1, (R (tf k)).1 = r1 := ⟨_, rfl⟩
        obtain ⟨r2, hr2⟩ : ∃ r2, (R (tf k)).2 = r2 := ⟨_, rfl⟩
        rw [hr1, hr2] at HGt
        rw [hr1, hr2]
        have HR1 := hidM hr1
        have HR2 := hidM hr2
        have HC : Hid (∀ W, Below w2.heap.size w2 W → W.cell? ⟨b, off + k, none⟩ = some (.int .i64 (tf k))) := fun W hW => by
          obtain ⟨b', off', hbb, hc'⟩ := (HT2.out.below hW).resolve_left (by omega)
          injection hbb with hbb
          injection hbb with e1 e2
          subst e1 e2
          exact hc' k hlt
        clear hb4 HX HGr HTr hr1 hr2 ck
        by_cases h0 : r2 = 0
        · subst h0
          obtain ⟨hv100, hvv, hvt⟩ := HGt.out rfl
          obtain ⟨Q1, hQ1⟩ : ∃ Q, (⟨#[9]⟩ : ByteArray) ++ path = Q := ⟨_, rfl⟩
          have q1 : Q1.size ≤ 201 := by rw [← hQ1, ByteArray.size_append]; show 1 + path.size ≤ 201; omega
          have n1 : ¬ 9223372036854775807 < 1 + path.size := by omega
          obtain ⟨Q2, hQ2⟩ : ∃ Q, Q1 ++ (⟨#[9]⟩ : ByteArray) = Q := ⟨_, rfl⟩
          have q2 : Q2.size ≤ 202 := by rw [← hQ2, ByteArray.size_append]; show Q1.size + 1 ≤ 202; omega
          have n2 : ¬ 9223372036854775807 < Q1.size + 1 := by omega
          obtain ⟨Q3, hQ3⟩ : ∃ Q, Q2 ++ r1 = Q := ⟨_, rfl⟩
          have q3 : Q3.size ≤ 302 := by rw [← hQ3, ByteArray.size_append]; omega
          have n3 : ¬ 9223372036854775807 < Q2.size + r1.size := by omega
          obtain ⟨Q4, hQ4⟩ : ∃ Q, Q3 ++ (⟨#[32, 47, 47, 32, 105, 110, 100, 105, 114, 101, 99, 116, 10]⟩ : ByteArray) = Q := ⟨_, rfl⟩
          have q4 : Q4.size ≤ 315 := by rw [← hQ4, ByteArray.size_append]; show Q3.size + 13 ≤ 315; omega
          have n4 : ¬ 9223372036854775807 < Q3.size + 13 := by omega
          obtain ⟨Q5, hQ5⟩ : ∃ Q, T ++ Q4 = Q := ⟨_, rfl⟩
          have hk315 : k * 315 ≤ 6300 := by omega
          have q5 : Q5.size = T.size + Q4.size := by rw [← hQ5, ByteArray.size_append]
          have n5 : ¬ 9223372036854775807 < T.size + Q4.size := by omega
          have HTX : Hid (Q5.data.toList = M.reqT path.data.toList (ts.map (fun t => (R t).1.data.toList) ++ [r1.data.toList])) := by
            unfold Hid
            rw [req_grow, ← HX4.out.text, ← hQ5, ← hQ4, ← hQ3, ← hQ2, ← hQ1]
            unfold M.reqC
            simp [ByteArray.data_append, M.rqInd]
          have HQ5 := hidM q5
          obtain ⟨vs, hvs⟩ : ∃ vs, vs = ts.map fun t => (R t).1 := ⟨_, rfl⟩
          have HL4 : Hid (OwnS w4 w2.heap.size u12 vs) := by have := HX4.out.list; rw [← hvs] at this; exact this
          have HI4 := hidM HX4.out.when
          have HB4 := hidM HX4.out.bel
          have hvl : vs.length ≤ 20 := by rw [hvs, List.length_map]; have := HX4.out.few; omega
          have htl : ts.length ≤ 20 := by have := HX4.out.few; omega
          have hsz4 := HX4.out.bel.size
          have HVS := hidM hvs
          clear hvs q5 hvv hvt
          unfold OwnS at HL4
          unfold OwnI at HI4
          go_wp2_with (at_builtin; refine wpList_append_own _ rfl _ _ 47 rfl w2.heap.size 9 i0 (.string .empty) 1 16 Tryz.underlying47 hi hz0 hz1 hz2 rfl (by decide) _ _ _ rfl (World.ownsRow.alloc HL4.out _) ⟨w4.heap.size, 0, none⟩ 1 1 [.string r1] ?d0 rfl ?d1 ?d2 ?d3 ?d4 ?d5 ?_)
          case d0 => rfl
          case d1 => exact cell_new_at _ _ _ _ rfl
          case d2 => intro u hu; simp at hu; subst hu; rfl
          case d3 => unfold maxLen; omega
          case d4 => omega
          case d5 => simp; omega
          intro L' w5 hown5 hgrow5 _
          have HB5 := hidM (own_below HL4.out HB4.out hsz4 hgrow5)
          have HI5 := hidM (own_keep (World.ownsRow.alloc HI4.out _) (grow_other (World.ownsRow.alloc HL4.out _) (by decide) hgrow5))
          have HL5 := hidM hown5
          have hsz5 := HB5.out.size
          have c5 := HC.out w5 HB5.out
          clear hown5 hgrow5 HI4 HL4 HB4
          go_wp2_with (at_builtin; refine wpList_append_own _ rfl _ _ 46 rfl w2.heap.size 3 j0 (.int .i64 0) 1 8 Tryz.underlying46 ji jz0 jz1 jz2 rfl (by decide) _ _ _ rfl (World.ownsRow.alloc HI5.out _) ⟨w5.heap.size, 0, none⟩ 1 1 [.int .i64 (tf k)] ?f0 rfl ?f1 ?f2 ?f3 ?f4 ?f5 ?_)
          case f0 => rfl
          case f1 => exact cell_new_at _ _ _ _ rfl
          case f2 => intro u hu; simp at hu; subst hu; rfl
          case f3 => unfold maxLen; omega
          case f4 => omega
          case f5 => simp; omega
          intro W' w6 hown6 hgrow6 _
          have HB6 := hidM (own_below HI5.out HB5.out hsz5 hgrow6)
          have HL6 := hidM (own_keep (World.ownsRow.alloc HL5.out _) (grow_other (World.ownsRow.alloc HI5.out _) (by decide) hgrow6))
          have HI6 := hidM hown6
          clear hown6 hgrow6 HI5 HL5 HB5 c5
          have HX6 : Hid (ReqX R path w2 (k + 1) (ts ++ [tf k]) Q5 L' W' w6) := by
            refine ⟨?_, ?_, ?_, ?_, ?_, OwnI.push HI6.out, HB6.out⟩
            · rw [List.length_append]; have := HFW.out; simp only [List.length_singleton]; omega
            · intro t ht
              rcases List.mem_append.1 ht with h | h
              · exact HX4.out.good t h
              · rw [List.mem_singleton] at h; subst h; exact HR2.out
            · rw [List.map_append]
              simp only [List.map_cons, List.map_nil]
              rw [HR1.out]
              exact HTX.out
            · rw [HQ5.out]
              have : (k + 1) * 315 = k * 315 + 315 := by omega
              omega
            · rw [List.map_append]
              simp only [List.map_cons, List.map_nil]
              rw [HR1.out, ← HVS.out]
              exact OwnS.push HL6.out
          clear HX4 HL6 HI6 HB6
          go_wp2
          go_roundw
          case rel => exact ⟨k + 1, ts ++ [tf k], Q5, by omega, by omega, rfl, by go_num, HX6.out⟩
          case measure => (show n - ((k : Int) + 1).toNat < n - ((k : Int)).toNat); omega
        · have hne : (r2 != 0) = true := by simpa using h0
          go_wp2
          go_roundw
          case rel => exact ⟨k + 1, ts, T, by omega, by omega, rfl, by go_num, HX4.out⟩
          case measure => (show n - ((k : Int) + 1).toNat < n - ((k : Int)).toNat); omega
      · obtain ⟨W0, rfl⟩ : ∃ W0, W0 = wr := ⟨wr, rfl⟩
        have hex2 : (¬ (k : Int) < (n : Int)) ∨ ((k : Int) < (n : Int) ∧ ¬ (k : Int) < 20) := by omega
        have hfw : ts.length ≤ 20 := by have := HX.out.few; omega
        have hVL : ∀ v ∈ (ts.map fun t => (R t).1.data.toList), M.VerL v := fun v hv => by
          obtain ⟨t, ht, rfl⟩ := List.mem_map.1 hv
          obtain ⟨-, ⟨r, e, hr⟩, -⟩ := HGO.out t (HX.out.good t ht)
          exact ver_verL e hr
        have HPQ := hidM (M.par_req HPL.out _ hVL)
        have HMQ := hidM (mod_req HPL.out _ hVL)
        obtain ⟨Z, hZ⟩ : ∃ Z, T ++ (⟨#[41, 10]⟩ : ByteArray) = Z := ⟨_, rfl⟩
        have hzz : Z.size ≤ 65536 := by rw [← hZ, ByteArray.size_append]; show T.size + 2 ≤ 65536; omega
        have HZL : Hid (Z.data.toList = M.reqT path.data.toList (ts.map fun t => (R t).1.data.toList) ++ [41, 10]) := by
          unfold Hid
          rw [← HX.out.text, ← hZ]
          simp [ByteArray.data_append]
        have HPA := hidM (fun V => M.parse_any Z V hzz)
        have HMO := hidM (fun V => M.module_any Z V hzz)
        unfold M.ParPost at HPA
        unfold M.ModQ at HMO
        rw [HZL.out] at HPA HMO
        rw [HPQ.out] at HPA
        rw [HMQ.out] at HMO
        simp only at HPA HMO
        have ep : (⟨path.data.toList.toArray⟩ : ByteArray) = path := by cases path; rfl
        rw [ep] at HMO
        have nz : ¬ 9223372036854775807 < T.size + 2 := by omega
        obtain ⟨m, hm⟩ : ∃ m, ts.length = m := ⟨_, rfl⟩
        have HLS : Hid (((M.rqMod, [path.data.toList], 1) :: M.reqLs path.data.toList (ts.map fun t => (R t).1.data.toList) 3).length = m + 1) := by
          unfold Hid
          rw [List.length_cons, reqLs_len2, List.length_map, hm]
        obtain ⟨la, lc, rfl, hls⟩ := OwnS.shape HX.out.list
        obtain ⟨wa, wc, rfl, hws⟩ := OwnI.shape HX.out.when
        have hlm : (ts.map fun t => (R t).1).length = m := by rw [List.length_map, hm]
        have HLG : Hid (∀ j (h : j < ts.length), ((M.rqMod, [path.data.toList], 1) :: M.reqLs path.data.toList (ts.map fun t => (R t).1.data.toList) 3).getD (j + 1) M.noL = (M.rqReq, [path.data.toList, (R ts[j]).1.data.toList], 3 + j)) := fun j h => by
          rw [List.getD_cons_succ, M.reqLs_get _ _ _ _ _ (by rw [List.length_map]; exact h)]
          simp
        have HLL : Hid (∀ j (h : j < ts.length), ∃ g, la = some ⟨g, 0, none⟩ ∧ g < W0.heap.size ∧ ∀ q (hq : q < ts.length), W0.cell? ⟨g, q, none⟩ = some (.string (R ts[q]).1)) := fun j h => by
          obtain ⟨g, h1, _, h2, h3⟩ := hls (by intro e; rw [List.map_eq_nil_iff] at e; rw [e] at h; simp at h)
          refine ⟨g, h1, h2, fun q hq => ?_⟩
          have := h3 q (by rw [List.length_map]; exact hq)
          rw [List.getElem_map] at this
          exact this
        have HWW : Hid (∀ j (h : j < ts.length), ∃ g, wa = some ⟨g, 0, none⟩ ∧ g < W0.heap.size ∧ ∀ q (hq : q < ts.length), W0.cell? ⟨g, q, none⟩ = some (.int .i64 ts[q])) := fun j h => by
          obtain ⟨g, h1, _, h2, h3⟩ := hws (by intro e; rw [e] at h; simp at h)
          exact ⟨g, h1, h2, h3⟩
        have HGD : Hid (∀ q (hq : q < ts.length), (R ts[q]).2 = 0) := fun q hq => HX.out.good _ (List.getElem_mem hq)
        have HM := hidM hm
        have HBX := hidM HX.out.bel
        have hmc : m ≤ lc := by have := OwnS.cap HX.out.list; rw [hlm] at this; exact this
        have htm : ts.length ≤ 20 := hfw
        rw [hlm, hm]
        rw [hm] at hfw
        clear hls hws hm hlm hex HPQ HMQ HZL hVL ep HX htm
        generalize (M.rqMod, [path.data.toList], 1) :: M.reqLs path.data.toList (ts.map fun t => (R t).1.data.toList) 3 = LS at *
        obtain ⟨nl, hnl⟩ : ∃ nl, nl = LS.length := ⟨_, rfl⟩
        have hnl1 : (nl : Int) = (m : Int) + 1 := by rw [hnl, HLS.out]; rfl
        have HNL := hidM hnl
        have HNL1 := hidM hnl1
        have enl : ((nl : Int) != (m : Int) + 1) = false := by rw [hnl1]; simp
        clear hnl1 hnl
        rcases hex2 with e1 | ⟨e1, e2⟩
        all_goals (
          go_wp2_with fail
          refine (HPA.out _).mono ?_
          rintro _ w8 ⟨lv, rfl, hl8, hb8⟩
          obtain ⟨pa, pc, rfl, hv8⟩ := hl8.view
          rw [← HNL.out]
          have HV8 := hidM hv8
          have HB8 := hidM hb8
          clear hl8 hv8 hb8 HPA
          go_wp2_with fail
          refine (HMO.out _).mono ?_
          rintro _ w9 ⟨rfl, hb9⟩
          have HV9 := hidM (M.LinesV.below HV8.out hb9)
          have HB9 := hidM (HB8.out.trans (hb9.mono HB8.out.size))
          clear hb9 HMO HV8 HB8
          have hg9 := HB9.out.size
          go_wp2
          go_loopw [139] (fun I wq => ∃ (j : Nat), j ≤ m ∧ I = .int .i64 j ∧ Below w9.heap.size w9 wq) (fun I _ => m - (intOf I).toNat)
          case atStart => exact ⟨0, Nat.zero_le _, rfl, Below.refl _ _⟩
          case round =>
            obtain ⟨j, hjm, rfl, hbq⟩ := hrel
            by_cases hlt : j < m
            · have jj : (j : Int) < (m : Int) := by omega
              have jn : (j : Int) + 1 < (nl : Int) := by rw [HNL1.out]; omega
              have hjt : j < ts.length := by rw [HM.out]; exact hlt
              obtain ⟨lg, rfl, hlg, hlc⟩ := HLL.out j hjt
              obtain ⟨wg, rfl, hwg, hwc⟩ := HWW.out j hjt
              have HBQ := hidM (HB9.out.trans (hbq.mono HB9.out.size))
              have cj := (HBQ.out.cell (p := ⟨lg, j, none⟩) hlg).trans (hlc j hjt)
              obtain ⟨g, off, rfl, hg, hat⟩ := (M.LinesV.below HV9.out hbq).at (k := j + 1) (by rw [HLS.out]; omega)
              obtain ⟨na, nc, c0, c1, c2, hw⟩ := hat (j + 1) (by rw [HLS.out]; omega)
              rw [HLG.out j hjt] at c0 c1 c2 hw
              simp only [List.length_cons, List.length_nil, Nat.zero_add, Nat.reduceAdd] at c0 c1 c2 hw
              unfold M.strV at c0
              have hrq : (⟨M.rqReq.toArray⟩ : ByteArray) = ⟨#[114, 101, 113, 117, 105, 114, 101]⟩ := rfl
              rw [hrq] at c0
              obtain ⟨g4, c4, h4, h5, -⟩ := hw.cellAt (by simp)
              have h60 := h5 0 (by simp)
              have h61 := h5 1 (by simp)
              injection h4 with q1 q2 q3
              subst q1 q3
              clear q2
              simp only [List.getElem_cons_zero, List.getElem_cons_succ] at h60 h61
              unfold M.strV at h60 h61
              have ba : ∀ x : ByteArray, (⟨x.data.toList.toArray⟩ : ByteArray) = x := fun x => by cases x; rfl
              rw [ba] at h60 h61
              have HG7 := hidM (HG2.out.below (HBX.out.trans (HBQ.out.mono HBX.out.size)))
              obtain ⟨hv100, -, b, ii, htold⟩ := HGO.out ts[j] (HGD.out j hjt)
              have HPP := hidM (fun V hV => pparse_any (R ts[j]).1 V hV (by omega))
              rw [htold] at HPP
              unfold toldR at HPP
              simp only at HPP
              have HBq := hidM hbq
              obtain ⟨t, ht⟩ : ∃ t, t = ts[j] := ⟨_, rfl⟩
              rw [← ht] at cj h61 HPP hv100
              have HTJ := hidM ht
              obtain ⟨r1, hr1⟩ : ∃ r1, r1 = (R t).1 := ⟨_, rfl⟩
              rw [← hr1] at cj h61 HPP hv100
              have HR1 := hidM hr1
              have HH4 := hidM (lt_of_cellR h60)
              clear hat hw htold hbq hg ba hrq h5 ht hr1 hlc hwc
              go_upto_region 25 with fail
              have HB3 : Hid (Below wr.heap.size wr (wr.alloc (.cells #[.string ⟨#[114, 101, 113, 117, 105, 114, 101]⟩, .slice (some ⟨g4, 0, none⟩) 2 nc, .int .i64 (3 + (j : Int))] 54))) := (Below.refl _ wr).alloc (Nat.le_refl _) _
              obtain ⟨y0, y1, y2⟩ : (wr.alloc (.cells #[.string ⟨#[114, 101, 113, 117, 105, 114, 101]⟩, .slice (some ⟨g4, 0, none⟩) 2 nc, .int .i64 (3 + (j : Int))] 54)).cell? ⟨wr.heap.size, 0, none⟩ = some (.string ⟨#[114, 101, 113, 117, 105, 114, 101]⟩) ∧ (wr.alloc (.cells #[.string ⟨#[114, 101, 113, 117, 105, 114, 101]⟩, .slice (some ⟨g4, 0, none⟩) 2 nc, .int .i64 (3 + (j : Int))] 54)).cell? ⟨wr.heap.size, 1, none⟩ = some (.slice (some ⟨g4, 0, none⟩) 2 nc) ∧ (wr.alloc (.cells #[.string ⟨#[114, 101, 113, 117, 105, 114, 101]⟩, .slice (some ⟨g4, 0, none⟩) 2 nc, .int .i64 (3 + (j : Int))] 54)).cell? ⟨wr.heap.size, 2, none⟩ = some (.int .i64 (3 + (j : Int))) :=
                ⟨World.cell?_alloc_mark wr _ 54 (0, 0) 0, World.cell?_alloc_mark wr _ 54 (0, 0) 1, World.cell?_alloc_mark wr _ 54 (0, 0) 2⟩
              have HBW := hidM (HBQ.out.trans (HB3.out.mono HBQ.out.size))
              have HBV := hidM (HBq.out.trans (HB3.out.mono HBq.out.size))
              have HG3 := hidM (HG7.out.below HB3.out)
              have z60 := (HB3.out.cell (p := ⟨g4, 0, none⟩) HH4.out).trans h60
              have z61 := (HB3.out.cell (p := ⟨g4, 1, none⟩) HH4.out).trans h61
              have HH3 : Hid (wr.heap.size < (wr.alloc (.cells #[.string ⟨#[114, 101, 113, 117, 105, 114, 101]⟩, .slice (some ⟨g4, 0, none⟩) 2 nc, .int .i64 (3 + (j : Int))] 54)).heap.size) := by unfold Hid; rw [World.size_alloc]; omega
              have HH5 : Hid (g4 < (wr.alloc (.cells #[.string ⟨#[114, 101, 113, 117, 105, 114, 101]⟩, .slice (some ⟨g4, 0, none⟩) 2 nc, .int .i64 (3 + (j : Int))] 54)).heap.size) := Nat.lt_of_lt_of_le HH4.out HB3.out.size
              clear h60 h61 HB3 HH4 HG7 c0 c1 c2 cj HBQ HBq
              generalize wr.alloc (.cells #[.string ⟨#[114, 101, 113, 117, 105, 114, 101]⟩, .slice (some ⟨g4, 0, none⟩) 2 nc, .int .i64 (3 + (j : Int))] 54) = W3 at *
              generalize wr.heap.size = g3 at *
              go_wp2_with fail
              refine (HPP.out _ HG3.out).mono ?_
              rintro _ w5 ⟨rfl, hb5⟩
              have v0 := (hb5.cell (p := ⟨g3, 0, none⟩) HH3.out).trans y0
              have v1 := (hb5.cell (p := ⟨g3, 1, none⟩) HH3.out).trans y1
              have v2 := (hb5.cell (p := ⟨g3, 2, none⟩) HH3.out).trans y2
              have v60 := (hb5.cell (p := ⟨g4, 0, none⟩) HH5.out).trans z60
              have v61 := (hb5.cell (p := ⟨g4, 1, none⟩) HH5.out).trans z61
              have HBW5 := hidM (HBW.out.trans (hb5.mono HBW.out.size))
              have HBV5 := hidM (HBV.out.trans (hb5.mono HBV.out.size))
              have HG5 := hidM (HG3.out.below hb5)
              have HH6 := hidM (Nat.lt_of_lt_of_le HH3.out hb5.size)
              have HH7 := hidM (Nat.lt_of_lt_of_le HH5.out hb5.size)
              clear hb5 y0 y1 y2 z60 z61 HBW HBV HG3 HH3 HH5 HPP
              go_upto_region 26 with fail
              have HB3 : Hid (Below w5.heap.size w5 (w5.alloc (.cells #[.string b, .int .i64 t, .string ii] 29))) := (Below.refl _ w5).alloc (Nat.le_refl _) _
              have x1 : (w5.alloc (.cells #[.string b, .int .i64 t, .string ii] 29)).cell? ⟨w5.heap.size, 1, none⟩ = some (.int .i64 t) := World.cell?_alloc_mark w5 _ 29 (0, 0) 1
              have z0 := (HB3.out.cell (p := ⟨g3, 0, none⟩) HH6.out).trans v0
              have z1 := (HB3.out.cell (p := ⟨g3, 1, none⟩) HH6.out).trans v1
              have z2 := (HB3.out.cell (p := ⟨g3, 2, none⟩) HH6.out).trans v2
              have z60 := (HB3.out.cell (p := ⟨g4, 0, none⟩) HH7.out).trans v60
              have z61 := (HB3.out.cell (p := ⟨g4, 1, none⟩) HH7.out).trans v61
              have HBW6 := hidM (HBW5.out.trans (HB3.out.mono HBW5.out.size))
              have HBV6 := hidM (HBV5.out.trans (HB3.out.mono HBV5.out.size))
              have HG6 := hidM (HG5.out.below HB3.out)
              have HWC : Hid (∀ V, Below W0.heap.size W0 V → ∀ q (hq : q < ts.length), V.cell? ⟨wg, q, none⟩ = some (.int .i64 ts[q])) := fun V hV q hq => by
                obtain ⟨g', h1, h2, h3⟩ := HWW.out q hq
                injection h1 with h1
                injection h1 with h1
                subst h1
                exact (hV.cell (p := ⟨wg, q, none⟩) h2).trans (h3 q hq)
              have HLC : Hid (∀ V, Below W0.heap.size W0 V → ∀ q (hq : q < ts.length), V.cell? ⟨lg, q, none⟩ = some (.string (R ts[q]).1)) := fun V hV q hq => by
                obtain ⟨g', h1, h2, h3⟩ := HLL.out q hq
                injection h1 with h1
                injection h1 with h1
                subst h1
                exact (hV.cell (p := ⟨lg, q, none⟩) h2).trans (h3 q hq)
              have cw := HWC.out _ HBW6.out j hjt
              rw [← HTJ.out] at cw
              have e3j : ((3 + (j : Int)) != (j : Int) + 3) = false := by rw [show (3 + (j : Int)) = (j : Int) + 3 by omega]; simp
              clear v0 v1 v2 v60 v61 HBW5 HBV5 HG5 HH6 HH7 HB3 HWW HLL
              generalize w5.alloc (.cells #[.string b, .int .i64 t, .string ii] 29) = W6 at *
              generalize w5.heap.size = g6 at *
              go_wp2_with fail
              go_quiet (fail)
              go_wp2_with fail
              refine (HST.out t _ (HG6.out.below (below_drewN (Below.refl _ _) _))).mono ?_
              rintro _ w7 ⟨rfl, hb7⟩
              have HBW7 := hidM (HBW6.out.trans ((below_drewN (Below.refl W6.heap.size W6) _).trans (hb7.mono (Nat.le_refl _)) |>.mono HBW6.out.size))
              have HBV7 := hidM (HBV6.out.trans ((below_drewN (Below.refl W6.heap.size W6) _).trans (hb7.mono (Nat.le_refl _)) |>.mono HBV6.out.size))
              have HG7 := hidM ((HG6.out.below (below_drewN (Below.refl _ _) _)).below hb7)
              clear hb7 z0 z1 z2 z60 z61 x1 cw HBW6 HBV6 HG6
              obtain ⟨st, hst⟩ : ∃ st, st = (S t).1 := ⟨_, rfl⟩
              rw [← hst]
              have HSS := hidM hst
              clear hst
              have jlc : (j : Int) ≤ (lc : Int) := by omega
              have jlm : (j : Int) ≤ (m : Int) := by omega
              have hsz7 := HBV7.out.size
              go_wp2
              go_loopw [211] (fun I wx => ∃ (q : Nat), q ≤ j ∧ I = .int .i64 q ∧ Below w7.heap.size w7 wx) (fun I _ => j - (intOf I).toNat)
              case atStart => exact ⟨0, Nat.zero_le _, rfl, Below.refl _ _⟩
              case round =>
                obtain ⟨q, hqj, rfl, hbx⟩ := hrel
                by_cases hql : q < j
                · have qq : (q : Int) < (j : Int) := by omega
                  have hqt : q < ts.length := by omega
                  have HBX7 := hidM (HBW7.out.trans (hbx.mono HBW7.out.size))
                  have cl := HLC.out _ HBX7.out q hqt
                  have cw := HWC.out _ HBX7.out q hqt
                  have HGx := hidM (HG7.out.below hbx)
                  have HBR := hidM hbx
                  have hv2 := (HGO.out ts[q] (HGD.out q hqt)).1
                  have HLX := hidM (HLE.out ts[q] ts[j] (HGD.out q hqt) (HGD.out j hjt))
                  rw [← HTJ.out, ← HR1.out, ← HSS.out] at HLX
                  obtain ⟨t2, ht2⟩ : ∃ t2, t2 = ts[q] := ⟨_, rfl⟩
                  rw [← ht2] at cl cw HLX hv2
                  obtain ⟨r2, hr2⟩ : ∃ r2, r2 = (R t2).1 := ⟨_, rfl⟩
                  rw [← hr2] at cl HLX hv2
                  obtain ⟨st2, hst2⟩ : ∃ st2, st2 = (S t2).1 := ⟨_, rfl⟩
                  rw [← hst2] at HLX
                  have HS2 := hidM hst2
                  have HCM := hidM (fun V => compare_any r2 r1 V (by omega) (by omega))
                  clear hbx ht2 hr2 hst2
                  go_wp2_with fail
                  refine (HST.out t2 _ HGx.out).mono ?_
                  rintro _ w11 ⟨rfl, hb11⟩
                  have HB11 := hidM (HBR.out.trans (hb11.mono HBR.out.size))
                  rw [← HS2.out]
                  clear hb11 cl cw HBX7
                  cases hl : Op.bytesLess st2.toList st.toList with
                  | true =>
                    rw [HLX.out hl] at HCM
                    go_wp2_with fail
                    refine (HCM.out _).mono ?_
                    rintro _ w12 ⟨rfl, hb12⟩
                    have HB12 := hidM (HB11.out.trans (hb12.mono HB11.out.size))
                    clear hb12
                    go_wp2
                    go_roundw
                    case rel => exact ⟨q + 1, by omega, by go_num, HB12.out⟩
                    case measure => (show j - ((q : Int) + 1).toNat < j - ((q : Int)).toNat); omega
                  | false =>
                    go_wp2
                    go_roundw
                    case rel => exact ⟨q + 1, by omega, by go_num, HB11.out⟩
                    case measure => (show j - ((q : Int) + 1).toNat < j - ((q : Int)).toNat); omega
                · have HBE := hidM (HBV7.out.trans (hbx.mono HBV7.out.size))
                  have eqq : ¬ (q : Int) < (j : Int) := by omega
                  clear hbx
                  go_wp2
                  go_roundw
                  case rel => exact ⟨j + 1, by omega, by go_num, HBE.out⟩
                  case measure => (show m - ((j : Int) + 1).toNat < m - ((j : Int)).toNat); omega
            · have HBE := hidM (HB2.out.trans ((HBX.out.trans ((HB9.out.trans (hbq.mono HB9.out.size)).mono HBX.out.size)).mono HB2.out.size))
              have ejj : ¬ (j : Int) < (m : Int) := by omega
              clear hbq
              go_wp2
              go_ret
              exact ⟨rfl, HBE.out⟩)
end Go.Proofs.YtmhjdahmmdfbcaaGreatDoor
namespace Go.Proofs.YtmhjdahmmdfbcaaGreatDoor
open Go.ChangeShapes Go.WideShapes Go.ChangeAt Go.WideMaps Go.WideElems Go.RowKit

theorem cells3i : Tryz.prog.cellsOf 3 = 1 := by kernel_rfl
theorem open_intsI {H : Type} {enc : TypeId × Value → H} {W : World} {v : Value} {d : DataW H} {p : List MemPlace} (hv1 : v.cells.toList = [v])
    (h : DataW.Trod enc Tryz.prog W 0 (fun _ => true) true 46 v d p) :
    ∃ a n c f, v = .slice a n c ∧ n ≤ 9223372036854775807 ∧ IntsR W a n f := by
  obtain ⟨fuel, hf⟩ := h
  rw [hv1] at hf
  rcases Go.ChangeShapes.open_ints Tryz.underlying46 Tryz.underlying3 cells3i hf with ⟨hcs, _⟩ | ⟨ad, l, c, zs, hcs, _, hl, hm, hz, _, hcell, hwf⟩
  · have hv : v = .slice none 0 0 := by simpa using hcs
    exact ⟨none, 0, 0, fun _ => 0, hv, by decide, .inl rfl⟩
  · have hv : v = .slice (some ad) l c := by simpa using hcs
    refine ⟨some ad, l, c, fun i => zs.getD i 0, hv, by unfold maxLen at hm; omega, ?_⟩
    by_cases hl0 : l = 0
    · exact .inl hl0
    · right
      obtain ⟨b, off, spot⟩ := ad
      have hc := hcell 0 (by simp at hz; omega)
      have hspot : spot = none := by simpa [Addr.add] using World.cell?_spot hc
      subst hspot
      refine ⟨b, off, rfl, fun i hi => ?_⟩
      have := hcell i (by simp at hz; omega)
      rw [Addr.add_lit] at this
      exact this
end Go.Proofs.YtmhjdahmmdfbcaaGreatDoor
