/-
  Lines of module files with blanks ahead, a remark behind, and empty lines: nothing but where lines stand is changed.
-/
import Derived.Test.YtgkjmmfpbcgmgaaDoorMfO
import Derived.Test.YtgkjmmfpbcgmgaaDoorMfN
namespace Go.Proofs.YtgkjmmfpbcgmgaaDoor

def rmk : List UInt8 := [32, 47, 47, 32, 114, 101, 109, 97, 114, 107]
theorem remB_rmk (c : UInt8) (r : List UInt8) : remB (c :: r ++ rmk) = remB (c :: r) := by
  cases r with
  | nil => simp [remB, rmk]
  | cons d r => simp [remB]
theorem skip_true : ∀ l : List UInt8, 10 ∉ l → skipL true l = []
  | [], _ => rfl
  | c :: r, h => by
    rw [skipL, if_neg (fun e => h (by simp [e]))]
    exact skip_true r (fun e => h (by simp [e]))
theorem rmk_no : (10 : UInt8) ∉ rmk := by decide
theorem no_app {l : List UInt8} (h : 10 ∉ l) : 10 ∉ l ++ rmk := fun e => by
  rcases List.mem_append.1 e with e | e
  · exact h e
  · exact rmk_no e
theorem skip_rmk : ∀ (l : List UInt8), 10 ∉ l → skipL false (l ++ rmk) = if skipL false l = [] then [] else skipL false l ++ rmk
  | [], _ => by decide
  | c :: r, h => by
    have hr := remB_rmk c r
    have h2 : 10 ∉ r := fun e => h (by simp [e])
    rw [List.cons_append] at hr ⊢
    rw [skipL, skipL, hr]
    by_cases h1 : remB (c :: r) = true
    · rw [if_pos h1, if_pos h1, skip_true _ (no_app h2), skip_true _ h2]; rfl
    · rw [if_neg h1, if_neg h1]
      by_cases h3 : blkB c = true
      · rw [if_pos h3, if_pos h3]; exact skip_rmk r h2
      · rw [if_neg h3, if_neg h3]; simp
theorem quo_rmk : ∀ (n : Nat) (l : List UInt8), l.length ≤ n → 10 ∉ l → quoL (l ++ rmk) = (quoL l).map fun x => (x.1, x.2 ++ rmk)
  | 0, [], _, _ => by decide
  | n + 1, [], _, _ => by decide
  | n + 1, c :: r, hl, h => by
    have hc : c ≠ 10 := fun e => h (by simp [e])
    have h2 : 10 ∉ r := fun e => h (by simp [e])
    rw [List.cons_append, quoL.eq_def, quoL.eq_def (c :: r)]
    simp only
    by_cases h1 : c = 34
    · subst h1; simp
    · rw [if_neg h1, if_neg h1, if_neg hc, if_neg hc]
      by_cases h3 : c = 92
      · rw [if_pos h3, if_pos h3]
        cases r with
        | nil => simp [mntL, rmk]
        | cons d r' =>
          simp only [List.cons_append]
          cases hm : mntL d with
          | none => simp
          | some e =>
            simp only [quo_rmk n r' (by simp at hl; omega) (fun e => h2 (by simp [e]))]
            cases quoL r' <;> simp
      · rw [if_neg h3, if_neg h3, quo_rmk n r (by simp at hl; omega) h2]
        cases quoL r <;> simp
theorem raw_rmk : ∀ (l : List UInt8), 10 ∉ l → rawL (l ++ rmk) = rawL l
  | [], _ => by decide
  | c :: r, h => by
    have hc : c ≠ 10 := fun e => h (by simp [e])
    rw [List.cons_append, rawL, rawL, if_neg hc, if_neg hc, raw_rmk r (fun e => h (by simp [e]))]
theorem word_rmk : ∀ (l : List UInt8), 10 ∉ l → wordN (l ++ rmk) = wordN l
  | [], _ => by decide
  | c :: r, h => by
    have hr := remB_rmk c r
    rw [List.cons_append] at hr ⊢
    rw [wordN, wordN, wEnd, wEnd, hr, word_rmk r (fun e => h (by simp [e]))]
/-- A token of a line with a remark behind it. -/
theorem tok_rmk (l : List UInt8) (h : 10 ∉ l) : ((tokL l).1 = 1 → tokL (l ++ rmk) = (1, [], [])) ∧ ((tokL l).1 = 6 → (tokL (l ++ rmk)).1 = 6) ∧
    ((tokL l).1 ≠ 1 → (tokL l).1 ≠ 6 → tokL (l ++ rmk) = ((tokL l).1, (tokL l).2.1, (tokL l).2.2 ++ rmk)) := by
  have hs := skip_rmk l h
  obtain ⟨n, hn, hd⟩ := skip_suf false l
  have h0 : 10 ∉ skipL false l := by rw [hd]; exact fun e => h (List.mem_of_mem_drop e)
  unfold tokL
  rw [hs]
  clear hs hd hn
  generalize skipL false l = k at *
  cases k with
  | nil => simp [tokS]
  | cons c r =>
    have hc : c ≠ 10 := fun e => h0 (by simp [e])
    have hr : 10 ∉ r := fun e => h0 (by simp [e])
    rw [if_neg (by simp), List.cons_append, tokS, tokS, if_neg hc, if_neg hc]
    by_cases h2 : c = 40
    · simp [h2]
    · rw [if_neg h2, if_neg h2]
      by_cases h3 : c = 41
      · simp [h3]
      · rw [if_neg h3, if_neg h3]
        by_cases h4 : c = 34
        · rw [if_pos h4, if_pos h4, quo_rmk _ r (Nat.le_refl _) hr]
          cases hq : quoL r with
          | none => simp
          | some x => simp
        · rw [if_neg h4, if_neg h4]
          by_cases h5 : c = 96
          · rw [if_pos h5, if_pos h5, raw_rmk r hr]
            cases hq : rawL r with
            | none => simp
            | some m =>
              have hm := raw_le r m hq
              simp only [List.take_append_of_le_length (Nat.le_of_lt hm), List.drop_append_of_le_length (show m + 1 ≤ r.length by omega)]
              simp
          · rw [if_neg h5, if_neg h5, word_rmk r hr]
            have hm := word_le r
            simp only [List.take_append_of_le_length hm, List.drop_append_of_le_length hm]
            simp
theorem tok_end (l : List UInt8) (h : (tokL l).1 = 1) : (tokL l).2.2 = [] := by
  unfold tokL at *
  generalize skipL false l = k at *
  cases k with
  | nil => rfl
  | cons c r =>
    rw [tokS] at h
    repeat' split at h
    all_goals simp at h
/-- A line with a line's end behind it. -/
theorem row_line : ∀ (f g : Nat) (l t : List UInt8) ws b, 10 ∉ l → l.length < f → (l ++ 10 :: t).length < g →
    rowG g (l ++ 10 :: t) ws b = (rowG f l ws b).map fun r => (r.1, r.2.1, false, t)
  | 0, _, l, _, _, _, _, h, _ => absurd h (by omega)
  | _, 0, l, _, _, _, _, _, h => absurd h (by omega)
  | f + 1, g + 1, l, t, ws, b, h, hf, hg => by
    obtain ⟨t1, t6, tn, t2, t10⟩ := tok_line l t h
    rw [rowG, rowG]
    by_cases h1 : (tokL l).1 = 1
    · rw [if_pos h1, t1 h1]; simp
    · rw [if_neg h1]
      by_cases h6 : (tokL l).1 = 6
      · have h6' := t6 h6
        rw [if_neg (by omega), if_neg (by omega), if_pos (.inl h6'), if_neg t2, if_pos (.inl h6)]
        rfl
      · rw [tn h1 h6]
        simp only
        rw [if_neg h1, if_neg t2, if_neg t2]
        have hl := tok_less h1 h6
        by_cases hb : (tokL l).1 = 6 ∨ b ≠ 0
        · rw [if_pos hb, if_pos hb]; rfl
        · rw [if_neg hb, if_neg hb]
          have hg2 : ((tokL l).2.2 ++ 10 :: t).length < g := by simp at hg ⊢; omega
          split
          · exact row_line f g _ t _ _ t10 (by omega) hg2
          · exact row_line f g _ t _ _ t10 (by omega) hg2
/-- A line with a remark behind it. -/
theorem row_rmk : ∀ (f g : Nat) (l : List UInt8) ws b, 10 ∉ l → l.length < f → (l ++ rmk).length < g →
    rowG g (l ++ rmk) ws b = (rowG f l ws b).map fun r => (r.1, r.2.1, true, [])
  | 0, _, l, _, _, _, h, _ => absurd h (by omega)
  | _, 0, l, _, _, _, _, h => absurd h (by omega)
  | f + 1, g + 1, l, ws, b, h, hf, hg => by
    obtain ⟨t1, t6, tn⟩ := tok_rmk l h
    obtain ⟨_, _, _, t2, t10⟩ := tok_line l [] h
    rw [rowG, rowG]
    by_cases h1 : (tokL l).1 = 1
    · rw [if_pos h1, t1 h1]; simp
    · rw [if_neg h1]
      by_cases h6 : (tokL l).1 = 6
      · have h6' := t6 h6
        rw [if_neg (by omega), if_neg (by omega), if_pos (.inl h6'), if_neg t2, if_pos (.inl h6)]
        rfl
      · rw [tn h1 h6]
        simp only
        rw [if_neg h1, if_neg t2, if_neg t2]
        have hl := tok_less h1 h6
        by_cases hb : (tokL l).1 = 6 ∨ b ≠ 0
        · rw [if_pos hb, if_pos hb]; rfl
        · rw [if_neg hb, if_neg hb]
          have hg2 : ((tokL l).2.2 ++ rmk).length < g := by simp at hg ⊢; omega
          split
          · exact row_rmk f g _ _ _ t10 (by omega) hg2
          · exact row_rmk f g _ _ _ t10 (by omega) hg2
/-- What is read of a line alone ends the text. -/
theorem row_alone : ∀ (f : Nat) (l : List UInt8) ws b r, 10 ∉ l → l.length < f → rowG f l ws b = some r → r.2.2.1 = true ∧ r.2.2.2 = []
  | 0, l, _, _, _, _, h, _ => absurd h (by omega)
  | f + 1, l, ws, b, r, h, hf, hr => by
    obtain ⟨_, _, _, t2, t10⟩ := tok_line l [] h
    rw [rowG] at hr
    by_cases h1 : (tokL l).1 = 1
    · rw [if_pos h1, tok_end l h1] at hr
      simp at hr; subst hr; exact ⟨rfl, rfl⟩
    · rw [if_neg h1, if_neg t2] at hr
      by_cases hb : (tokL l).1 = 6 ∨ b ≠ 0
      · rw [if_pos hb] at hr; cases hr
      · rw [if_neg hb] at hr
        have hl := tok_less h1 (by omega)
        split at hr
        · exact row_alone f _ _ _ r t10 (by omega) hr
        · exact row_alone f _ _ _ r t10 (by omega) hr
theorem row_blank {c : UInt8} (hc : blkB c = true) (m : List UInt8) : rowL (c :: m) = rowL m := by
  have h47 : c ≠ 47 := fun e => by rw [e] at hc; exact absurd hc (by decide)
  have ht : tokL (c :: m) = tokL m := by
    unfold tokL
    rw [skipL, if_neg (by simp [remB, h47]), if_pos hc]
  unfold rowL
  rw [row_fuel (m.length + 1) ((c :: m).length + 1) m [] 0 (by omega) (by simp; omega)]
  rw [rowG, rowG, ht]
theorem row_empty (t : List UInt8) : rowL (10 :: t) = some ([], 0, false, t) := by
  have h : remB (10 :: t) = false := by cases t <;> simp [remB]
  have ht : tokL (10 :: t) = (2, [], t) := by
    unfold tokL
    rw [skipL, if_neg (by rw [h]; simp), if_neg (by decide), tokS]
    simp
  unfold rowL
  rw [rowG, ht]
  simp
theorem row_nil : rowL [] = some ([], 0, true, []) := by decide
/-- what a line alone says: its line, and the block that it leaves open -/
def oneR (l : List UInt8) : Option (List UInt8 × List Ln) := (rowL l).bind fun r => takeD [] r.1 r.2.1 1
theorem par_one (l : List UInt8) (h : 10 ∉ l) : parL l = match oneR l with
    | none => ([], 1, 3)
    | some (blk, x) => if blk = [] then (x, 0, 0) else ([], 1, 3) := by
  unfold parL oneR
  rw [parG]
  cases hr : rowL l with
  | none => rfl
  | some r =>
    obtain ⟨ws, b, last, t⟩ := r
    obtain ⟨h1, h2⟩ := row_alone _ _ _ _ _ h (Nat.lt_succ_self _) hr
    simp only at h1 h2
    subst h1
    simp only [Option.bind_some]
    cases takeD [] ws b 1 with
    | none => rfl
    | some y => simp
theorem take_none (blk : List UInt8) (k : Nat) : takeD blk [] 0 k = some (blk, []) := by simp [takeD]
theorem par_front (l : List UInt8) (h : 10 ∉ l) : parL (32 :: 9 :: (l ++ [10, 10])) = match oneR l with
    | none => ([], 1, 3)
    | some (blk, x) => if blk = [] then (x, 0, 0) else ([], 3, 3) := by
  have hrow : rowL (32 :: 9 :: (l ++ [10, 10])) = (rowL l).map fun r => (r.1, r.2.1, false, [10]) := by
    rw [row_blank (by decide), row_blank (by decide)]
    exact row_line _ _ l [10] [] 0 h (Nat.lt_succ_self _) (Nat.lt_succ_self _)
  unfold parL oneR
  obtain ⟨f, hf⟩ : ∃ f, (32 :: 9 :: (l ++ [10, 10])).length + 1 = f + 3 := ⟨l.length + 2, by simp⟩
  rw [hf, parG, hrow]
  cases rowL l with
  | none => rfl
  | some r =>
    simp only [Option.map_some, Option.bind_some]
    cases takeD [] r.1 r.2.1 1 with
    | none => rfl
    | some y =>
      simp only [Bool.false_eq_true, if_false, List.nil_append]
      rw [parG, row_empty]
      simp only [take_none, Bool.false_eq_true, if_false, List.append_nil]
      rw [parG, row_nil]
      simp [take_none]
theorem par_back (l : List UInt8) (h : 10 ∉ l) : parL (10 :: 13 :: 10 :: (l ++ rmk)) = match oneR l with
    | none => ([], 3, 3)
    | some (blk, x) => if blk = [] then (x.map (shL 2), 0, 0) else ([], 3, 3) := by
  have hrow : rowL (l ++ rmk) = (rowL l).map fun r => (r.1, r.2.1, true, []) := row_rmk _ _ l [] 0 h (Nat.lt_succ_self _) (Nat.lt_succ_self _)
  unfold parL oneR
  obtain ⟨f, hf⟩ : ∃ f, (10 :: 13 :: 10 :: (l ++ rmk)).length + 1 = f + 3 := ⟨(l ++ rmk).length + 1, by simp⟩
  rw [hf, parG, row_empty]
  simp only [take_none, Bool.false_eq_true, if_false, List.append_nil]
  rw [parG, row_blank (by decide), row_empty]
  simp only [take_none, Bool.false_eq_true, if_false, List.append_nil]
  rw [parG, hrow]
  cases rowL l with
  | none => rfl
  | some r =>
    simp only [Option.map_some, Option.bind_some]
    rw [show 1 + 1 + 1 = 1 + 2 from rfl, take_at]
    cases takeD [] r.1 r.2.1 1 with
    | none => rfl
    | some y => simp
theorem one_at {l : List UInt8} {blk : List UInt8} {x : List Ln} (h : oneR l = some (blk, x)) : x.length ≤ 1 ∧ ∀ z ∈ x, z.2.2 = 1 := by
  unfold oneR at h
  cases hr : rowL l with
  | none => rw [hr] at h; cases h
  | some r =>
    rw [hr] at h
    simp only [Option.bind_some] at h
    unfold takeD at h
    repeat' split at h
    all_goals first
      | (simp at h; done)
      | (simp only [Option.some.injEq, Prod.mk.injEq] at h; obtain ⟨_, rfl⟩ := h; simp)
end Go.Proofs.YtgkjmmfpbcgmgaaDoor
