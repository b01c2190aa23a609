/-
  Texts one behind the other: tokens, rows and directives of both.
-/
import Derived.Test.YtgkjmmfpbcgmgaaDoorMfM
namespace Go.Proofs.YtgkjmmfpbcgmgaaDoor

theorem remB_app {c : UInt8} {r : List UInt8} (b : List UInt8) (h : 10 ∈ c :: r) : remB (c :: r ++ b) = remB (c :: r) := by
  cases r with
  | nil =>
    simp at h; subst h
    cases b <;> simp [remB]
  | cons d r => simp [remB]
theorem skip_app : ∀ (m : Bool) (l b : List UInt8), 10 ∈ l → skipL m (l ++ b) = skipL m l ++ b ∧ 10 ∈ skipL m l
  | _, [], _, h => by simp at h
  | true, c :: r, b, h => by
    rw [List.cons_append, skipL, skipL]
    by_cases hc : c = 10
    · simp [hc]
    · rw [if_neg hc, if_neg hc]
      exact skip_app true r b (by simpa [Ne.symm hc] using h)
  | false, c :: r, b, h => by
    have hr := remB_app b h
    rw [List.cons_append] at hr ⊢
    rw [skipL, skipL, hr]
    by_cases h1 : remB (c :: r) = true
    · have hc : c ≠ 10 := by rintro rfl; cases r <;> simp [remB] at h1
      rw [if_pos h1, if_pos h1]
      exact skip_app true r b (by simpa [Ne.symm hc] using h)
    · rw [if_neg h1, if_neg h1]
      by_cases h2 : blkB c = true
      · have hc : c ≠ 10 := by rintro rfl; simp [blkB] at h2
        rw [if_pos h2, if_pos h2]
        exact skip_app false r b (by simpa [Ne.symm hc] using h)
      · rw [if_neg h2, if_neg h2]
        exact ⟨rfl, h⟩
theorem quo_app : ∀ (n : Nat) (l b : List UInt8), l.length ≤ n → 10 ∈ l → quoL (l ++ b) = (quoL l).map (fun x => (x.1, x.2 ++ b)) ∧ (∀ x, quoL l = some x → x.2.count 10 = l.count 10)
  | _, [], _, _, h => by simp at h
  | 0, c :: r, _, hl, _ => by simp at hl
  | n + 1, c :: r, b, hl, h => by
    rw [List.cons_append, quoL.eq_def, quoL.eq_def (c :: r)]
    simp only
    by_cases h1 : c = 34
    · subst h1; simp
    · rw [if_neg h1, if_neg h1]
      by_cases h2 : c = 10
      · simp [h2]
      · have hr : 10 ∈ r := by simpa [Ne.symm h2] using h
        rw [if_neg h2, if_neg h2]
        by_cases h3 : c = 92
        · rw [if_pos h3, if_pos h3]
          cases r with
          | nil => simp at hr
          | cons d r' =>
            simp only [List.cons_append]
            cases hm : mntL d with
            | none => simp
            | some e =>
              have hd : d ≠ 10 := by rintro rfl; simp [mntL] at hm
              obtain ⟨i1, i2⟩ := quo_app n r' b (by simp at hl; omega) (by simpa [Ne.symm hd] using hr)
              simp only [i1]
              cases hq : quoL r' with
              | none => simp
              | some x => simp [i2 x hq, hd, h2]
        · rw [if_neg h3, if_neg h3]
          obtain ⟨i1, i2⟩ := quo_app n r b (by simp at hl; omega) hr
          simp only [i1]
          cases hq : quoL r with
          | none => simp
          | some x => simp [i2 x hq, h2]
theorem raw_app : ∀ (l b : List UInt8), 10 ∈ l → rawL (l ++ b) = rawL l ∧ (∀ n, rawL l = some n → (l.drop (n + 1)).count 10 = l.count 10)
  | [], _, h => by simp at h
  | c :: r, b, h => by
    rw [List.cons_append, rawL, rawL]
    by_cases h1 : c = 96
    · subst h1; simp
    · rw [if_neg h1, if_neg h1]
      by_cases h2 : c = 10
      · simp [h2]
      · rw [if_neg h2, if_neg h2]
        obtain ⟨i1, i2⟩ := raw_app r b (by simpa [Ne.symm h2] using h)
        rw [i1]
        refine ⟨rfl, fun n hn => ?_⟩
        cases hr : rawL r with
        | none => simp [hr] at hn
        | some m =>
          simp [hr] at hn
          subst hn
          have := i2 m hr
          simp [h2, this]
theorem word_app : ∀ (l b : List UInt8), 10 ∈ l → wordN (l ++ b) = wordN l ∧ (l.drop (wordN l)).count 10 = l.count 10
  | [], _, h => by simp at h
  | c :: r, b, h => by
    have hr := remB_app b h
    rw [List.cons_append] at hr ⊢
    rw [wordN, wordN, wEnd, wEnd, hr]
    by_cases h1 : (c == 10 || blkB c || c == 40 || c == 41 || c == 34 || c == 96 || remB (c :: r)) = true
    · rw [if_pos h1, if_pos h1]; simp
    · rw [if_neg h1, if_neg h1]
      have hc : c ≠ 10 := by rintro rfl; simp at h1
      obtain ⟨i1, i2⟩ := word_app r b (by simpa [Ne.symm hc] using h)
      rw [i1]
      refine ⟨rfl, ?_⟩
      simp [hc, i2]
theorem skip_count : ∀ (m : Bool) (l : List UInt8), 10 ∈ l → (skipL m l).count 10 = l.count 10
  | _, [], h => by simp at h
  | true, c :: r, h => by
    rw [skipL]
    by_cases hc : c = 10
    · simp [hc]
    · rw [if_neg hc, skip_count true r (by simpa [Ne.symm hc] using h), List.count_cons]; simp [hc]
  | false, c :: r, h => by
    rw [skipL]
    by_cases h1 : remB (c :: r) = true
    · have hc : c ≠ 10 := by rintro rfl; cases r <;> simp [remB] at h1
      rw [if_pos h1, skip_count true r (by simpa [Ne.symm hc] using h), List.count_cons]; simp [hc]
    · rw [if_neg h1]
      by_cases h2 : blkB c = true
      · have hc : c ≠ 10 := by rintro rfl; simp [blkB] at h2
        rw [if_pos h2, skip_count false r (by simpa [Ne.symm hc] using h), List.count_cons]; simp [hc]
      · rw [if_neg h2]
/-- A token of a text in which a line ends, with more behind it. -/
theorem tok_app (l b : List UInt8) (h : 10 ∈ l) : (tokL (l ++ b)).1 = (tokL l).1 ∧ (tokL (l ++ b)).2.1 = (tokL l).2.1 ∧ (tokL l).1 ≠ 1 ∧
    ((tokL l).1 ≠ 6 → (tokL (l ++ b)).2.2 = (tokL l).2.2 ++ b) ∧ ((tokL l).1 = 2 → l.count 10 = (tokL l).2.2.count 10 + 1) ∧ ((tokL l).1 ≠ 2 → (tokL l).1 ≠ 6 → l.count 10 = (tokL l).2.2.count 10) := by
  obtain ⟨e, hm⟩ := skip_app false l b h
  have hc := skip_count false l h
  unfold tokL
  rw [e, ← hc]
  clear e hc h
  generalize skipL false l = s at *
  cases s with
  | nil => simp at hm
  | cons c r =>
    rw [List.cons_append, tokS, tokS]
    by_cases h1 : c = 10
    · simp [h1]
    · have hr : 10 ∈ r := by simpa [Ne.symm h1] using hm
      rw [if_neg h1, if_neg h1]
      by_cases h2 : c = 40
      · simp [h2]
      · rw [if_neg h2, if_neg h2]
        by_cases h3 : c = 41
        · simp [h3]
        · rw [if_neg h3, if_neg h3]
          by_cases h4 : c = 34
          · rw [if_pos h4, if_pos h4]
            obtain ⟨i1, i2⟩ := quo_app _ r b (Nat.le_refl _) hr
            rw [i1]
            cases hq : quoL r with
            | none => simp
            | some x => simp [i2 x hq, h1]
          · rw [if_neg h4, if_neg h4]
            by_cases h5 : c = 96
            · rw [if_pos h5, if_pos h5]
              obtain ⟨i1, i2⟩ := raw_app r b hr
              rw [i1]
              cases hq : rawL r with
              | none => simp
              | some n =>
                have hn := raw_le r n hq
                have := i2 n hq
                simp only [List.take_append_of_le_length (Nat.le_of_lt hn), List.drop_append_of_le_length (show n + 1 ≤ r.length by omega), this, List.count_cons]
                simp [h1]
            · rw [if_neg h5, if_neg h5]
              obtain ⟨i1, i2⟩ := word_app r b hr
              have hn := word_le r
              rw [i1]
              simp only [List.take_append_of_le_length hn, List.drop_append_of_le_length hn, i2, List.count_cons]
              simp [h1]
theorem mem_of_count {l : List UInt8} (h : 0 < l.count 10) : 10 ∈ l := List.count_pos_iff.1 h
/-- A row of a text in which a line ends, with more behind it. -/
theorem row_app : ∀ (f g : Nat) (l b : List UInt8) ws k, 10 ∈ l → l.length < f → (l ++ b).length < g →
    rowG g (l ++ b) ws k = (rowG f l ws k).map (fun r => (r.1, r.2.1, r.2.2.1, r.2.2.2 ++ b)) ∧ ∀ r, rowG f l ws k = some r → r.2.2.1 = false ∧ l.count 10 = r.2.2.2.count 10 + 1
  | 0, _, l, _, _, _, _, h, _ => absurd h (by omega)
  | _, 0, l, _, _, _, _, _, h => absurd h (by omega)
  | f + 1, g + 1, l, b, ws, k, h10, hf, hg => by
    obtain ⟨t1, t2, t3, t4, t5, t6⟩ := tok_app l b h10
    rw [rowG, rowG, t1, t2, if_neg t3, if_neg t3]
    by_cases h2 : (tokL l).1 = 2
    · rw [if_pos h2, if_pos h2, t4 (by omega)]
      refine ⟨rfl, fun r hr => ?_⟩
      simp at hr
      subst hr
      exact ⟨rfl, t5 h2⟩
    · rw [if_neg h2, if_neg h2]
      by_cases h6 : (tokL l).1 = 6 ∨ k ≠ 0
      · rw [if_pos h6, if_pos h6]; simp
      · rw [if_neg h6, if_neg h6]
        have hc := t6 h2 (by omega)
        have hm : 10 ∈ (tokL l).2.2 := mem_of_count (by rw [← hc]; exact List.count_pos_iff.2 h10)
        have hl := tok_less t3 (by omega)
        have h4 := t4 (by omega)
        rw [h4]
        by_cases h5 : (tokL l).1 = 5
        · rw [if_pos h5, if_pos h5]
          obtain ⟨i1, i2⟩ := row_app f g (tokL l).2.2 b (ws ++ [(tokL l).2.1]) k hm (by omega) (by simp at hg ⊢; omega)
          exact ⟨i1, fun r hr => by rw [hc]; exact i2 r hr⟩
        · rw [if_neg h5, if_neg h5]
          obtain ⟨i1, i2⟩ := row_app f g (tokL l).2.2 b ws (tokL l).1 hm (by omega) (by simp at hg ⊢; omega)
          exact ⟨i1, fun r hr => by rw [hc]; exact i2 r hr⟩
theorem rowL_app (l b : List UInt8) (h : 10 ∈ l) : rowL (l ++ b) = (rowL l).map (fun r => (r.1, r.2.1, r.2.2.1, r.2.2.2 ++ b)) ∧ ∀ r, rowL l = some r → r.2.2.1 = false ∧ l.count 10 = r.2.2.2.count 10 + 1 :=
  row_app _ _ l b [] 0 h (Nat.lt_succ_self _) (Nat.lt_succ_self _)
def shL (d : Nat) (x : Ln) : Ln := (x.1, x.2.1, x.2.2 + d)
theorem take_at (blk : List UInt8) (ws : List (List UInt8)) (b k d : Nat) : takeD blk ws b (k + d) = (takeD blk ws b k).map fun x => (x.1, x.2.map (shL d)) := by
  unfold takeD
  split
  · split <;> (try split) <;> simp
  · split
    · split <;> simp
    · split
      · simp
      · split
        · simp [shL]
        · split <;> simp [shL]
/-- What was read ahead, and how many lines, show in nothing else. -/
theorem par_shift : ∀ (f : Nat) (l blk : List UInt8) (out : List Ln) (k d : Nat) (pre : List Ln), l.length < f → parG f l blk (pre ++ out.map (shL d)) (k + d) =
    (if (parG f l blk out k).2.2 = 0 then (pre ++ (parG f l blk out k).1.map (shL d), 0, 0) else ([], (parG f l blk out k).2.1 + d, 3))
  | 0, l, _, _, _, _, _, h => absurd h (by omega)
  | f + 1, l, blk, out, k, d, pre, hf => by
    rw [parG, parG]
    cases hr : rowL l with
    | none => simp
    | some r =>
      obtain ⟨ws, b, last, t⟩ := r
      obtain ⟨m, h1, h2, h3⟩ := row_suf _ _ _ _ _ (Nat.lt_succ_self _) hr
      simp only at h2 h3
      simp only [take_at]
      cases ht : takeD blk ws b k with
      | none => simp
      | some x =>
        simp only [Option.map_some]
        cases last with
        | true =>
          by_cases hb : x.1 = []
          · simp [hb]
          · simp [hb]
        | false =>
          simp only [Bool.false_eq_true, if_false]
          have hl : t.length < l.length := by
            rw [h3, List.length_drop]
            simp at h2
            omega
          have := par_shift f t x.1 (out ++ x.2) (k + 1) d pre (by omega)
          rw [List.map_append, ← List.append_assoc] at this
          rw [show k + d + 1 = k + 1 + d by omega, this]
/-- What is wrong is told by 3, with a line, and with no directives; what is right with no line. -/
theorem par_err : ∀ (f : Nat) (l blk : List UInt8) (out : List Ln) (k : Nat), l.length < f → ((parG f l blk out k).2.2 = 0 ∧ (parG f l blk out k).2.1 = 0) ∨ ((parG f l blk out k).2.2 = 3 ∧ (parG f l blk out k).1 = [])
  | 0, l, _, _, _, h => absurd h (by omega)
  | f + 1, l, blk, out, k, hf => by
    rw [parG]
    cases hr : rowL l with
    | none => simp
    | some r =>
      obtain ⟨ws, b, last, t⟩ := r
      obtain ⟨m, h1, h2, h3⟩ := row_suf _ _ _ _ _ (Nat.lt_succ_self _) hr
      simp only at h2 h3 ⊢
      cases ht : takeD blk ws b k with
      | none => simp
      | some x =>
        simp only
        cases last with
        | true =>
          by_cases hb : x.1 = []
          · simp [hb]
          · simp [hb]
        | false =>
          simp only [Bool.false_eq_true, if_false]
          have hl : t.length < l.length := by
            rw [h3, List.length_drop]
            simp at h2
            omega
          exact par_err f t x.1 (out ++ x.2) (k + 1) (by omega)
/-- A text that ends with a line's end, and more behind it: the first one's lines are gone through, then the other's. -/
theorem par_app : ∀ (f : Nat) (l b blk : List UInt8) (out : List Ln) (k : Nat), l.length < f → (l = [] ∨ l.getLast? = some 10) → (parG f l blk out k).2.2 = 0 →
    ∀ g, (l ++ b).length < g → parG g (l ++ b) blk out k = parG (b.length + 1) b [] (parG f l blk out k).1 (k + l.count 10)
  | 0, l, _, _, _, _, h, _, _, _, _ => absurd h (by omega)
  | f + 1, [], b, blk, out, k, hf, _, h0, g, hg => by
    have hr : rowL [] = some ([], 0, true, []) := by decide
    have h1 : parG (f + 1) [] blk out k = if blk = [] then (out, 0, 0) else ([], k, 3) := by
      rw [parG, hr]
      simp [takeD]
    rw [h1] at h0 ⊢
    by_cases hb : blk = []
    · subst hb
      simp
      exact par_fuel _ _ _ _ _ _ (by simpa using hg) (by omega)
    · simp [hb] at h0
  | f + 1, c :: l', b, blk, out, k, hf, he, h0, 0, hg => absurd hg (by omega)
  | f + 1, c :: l', b, blk, out, k, hf, he, h0, g + 1, hg => by
    have he' : (c :: l').getLast? = some 10 := by
      rcases he with h | h
      · cases h
      · exact h
    have hm : 10 ∈ c :: l' := List.mem_of_getLast? he'
    obtain ⟨a1, a2⟩ := rowL_app (c :: l') b hm
    generalize c :: l' = l at *
    rw [parG, a1]
    rw [parG] at h0 ⊢
    cases hr : rowL l with
    | none => simp [hr] at h0
    | some r =>
      obtain ⟨ws, bk, last, t⟩ := r
      obtain ⟨b1, b2⟩ := a2 _ hr
      obtain ⟨m, h1, h2, h3⟩ := row_suf _ _ _ _ _ (Nat.lt_succ_self _) hr
      simp only at h2 h3 b1 b2
      subst b1
      simp only [hr] at h0
      simp only [Option.map_some]
      cases ht : takeD blk ws bk k with
      | none => simp [ht] at h0
      | some x =>
        simp only [ht, Bool.false_eq_true, if_false] at h0
        simp only [Bool.false_eq_true, if_false]
        have hl : t.length < l.length := by
          rw [h3, List.length_drop]
          simp at h2
          omega
        have hte : t = [] ∨ t.getLast? = some 10 := by
          by_cases hn : t = []
          · exact .inl hn
          · refine .inr ?_
            rw [h3] at hn ⊢
            rw [List.getLast?_drop, if_neg (by simp at hn; omega)]
            exact he'
        rw [par_app f t b x.1 (out ++ x.2) (k + 1) (by omega) hte h0 g (by simp at hg ⊢; omega), b2, show k + 1 + List.count 10 t = k + (List.count 10 t + 1) by omega]
        simp [parG, hr, ht]
end Go.Proofs.YtgkjmmfpbcgmgaaDoor
