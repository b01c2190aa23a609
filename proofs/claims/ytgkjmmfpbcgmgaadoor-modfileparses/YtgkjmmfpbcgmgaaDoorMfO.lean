/-
  A text of one line, with a line's end and more behind it: its tokens and its row.
-/
import Derived.Test.YtgkjmmfpbcgmgaaDoorMfN
namespace Go.Proofs.YtgkjmmfpbcgmgaaDoor

theorem remB_line (c : UInt8) (r t : List UInt8) : remB (c :: r ++ 10 :: t) = remB (c :: r) := by
  cases r with
  | nil => simp [remB]
  | cons d r => simp [remB]
theorem skip_line : ∀ (m : Bool) (l t : List UInt8), 10 ∉ l → skipL m (l ++ 10 :: t) = skipL m l ++ 10 :: t
  | true, [], t, _ => by simp [skipL]
  | false, [], t, _ => by
    have h : remB (10 :: t) = false := by cases t <;> simp [remB]
    simp [skipL, h, blkB]
  | true, c :: r, t, h => by
    have hc : c ≠ 10 := fun e => h (by simp [e])
    rw [List.cons_append, skipL, skipL, if_neg hc, if_neg hc]
    exact skip_line true r t (fun e => h (by simp [e]))
  | false, c :: r, t, h => by
    have hr := remB_line c r t
    rw [List.cons_append] at hr ⊢
    rw [skipL, skipL, hr]
    have h2 : 10 ∉ r := fun e => h (by simp [e])
    by_cases h1 : remB (c :: r) = true
    · rw [if_pos h1, if_pos h1]; exact skip_line true r t h2
    · rw [if_neg h1, if_neg h1]
      by_cases h3 : blkB c = true
      · rw [if_pos h3, if_pos h3]; exact skip_line false r t h2
      · rw [if_neg h3, if_neg h3]; rfl
theorem quo_line : ∀ (n : Nat) (l t : List UInt8), l.length ≤ n → 10 ∉ l → quoL (l ++ 10 :: t) = (quoL l).map fun x => (x.1, x.2 ++ 10 :: t)
  | 0, [], t, _, _ => by rw [List.nil_append, quoL.eq_def]; simp [quoL]
  | n + 1, [], t, _, _ => by rw [List.nil_append, quoL.eq_def]; simp [quoL]
  | n + 1, c :: r, t, hl, h => by
    have hc : c ≠ 10 := fun e => h (by simp [e])
    have h2 : 10 ∉ r := fun e => h (by simp [e])
    rw [List.cons_append, quoL.eq_def, quoL.eq_def (c :: r)]
    simp only
    by_cases h1 : c = 34
    · subst h1; simp
    · rw [if_neg h1, if_neg h1, if_neg hc, if_neg hc]
      by_cases h3 : c = 92
      · rw [if_pos h3, if_pos h3]
        cases r with
        | nil => simp [mntL]
        | cons d r' =>
          simp only [List.cons_append]
          cases hm : mntL d with
          | none => simp
          | some e =>
            simp only [quo_line n r' t (by simp at hl; omega) (fun e => h2 (by simp [e]))]
            cases quoL r' <;> simp
      · rw [if_neg h3, if_neg h3, quo_line n r t (by simp at hl; omega) h2]
        cases quoL r <;> simp
theorem raw_line : ∀ (l t : List UInt8), 10 ∉ l → rawL (l ++ 10 :: t) = rawL l
  | [], t, _ => by simp [rawL]
  | c :: r, t, h => by
    have hc : c ≠ 10 := fun e => h (by simp [e])
    rw [List.cons_append, rawL, rawL, if_neg hc, if_neg hc, raw_line r t (fun e => h (by simp [e]))]
theorem word_line : ∀ (l t : List UInt8), 10 ∉ l → wordN (l ++ 10 :: t) = wordN l
  | [], t, _ => by simp [wordN, wEnd]
  | c :: r, t, h => by
    have hr := remB_line c r t
    rw [List.cons_append] at hr ⊢
    rw [wordN, wordN, wEnd, wEnd, hr, word_line r t (fun e => h (by simp [e]))]
/-- A token of a line with a line's end behind it. -/
theorem tok_line (l t : List UInt8) (h : 10 ∉ l) : ((tokL l).1 = 1 → tokL (l ++ 10 :: t) = (2, [], t)) ∧ ((tokL l).1 = 6 → (tokL (l ++ 10 :: t)).1 = 6) ∧
    ((tokL l).1 ≠ 1 → (tokL l).1 ≠ 6 → tokL (l ++ 10 :: t) = ((tokL l).1, (tokL l).2.1, (tokL l).2.2 ++ 10 :: t)) ∧ (tokL l).1 ≠ 2 ∧ 10 ∉ (tokL l).2.2 := by
  have hs := skip_line false l t h
  obtain ⟨n, hn, hd⟩ := skip_suf false l
  have h0 : 10 ∉ skipL false l := by rw [hd]; exact fun e => h (List.mem_of_mem_drop e)
  unfold tokL
  rw [hs]
  clear hs hd hn
  generalize skipL false l = k at *
  cases k with
  | nil => simp [tokS]
  | cons c r =>
    have hc : c ≠ 10 := fun e => h0 (by simp [e])
    have hr : 10 ∉ r := fun e => h0 (by simp [e])
    rw [List.cons_append, tokS, tokS, if_neg hc, if_neg hc]
    by_cases h2 : c = 40
    · simp [h2, hr]
    · rw [if_neg h2, if_neg h2]
      by_cases h3 : c = 41
      · simp [h3, hr]
      · rw [if_neg h3, if_neg h3]
        by_cases h4 : c = 34
        · rw [if_pos h4, if_pos h4, quo_line _ r t (Nat.le_refl _) hr]
          cases hq : quoL r with
          | none => simp
          | some x =>
            obtain ⟨m, _, _, h5⟩ := quo_suf _ r x.1 x.2 (Nat.le_refl _) hq
            have : 10 ∉ x.2 := by rw [h5]; exact fun e => hr (List.mem_of_mem_drop e)
            simp [this]
        · rw [if_neg h4, if_neg h4]
          by_cases h5 : c = 96
          · rw [if_pos h5, if_pos h5, raw_line r t hr]
            cases hq : rawL r with
            | none => simp
            | some m =>
              have hm := raw_le r m hq
              have : 10 ∉ r.drop (m + 1) := fun e => hr (List.mem_of_mem_drop e)
              simp only [List.take_append_of_le_length (Nat.le_of_lt hm), List.drop_append_of_le_length (show m + 1 ≤ r.length by omega)]
              simp [this]
          · rw [if_neg h5, if_neg h5, word_line r t hr]
            have hm := word_le r
            have : 10 ∉ r.drop (wordN r) := fun e => hr (List.mem_of_mem_drop e)
            simp only [List.take_append_of_le_length hm, List.drop_append_of_le_length hm]
            simp [this]
end Go.Proofs.YtgkjmmfpbcgmgaaDoor
