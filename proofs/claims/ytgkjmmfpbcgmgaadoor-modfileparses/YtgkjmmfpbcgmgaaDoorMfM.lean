/-
  The lexer of module files, and what is read with it, as functions over bytes.
-/
import Derived.ProofKit
namespace Go.Proofs.YtgkjmmfpbcgmgaaDoor

def remB (l : List UInt8) : Bool := l.take 2 == [47, 47]
def blkB (c : UInt8) : Bool := c == 32 || c == 9 || c == 13
def wEnd : List UInt8 → Bool
  | [] => true
  | c :: r => c == 10 || blkB c || c == 40 || c == 41 || c == 34 || c == 96 || remB (c :: r)
def wordN : List UInt8 → Nat
  | [] => 0
  | c :: r => if wEnd (c :: r) then 0 else wordN r + 1
def skipL : Bool → List UInt8 → List UInt8
  | _, [] => []
  | true, c :: r => if c = 10 then c :: r else skipL true r
  | false, c :: r => if remB (c :: r) then skipL true r else if blkB c then skipL false r else c :: r
def mntL (c : UInt8) : Option UInt8 := if c = 34 ∨ c = 92 then some c else if c = 110 then some 10 else if c = 116 then some 9 else none
def rawL : List UInt8 → Option Nat
  | [] => none
  | c :: r => if c = 96 then some 0 else if c = 10 then none else (rawL r).map (· + 1)
def quoL : List UInt8 → Option (List UInt8 × List UInt8)
  | [] => none
  | c :: r => if c = 34 then some ([], r) else if c = 10 then none else if c = 92 then
      (match r with
       | [] => none
       | d :: r' => match mntL d with
         | none => none
         | some e => (quoL r').map fun x => (e :: x.1, x.2))
    else (quoL r).map fun x => (c :: x.1, x.2)
abbrev Tk := Nat × List UInt8 × List UInt8
def tokS : List UInt8 → Tk
  | [] => (1, [], [])
  | c :: r => if c = 10 then (2, [], r) else if c = 40 then (3, [], r) else if c = 41 then (4, [], r)
    else if c = 34 then (match quoL r with | some (s, t) => (5, s, t) | none => (6, [], []))
    else if c = 96 then (match rawL r with | some n => (5, r.take n, r.drop (n + 1)) | none => (6, [], []))
    else (5, c :: r.take (wordN r), r.drop (wordN r))
def tokL (l : List UInt8) : Tk := tokS (skipL false l)

theorem skip_len : ∀ (b : Bool) (l : List UInt8), (skipL b l).length ≤ l.length
  | true, [] => by simp [skipL]
  | false, [] => by simp [skipL]
  | true, c :: r => by
    rw [skipL]; split
    · exact Nat.le_refl _
    · have := skip_len true r; simp; omega
  | false, c :: r => by
    rw [skipL]; split
    · have := skip_len true r; simp; omega
    · split
      · have := skip_len false r; simp; omega
      · exact Nat.le_refl _
theorem skip_suf : ∀ (b : Bool) (l : List UInt8), ∃ n, n ≤ l.length ∧ skipL b l = l.drop n
  | true, [] => ⟨0, by simp, by simp [skipL]⟩
  | false, [] => ⟨0, by simp, by simp [skipL]⟩
  | true, c :: r => by
    rw [skipL]; split
    · exact ⟨0, by simp, rfl⟩
    · obtain ⟨n, h, e⟩ := skip_suf true r; exact ⟨n + 1, by simp; omega, by simpa using e⟩
  | false, c :: r => by
    rw [skipL]; split
    · obtain ⟨n, h, e⟩ := skip_suf true r; exact ⟨n + 1, by simp; omega, by simpa using e⟩
    · split
      · obtain ⟨n, h, e⟩ := skip_suf false r; exact ⟨n + 1, by simp; omega, by simpa using e⟩
      · exact ⟨0, by simp, rfl⟩
theorem raw_le : ∀ (l : List UInt8) n, rawL l = some n → n < l.length
  | [], n, h => by simp [rawL] at h
  | c :: r, n, h => by
    rw [rawL] at h
    split at h
    · simp at h; subst h; simp
    · split at h
      · simp at h
      · cases hr : rawL r with
        | none => simp [hr] at h
        | some m => simp [hr] at h; have := raw_le r m hr; simp; omega
theorem quo_suf : ∀ (n : Nat) (l s t : List UInt8), l.length ≤ n → quoL l = some (s, t) → ∃ m, m ≤ l.length ∧ 0 < m ∧ t = l.drop m
  | 0, [], s, t, _, h => by simp [quoL] at h
  | n + 1, [], s, t, _, h => by simp [quoL] at h
  | n + 1, c :: r, s, t, hl, h => by
    rw [quoL.eq_def] at h
    simp only at h
    split at h
    · simp at h; exact ⟨1, by simp, by omega, by simp [h.2]⟩
    · split at h
      · simp at h
      · split at h
        · cases r with
          | nil => simp at h
          | cons d r' =>
            simp only at h
            cases hm : mntL d with
            | none => simp [hm] at h
            | some e =>
              simp only [hm] at h
              cases hq : quoL r' with
              | none => simp [hq] at h
              | some x =>
                simp [hq] at h
                obtain ⟨m, h1, h2, h3⟩ := quo_suf n r' x.1 x.2 (by simp at hl; omega) hq
                exact ⟨m + 2, by simp; omega, by omega, by simp [← h.2, h3]⟩
        · cases hq : quoL r with
          | none => simp [hq] at h
          | some x =>
            simp [hq] at h
            obtain ⟨m, h1, h2, h3⟩ := quo_suf n r x.1 x.2 (by simp at hl; omega) hq
            exact ⟨m + 1, by simp; omega, by omega, by simp [← h.2, h3]⟩
theorem word_le : ∀ l : List UInt8, wordN l ≤ l.length
  | [] => by simp [wordN]
  | c :: r => by rw [wordN]; split <;> simp; have := word_le r; omega
theorem tokS_suf (l : List UInt8) : (tokS l).1 = 6 ∨ ∃ m, m ≤ l.length ∧ ((tokS l).1 = 1 ∨ 0 < m) ∧ (tokS l).2.2 = l.drop m := by
  cases l with
  | nil => exact .inr ⟨0, by simp, by simp [tokS], by simp [tokS]⟩
  | cons c r =>
    rw [tokS]
    split
    · exact .inr ⟨1, by simp, by simp, by simp⟩
    · split
      · exact .inr ⟨1, by simp, by simp, by simp⟩
      · split
        · exact .inr ⟨1, by simp, by simp, by simp⟩
        · split
          · cases hq : quoL r with
            | none => simp
            | some x =>
              obtain ⟨m, h1, h2, h3⟩ := quo_suf _ r x.1 x.2 (Nat.le_refl _) hq
              exact .inr ⟨m + 1, by simp; omega, by simp, by simp [h3]⟩
          · split
            · cases hq : rawL r with
              | none => simp
              | some n =>
                have := raw_le r n hq
                exact .inr ⟨n + 2, by simp; omega, by simp, by simp⟩
            · have := word_le r
              exact .inr ⟨wordN r + 1, by simp; omega, by simp, by simp⟩
theorem tok_suf (l : List UInt8) : (tokL l).1 = 6 ∨ ∃ m, m ≤ l.length ∧ ((tokL l).1 = 1 ∨ 0 < m) ∧ (tokL l).2.2 = l.drop m := by
  obtain ⟨n, h1, h2⟩ := skip_suf false l
  unfold tokL
  rw [h2]
  rcases tokS_suf (l.drop n) with h | ⟨m, h3, h4, h5⟩
  · exact .inl h
  · exact .inr ⟨n + m, by simp at h3; omega, by omega, by rw [h5, List.drop_drop]⟩
theorem tok_kind (l : List UInt8) : 1 ≤ (tokL l).1 ∧ (tokL l).1 ≤ 6 := by
  unfold tokL
  generalize skipL false l = k
  cases k with
  | nil => simp [tokS]
  | cons c r =>
    rw [tokS]
    repeat' split
    all_goals simp

abbrev Row := List (List UInt8) × Nat × Bool × List UInt8
def rowG : Nat → List UInt8 → List (List UInt8) → Nat → Option Row
  | 0, _, _, _ => none
  | f + 1, l, ws, b =>
    if (tokL l).1 = 1 then some (ws, b, true, (tokL l).2.2)
    else if (tokL l).1 = 2 then some (ws, b, false, (tokL l).2.2)
    else if (tokL l).1 = 6 ∨ b ≠ 0 then none
    else if (tokL l).1 = 5 then rowG f (tokL l).2.2 (ws ++ [(tokL l).2.1]) b
    else rowG f (tokL l).2.2 ws (tokL l).1
theorem tok_less {l : List UInt8} (h1 : (tokL l).1 ≠ 1) (h6 : (tokL l).1 ≠ 6) : (tokL l).2.2.length < l.length := by
  rcases tok_suf l with h | ⟨m, h, h', e⟩
  · exact absurd h h6
  · rw [e, List.length_drop]
    rcases h' with h' | h'
    · exact absurd h' h1
    · omega
theorem row_fuel : ∀ (f g : Nat) (l : List UInt8) ws b, l.length < f → l.length < g → rowG f l ws b = rowG g l ws b
  | 0, _, l, _, _, h, _ => absurd h (by omega)
  | _, 0, l, _, _, _, h => absurd h (by omega)
  | f + 1, g + 1, l, ws, b, hf, hg => by
    rw [rowG, rowG]
    split
    · rfl
    · rename_i h1
      split
      · rfl
      · split
        · rfl
        · rename_i h6
          have := tok_less h1 (by omega)
          split
          · exact row_fuel f g _ _ _ (by omega) (by omega)
          · exact row_fuel f g _ _ _ (by omega) (by omega)
def rowL (l : List UInt8) : Option Row := rowG (l.length + 1) l [] 0
theorem row_suf : ∀ (f : Nat) (l : List UInt8) ws b r, l.length < f → rowG f l ws b = some r → ∃ m, m ≤ l.length ∧ (r.2.2.1 = true ∨ 0 < m) ∧ r.2.2.2 = l.drop m
  | 0, l, _, _, _, h, _ => absurd h (by omega)
  | f + 1, l, ws, b, r, hf, h => by
    rw [rowG] at h
    split at h
    · rename_i h1
      simp at h
      subst h
      rcases tok_suf l with h | ⟨m, h2, h3, h4⟩
      · omega
      · exact ⟨m, h2, .inl rfl, h4⟩
    · split at h
      · rename_i h1 h2
        simp at h
        subst h
        rcases tok_suf l with h | ⟨m, h2, h3, h4⟩
        · omega
        · exact ⟨m, h2, by omega, h4⟩
      · split at h
        · simp at h
        · rename_i h1 h2 h6
          have hl := tok_less h1 (by omega)
          have hk : ∃ m, m ≤ l.length ∧ 0 < m ∧ (tokL l).2.2 = l.drop m := by
            rcases tok_suf l with h | ⟨m, h2, h3, h4⟩
            · omega
            · exact ⟨m, h2, by omega, h4⟩
          obtain ⟨m, m1, m2, m3⟩ := hk
          split at h
          all_goals
            obtain ⟨n, n1, n2, n3⟩ := row_suf f _ _ _ r (by omega) h
            refine ⟨m + n, ?_, .inr (by omega), ?_⟩
            · rw [m3] at n1; simp at n1; omega
            · rw [n3, m3, List.drop_drop]

abbrev Ln := List UInt8 × List (List UInt8) × Nat
def takeD (blk : List UInt8) (ws : List (List UInt8)) (b at_ : Nat) : Option (List UInt8 × List Ln) :=
  if b = 3 then (match ws with | [x] => if blk = [] ∧ x ≠ [] then some (x, []) else none | _ => none)
  else if b = 4 then (if blk ≠ [] ∧ ws = [] then some ([], []) else none)
  else match ws with
    | [] => some (blk, [])
    | x :: r => if blk ≠ [] then some (blk, [(blk, x :: r, at_)]) else if x = [] then none else some (blk, [(x, r, at_)])
abbrev Par := List Ln × Nat × Nat
def parG : Nat → List UInt8 → List UInt8 → List Ln → Nat → Par
  | 0, _, _, _, _ => ([], 0, 0)
  | f + 1, l, blk, out, k => match rowL l with
    | none => ([], k, 3)
    | some (ws, b, last, t) => match takeD blk ws b k with
      | none => ([], k, 3)
      | some (blk', x) => if last then (if blk' = [] then (out ++ x, 0, 0) else ([], k, 3)) else parG f t blk' (out ++ x) (k + 1)
def parL (l : List UInt8) : Par := parG (l.length + 1) l [] [] 1
theorem par_fuel : ∀ (f g : Nat) (l blk : List UInt8) out k, l.length < f → l.length < g → parG f l blk out k = parG g l blk out k
  | 0, _, l, _, _, _, h, _ => absurd h (by omega)
  | _, 0, l, _, _, _, _, h => absurd h (by omega)
  | f + 1, g + 1, l, blk, out, k, hf, hg => by
    rw [parG, parG]
    cases hr : rowL l with
    | none => rfl
    | some r =>
      obtain ⟨ws, b, last, t⟩ := r
      obtain ⟨m, h1, h2, h3⟩ := row_suf _ _ _ _ _ (Nat.lt_succ_self _) hr
      simp only at h2 h3 ⊢
      cases takeD blk ws b k with
      | none => rfl
      | some x =>
        simp only
        cases last with
        | true => rfl
        | false =>
          simp only [Bool.false_eq_true, if_false]
          have hl : t.length < l.length := by
            rw [h3, List.length_drop]
            simp at h2
            omega
          exact par_fuel f g _ _ _ _ (by omega) (by omega)
end Go.Proofs.YtgkjmmfpbcgmgaaDoor
