/-
  The lexer of module files, and what is read with it, as functions over bytes.
  DERIVED: THE SHELF's CONTRACTS AT THIS DUMP, IN PLAIN WORDS (tools/lay-plain.mjs out of 'YtgkjmmfpbcgmgaaDoorShelf.lean', which tools/lay-shelf.mjs wrote): THE SAME DECLARATIONS UNDER THE SAME NAMES: 'import', 'namespace', 'open', 'def', 'theorem' AND NOTHING ELSE: no command of the shelf's: FOR A HAND-IN. Each laying: the table of numbers ('.._ren') and one theorem, a field a fact of the dump's own or the kernel's comparison; each contract: ONE APPLICATION.
-/
import Derived.ProofKit
import Derived.Shelf.Small.Utf8
import Derived.Shelf.Small.Strs
import Derived.Shelf.Utf8.RuneCount
import Derived.Shelf.LaysM
import Derived.Shelf.Strconv.Clone
import Derived.Shelf.Strings.Search1
import Derived.Shelf.Strings.Search2
import Derived.Shelf.Strings.Search3
import Derived.Shelf.Strings.Cut
import Derived.Shelf.Strings.Count
import Derived.Shelf.Strings.Shaped
import Derived.Shelf.Strings.Prefix
import Derived.Shelf.Strings.Split
import Derived.Shelf.Strings.SplitShaped
import Derived.Shelf.Unicode.Decode
import Derived.Shelf.Strings.Runes
import Derived.Shelf.Strings.RuneCount
import Derived.Shelf.Strings.IndexAny
import Derived.Shelf.Strings.AsciiSet
import Derived.Shelf.Strings.IndexAnyAll
import Derived.Shelf.Strings.Explode
import Derived.Shelf.Unicode.DecodeSlow
import Derived.Shelf.Unicode.DecodeAny
import Derived.Ground.Names2Prog
import Derived.Shelf.Slices.Clone
import Derived.Ground.SlgnProg
import Derived.Shelf.SlicesE.Clone
import Derived.Test.YtgkjmmfpbcgmgaaDoorProg
namespace Go.Proofs.YtgkjmmfpbcgmgaaDoor

def remB (l : List UInt8) : Bool := l.take 2 == [47, 47]
def blkB (c : UInt8) : Bool := c == 32 || c == 9 || c == 13
def wEnd : List UInt8 → Bool
  | [] => true
  | c :: r => c == 10 || blkB c || c == 40 || c == 41 || c == 34 || c == 96 || remB (c :: r)
def wordN : List UInt8 → Nat
  | [] => 0
  | c :: r => if wEnd (c :: r) then 0 else wordN r + 1
def skipL : Bool → List UInt8 → List UInt8
  | _, [] => []
  | true, c :: r => if c = 10 then c :: r else skipL true r
  | false, c :: r => if remB (c :: r) then skipL true r else if blkB c then skipL false r else c :: r
def mntL (c : UInt8) : Option UInt8 := if c = 34 ∨ c = 92 then some c else if c = 110 then some 10 else if c = 116 then some 9 else none
def rawL : List UInt8 → Option Nat
  | [] => none
  | c :: r => if c = 96 then some 0 else if c = 10 then none else (rawL r).map (· + 1)
def quoL : List UInt8 → Option (List UInt8 × List UInt8)
  | [] => none
  | c :: r => if c = 34 then some ([], r) else if c = 10 then none else if c = 92 then
      (match r with
       | [] => none
       | d :: r' => match mntL d with
         | none => none
         | some e => (quoL r').map fun x => (e :: x.1, x.2))
    else (quoL r).map fun x => (c :: x.1, x.2)
abbrev Tk := Nat × List UInt8 × List UInt8
def tokS : List UInt8 → Tk
  | [] => (1, [], [])
  | c :: r => if c = 10 then (2, [], r) else if c = 40 then (3, [], r) else if c = 41 then (4, [], r)
    else if c = 34 then (match quoL r with | some (s, t) => (5, s, t) | none => (6, [], []))
    else if c = 96 then (match rawL r with | some n => (5, r.take n, r.drop (n + 1)) | none => (6, [], []))
    else (5, c :: r.take (wordN r), r.drop (wordN r))
def tokL (l : List UInt8) : Tk := tokS (skipL false l)

theorem skip_len : ∀ (b : Bool) (l : List UInt8), (skipL b l).length ≤ l.length
  | true, [] => by simp [skipL]
  | false, [] => by simp [skipL]
  | true, c :: r => by
    rw [skipL]; split
    · exact Nat.le_refl _
    · have := skip_len true r; simp; omega
  | false, c :: r => by
    rw [skipL]; split
    · have := skip_len true r; simp; omega
    · split
      · have := skip_len false r; simp; omega
      · exact Nat.le_refl _
theorem skip_suf : ∀ (b : Bool) (l : List UInt8), ∃ n, n ≤ l.length ∧ skipL b l = l.drop n
  | true, [] => ⟨0, by simp, by simp [skipL]⟩
  | false, [] => ⟨0, by simp, by simp [skipL]⟩
  | true, c :: r => by
    rw [skipL]; split
    · exact ⟨0, by simp, rfl⟩
    · obtain ⟨n, h, e⟩ := skip_suf true r; exact ⟨n + 1, by simp; omega, by simpa using e⟩
  | false, c :: r => by
    rw [skipL]; split
    · obtain ⟨n, h, e⟩ := skip_suf true r; exact ⟨n + 1, by simp; omega, by simpa using e⟩
    · split
      · obtain ⟨n, h, e⟩ := skip_suf false r; exact ⟨n + 1, by simp; omega, by simpa using e⟩
      · exact ⟨0, by simp, rfl⟩
theorem raw_le : ∀ (l : List UInt8) n, rawL l = some n → n < l.length
  | [], n, h => by simp [rawL] at h
  | c :: r, n, h => by
    rw [rawL] at h
    split at h
    · simp at h; subst h; simp
    · split at h
      · simp at h
      · cases hr : rawL r with
        | none => simp [hr] at h
        | some m => simp [hr] at h; have := raw_le r m hr; simp; omega
theorem quo_suf : ∀ (n : Nat) (l s t : List UInt8), l.length ≤ n → quoL l = some (s, t) → ∃ m, m ≤ l.length ∧ 0 < m ∧ t = l.drop m
  | 0, [], s, t, _, h => by simp [quoL] at h
  | n + 1, [], s, t, _, h => by simp [quoL] at h
  | n + 1, c :: r, s, t, hl, h => by
    rw [quoL.eq_def] at h
    simp only at h
    split at h
    · simp at h; exact ⟨1, by simp, by omega, by simp [h.2]⟩
    · split at h
      · simp at h
      · split at h
        · cases r with
          | nil => simp at h
          | cons d r' =>
            simp only at h
            cases hm : mntL d with
            | none => simp [hm] at h
            | some e =>
              simp only [hm] at h
              cases hq : quoL r' with
              | none => simp [hq] at h
              | some x =>
                simp [hq] at h
                obtain ⟨m, h1, h2, h3⟩ := quo_suf n r' x.1 x.2 (by simp at hl; omega) hq
                exact ⟨m + 2, by simp; omega, by omega, by simp [← h.2, h3]⟩
        · cases hq : quoL r with
          | none => simp [hq] at h
          | some x =>
            simp [hq] at h
            obtain ⟨m, h1, h2, h3⟩ := quo_suf n r x.1 x.2 (by simp at hl; omega) hq
            exact ⟨m + 1, by simp; omega, by omega, by simp [← h.2, h3]⟩
theorem word_le : ∀ l : List UInt8, wordN l ≤ l.length
  | [] => by simp [wordN]
  | c :: r => by rw [wordN]; split <;> simp; have := word_le r; omega
theorem tokS_suf (l : List UInt8) : (tokS l).1 = 6 ∨ ∃ m, m ≤ l.length ∧ ((tokS l).1 = 1 ∨ 0 < m) ∧ (tokS l).2.2 = l.drop m := by
  cases l with
  | nil => exact .inr ⟨0, by simp, by simp [tokS], by simp [tokS]⟩
  | cons c r =>
    rw [tokS]
    split
    · exact .inr ⟨1, by simp, by simp, by simp⟩
    · split
      · exact .inr ⟨1, by simp, by simp, by simp⟩
      · split
        · exact .inr ⟨1, by simp, by simp, by simp⟩
        · split
          · cases hq : quoL r with
            | none => simp
            | some x =>
              obtain ⟨m, h1, h2, h3⟩ := quo_suf _ r x.1 x.2 (Nat.le_refl _) hq
              exact .inr ⟨m + 1, by simp; omega, by simp, by simp [h3]⟩
          · split
            · cases hq : rawL r with
              | none => simp
              | some n =>
                have := raw_le r n hq
                exact .inr ⟨n + 2, by simp; omega, by simp, by simp⟩
            · have := word_le r
              exact .inr ⟨wordN r + 1, by simp; omega, by simp, by simp⟩
theorem tok_suf (l : List UInt8) : (tokL l).1 = 6 ∨ ∃ m, m ≤ l.length ∧ ((tokL l).1 = 1 ∨ 0 < m) ∧ (tokL l).2.2 = l.drop m := by
  obtain ⟨n, h1, h2⟩ := skip_suf false l
  unfold tokL
  rw [h2]
  rcases tokS_suf (l.drop n) with h | ⟨m, h3, h4, h5⟩
  · exact .inl h
  · exact .inr ⟨n + m, by simp at h3; omega, by omega, by rw [h5, List.drop_drop]⟩
theorem tok_kind (l : List UInt8) : 1 ≤ (tokL l).1 ∧ (tokL l).1 ≤ 6 := by
  unfold tokL
  generalize skipL false l = k
  cases k with
  | nil => simp [tokS]
  | cons c r =>
    rw [tokS]
    repeat' split
    all_goals simp

abbrev Row := List (List UInt8) × Nat × Bool × List UInt8
def rowG : Nat → List UInt8 → List (List UInt8) → Nat → Option Row
  | 0, _, _, _ => none
  | f + 1, l, ws, b =>
    if (tokL l).1 = 1 then some (ws, b, true, (tokL l).2.2)
    else if (tokL l).1 = 2 then some (ws, b, false, (tokL l).2.2)
    else if (tokL l).1 = 6 ∨ b ≠ 0 then none
    else if (tokL l).1 = 5 then rowG f (tokL l).2.2 (ws ++ [(tokL l).2.1]) b
    else rowG f (tokL l).2.2 ws (tokL l).1
theorem tok_less {l : List UInt8} (h1 : (tokL l).1 ≠ 1) (h6 : (tokL l).1 ≠ 6) : (tokL l).2.2.length < l.length := by
  rcases tok_suf l with h | ⟨m, h, h', e⟩
  · exact absurd h h6
  · rw [e, List.length_drop]
    rcases h' with h' | h'
    · exact absurd h' h1
    · omega
theorem row_fuel : ∀ (f g : Nat) (l : List UInt8) ws b, l.length < f → l.length < g → rowG f l ws b = rowG g l ws b
  | 0, _, l, _, _, h, _ => absurd h (by omega)
  | _, 0, l, _, _, _, h => absurd h (by omega)
  | f + 1, g + 1, l, ws, b, hf, hg => by
    rw [rowG, rowG]
    split
    · rfl
    · rename_i h1
      split
      · rfl
      · split
        · rfl
        · rename_i h6
          have := tok_less h1 (by omega)
          split
          · exact row_fuel f g _ _ _ (by omega) (by omega)
          · exact row_fuel f g _ _ _ (by omega) (by omega)
def rowL (l : List UInt8) : Option Row := rowG (l.length + 1) l [] 0
theorem row_suf : ∀ (f : Nat) (l : List UInt8) ws b r, l.length < f → rowG f l ws b = some r → ∃ m, m ≤ l.length ∧ (r.2.2.1 = true ∨ 0 < m) ∧ r.2.2.2 = l.drop m
  | 0, l, _, _, _, h, _ => absurd h (by omega)
  | f + 1, l, ws, b, r, hf, h => by
    rw [rowG] at h
    split at h
    · rename_i h1
      simp at h
      subst h
      rcases tok_suf l with h | ⟨m, h2, h3, h4⟩
      · omega
      · exact ⟨m, h2, .inl rfl, h4⟩
    · split at h
      · rename_i h1 h2
        simp at h
        subst h
        rcases tok_suf l with h | ⟨m, h2, h3, h4⟩
        · omega
        · exact ⟨m, h2, by omega, h4⟩
      · split at h
        · simp at h
        · rename_i h1 h2 h6
          have hl := tok_less h1 (by omega)
          have hk : ∃ m, m ≤ l.length ∧ 0 < m ∧ (tokL l).2.2 = l.drop m := by
            rcases tok_suf l with h | ⟨m, h2, h3, h4⟩
            · omega
            · exact ⟨m, h2, by omega, h4⟩
          obtain ⟨m, m1, m2, m3⟩ := hk
          split at h
          all_goals
            obtain ⟨n, n1, n2, n3⟩ := row_suf f _ _ _ r (by omega) h
            refine ⟨m + n, ?_, .inr (by omega), ?_⟩
            · rw [m3] at n1; simp at n1; omega
            · rw [n3, m3, List.drop_drop]

abbrev Ln := List UInt8 × List (List UInt8) × Nat
def takeD (blk : List UInt8) (ws : List (List UInt8)) (b at_ : Nat) : Option (List UInt8 × List Ln) :=
  if b = 3 then (match ws with | [x] => if blk = [] ∧ x ≠ [] then some (x, []) else none | _ => none)
  else if b = 4 then (if blk ≠ [] ∧ ws = [] then some ([], []) else none)
  else match ws with
    | [] => some (blk, [])
    | x :: r => if blk ≠ [] then some (blk, [(blk, x :: r, at_)]) else if x = [] then none else some (blk, [(x, r, at_)])
abbrev Par := List Ln × Nat × Nat
def parG : Nat → List UInt8 → List UInt8 → List Ln → Nat → Par
  | 0, _, _, _, _ => ([], 0, 0)
  | f + 1, l, blk, out, k => match rowL l with
    | none => ([], k, 3)
    | some (ws, b, last, t) => match takeD blk ws b k with
      | none => ([], k, 3)
      | some (blk', x) => if last then (if blk' = [] then (out ++ x, 0, 0) else ([], k, 3)) else parG f t blk' (out ++ x) (k + 1)
def parL (l : List UInt8) : Par := parG (l.length + 1) l [] [] 1
theorem par_fuel : ∀ (f g : Nat) (l blk : List UInt8) out k, l.length < f → l.length < g → parG f l blk out k = parG g l blk out k
  | 0, _, l, _, _, _, h, _ => absurd h (by omega)
  | _, 0, l, _, _, _, _, h => absurd h (by omega)
  | f + 1, g + 1, l, blk, out, k, hf, hg => by
    rw [parG, parG]
    cases hr : rowL l with
    | none => rfl
    | some r =>
      obtain ⟨ws, b, last, t⟩ := r
      obtain ⟨m, h1, h2, h3⟩ := row_suf _ _ _ _ _ (Nat.lt_succ_self _) hr
      simp only at h2 h3 ⊢
      cases takeD blk ws b k with
      | none => rfl
      | some x =>
        simp only
        cases last with
        | true => rfl
        | false =>
          simp only [Bool.false_eq_true, if_false]
          have hl : t.length < l.length := by
            rw [h3, List.length_drop]
            simp at h2
            omega
          exact par_fuel f g _ _ _ _ (by omega) (by omega)
end Go.Proofs.YtgkjmmfpbcgmgaaDoor
namespace Go.Proofs
open Go.Shelf
def Tryd.laysM316_ren : Go.Shelf.Ren := ⟨fun | 316 => 67 | n => n, fun | 9 => 9 | 3 => 3 | 4 => 4 | 37 => 73 | 0 => 0 | 127 => 89 | 5 => 5 | n => n, fun | n => n⟩
theorem Tryd.laysM316 : Go.Proofs.LaysM.n316 Tryd.prog Tryd.laysM316_ren := {
  mixed := by kernel_rfl
  f316 := Tryd.func67.trans (congrArg some (by kernel_rfl))
  t0 := Tryd.underlying0
  a0 := Tryd.isAgg0
  z0 := Tryd.sizeOf0
  v0 := Tryd.zeroValue0
  t3 := Tryd.underlying3
  a3 := Tryd.isAgg3
  z3 := Tryd.sizeOf3
  v3 := Tryd.zeroValue3
  t4 := Tryd.underlying4
  a4 := Tryd.isAgg4
  z4 := Tryd.sizeOf4
  v4 := Tryd.zeroValue4
  t9 := Tryd.underlying9
  a9 := Tryd.isAgg9
  z9 := Tryd.sizeOf9
  v9 := Tryd.zeroValue9
  t37 := Tryd.underlying73
  a37 := Tryd.isAgg73
  z37 := Tryd.sizeOf73
  v37 := Tryd.zeroValue73
  t127 := Tryd.underlying89
  a127 := Tryd.isAgg89
  z127 := Tryd.sizeOf89
  v127 := Tryd.zeroValue89
  t5 := Tryd.underlying5
  a5 := Tryd.isAgg5
  z5 := Tryd.sizeOf5
  v5 := Tryd.zeroValue5
  i0 := by kernel_rfl
  i3 := by kernel_rfl
  i4 := by kernel_rfl
  i5 := by kernel_rfl
  i9 := by kernel_rfl
  i37 := by kernel_rfl
  i127 := by kernel_rfl }
open Go.RowKit in
/-- internal/stringslite.Clone (what strings.Clone calls): "Clone returns a fresh copy of s.": THE SAME BYTES. Of what was there nothing has turned (a new row is laid, and frozen, where s is not empty). (LAID: no walk: one application.) -/
theorem Tryd.stringslite_Clone (s : ByteArray) (w : World) (hlim : s.size ≤ 281474976710656) :
    Calls Tryd.prog 67 #[.string s] w fun e w' => e = .returned (.string s) ∧ Below w.heap.size w w' := Any.stringslite_Clone Tryd.laysM316 s w hlim
def Tryd.lays219_ren : Go.Shelf.Ren := ⟨fun | 219 => 58 | 217 => 68 | 225 => 69 | 224 => 70 | 267 => 71 | 266 => 77 | 314 => 78 | n => n, fun | 9 => 9 | 3 => 3 | 4 => 4 | 5 => 5 | 46 => 83 | 146 => 91 | 51 => 90 | n => n, fun | 1 => 0 | n => n⟩
theorem Tryd.lays219 : Go.Proofs.Lays.n219 Tryd.prog Tryd.lays219_ren := {
  mixed := by kernel_rfl
  f217 := Tryd.func68.trans (congrArg some (by kernel_rfl))
  f219 := Tryd.func58.trans (congrArg some (by kernel_rfl))
  f224 := Tryd.func70.trans (congrArg some (by kernel_rfl))
  f225 := Tryd.func69.trans (congrArg some (by kernel_rfl))
  f266 := Tryd.func77.trans (congrArg some (by kernel_rfl))
  f267 := Tryd.func71.trans (congrArg some (by kernel_rfl))
  f314 := Tryd.func78.trans (congrArg some (by kernel_rfl))
  t3 := Tryd.underlying3
  a3 := Tryd.isAgg3
  z3 := Tryd.sizeOf3
  v3 := Tryd.zeroValue3
  t4 := Tryd.underlying4
  a4 := Tryd.isAgg4
  z4 := Tryd.sizeOf4
  v4 := Tryd.zeroValue4
  t5 := Tryd.underlying5
  a5 := Tryd.isAgg5
  z5 := Tryd.sizeOf5
  v5 := Tryd.zeroValue5
  t9 := Tryd.underlying9
  a9 := Tryd.isAgg9
  z9 := Tryd.sizeOf9
  v9 := Tryd.zeroValue9
  t46 := Tryd.underlying83
  a46 := Tryd.isAgg83
  z46 := Tryd.sizeOf83
  v46 := Tryd.zeroValue83
  t51 := Tryd.underlying90
  a51 := Tryd.isAgg90
  z51 := Tryd.sizeOf90
  v51 := Tryd.zeroValue90
  t146 := Tryd.underlying91
  a146 := Tryd.isAgg91
  z146 := Tryd.sizeOf91
  v146 := Tryd.zeroValue91
  g1 := by kernel_rfl }
open Go.RowKit Go.Lib in
/-- internal/stringslite.Index (what strings.Index calls) AT A substr OF ONE BYTE c: IT RETURNS 'Lib.indexByte s c'; the world is as it was. (LAID: no walk: one application.) -/
theorem Tryd.stringslite_Index_one (s : ByteArray) (c : UInt8) (w : World) :
    Calls Tryd.prog 58 #[.string s, .string ⟨#[c]⟩] w fun e w' => e = .returned (.int .i64 (Lib.indexByte s.data.toList c)) ∧ w' = w := Any.stringslite_Index_one Tryd.lays219 s c w
def Tryd.lays143_ren : Go.Shelf.Ren := ⟨fun | 143 => 51 | 219 => 58 | 217 => 68 | 225 => 69 | 224 => 70 | 267 => 71 | 266 => 77 | 314 => 78 | n => n, fun | 9 => 9 | 3 => 3 | 4 => 4 | 5 => 5 | 46 => 83 | 146 => 91 | 51 => 90 | n => n, fun | 1 => 0 | n => n⟩
theorem Tryd.lays143 : Go.Proofs.Lays.n143 Tryd.prog Tryd.lays143_ren := {
  mixed := by kernel_rfl
  f143 := Tryd.func51.trans (congrArg some (by kernel_rfl))
  f217 := Tryd.func68.trans (congrArg some (by kernel_rfl))
  f219 := Tryd.func58.trans (congrArg some (by kernel_rfl))
  f224 := Tryd.func70.trans (congrArg some (by kernel_rfl))
  f225 := Tryd.func69.trans (congrArg some (by kernel_rfl))
  f266 := Tryd.func77.trans (congrArg some (by kernel_rfl))
  f267 := Tryd.func71.trans (congrArg some (by kernel_rfl))
  f314 := Tryd.func78.trans (congrArg some (by kernel_rfl))
  t3 := Tryd.underlying3
  a3 := Tryd.isAgg3
  z3 := Tryd.sizeOf3
  v3 := Tryd.zeroValue3
  t4 := Tryd.underlying4
  a4 := Tryd.isAgg4
  z4 := Tryd.sizeOf4
  v4 := Tryd.zeroValue4
  t5 := Tryd.underlying5
  a5 := Tryd.isAgg5
  z5 := Tryd.sizeOf5
  v5 := Tryd.zeroValue5
  t9 := Tryd.underlying9
  a9 := Tryd.isAgg9
  z9 := Tryd.sizeOf9
  v9 := Tryd.zeroValue9
  t46 := Tryd.underlying83
  a46 := Tryd.isAgg83
  z46 := Tryd.sizeOf83
  v46 := Tryd.zeroValue83
  t51 := Tryd.underlying90
  a51 := Tryd.isAgg90
  z51 := Tryd.sizeOf90
  v51 := Tryd.zeroValue90
  t146 := Tryd.underlying91
  a146 := Tryd.isAgg91
  z146 := Tryd.sizeOf91
  v146 := Tryd.zeroValue91
  g1 := by kernel_rfl }
open Go.RowKit Go.Lib in
/-- strings.Index: "Index returns the index of the first instance of substr in s, or -1 if substr is not present in s.": AT A substr OF ONE BYTE c: IT RETURNS 'Lib.indexByte s c'; the world is as it was. (LAID: no walk: one application.) -/
theorem Tryd.strings_Index_one (s : ByteArray) (c : UInt8) (w : World) :
    Calls Tryd.prog 51 #[.string s, .string ⟨#[c]⟩] w fun e w' => e = .returned (.int .i64 (Lib.indexByte s.data.toList c)) ∧ w' = w := Any.strings_Index_one Tryd.lays143 s c w
def Tryd.lays144_ren : Go.Shelf.Ren := ⟨fun | 144 => 34 | 143 => 51 | 219 => 58 | 217 => 68 | 225 => 69 | 224 => 70 | 267 => 71 | 266 => 77 | 314 => 78 | n => n, fun | 9 => 9 | 4 => 4 | 3 => 3 | 5 => 5 | 46 => 83 | 146 => 91 | 51 => 90 | n => n, fun | 1 => 0 | n => n⟩
theorem Tryd.lays144 : Go.Proofs.Lays.n144 Tryd.prog Tryd.lays144_ren := {
  mixed := by kernel_rfl
  f143 := Tryd.func51.trans (congrArg some (by kernel_rfl))
  f144 := Tryd.func34.trans (congrArg some (by kernel_rfl))
  f217 := Tryd.func68.trans (congrArg some (by kernel_rfl))
  f219 := Tryd.func58.trans (congrArg some (by kernel_rfl))
  f224 := Tryd.func70.trans (congrArg some (by kernel_rfl))
  f225 := Tryd.func69.trans (congrArg some (by kernel_rfl))
  f266 := Tryd.func77.trans (congrArg some (by kernel_rfl))
  f267 := Tryd.func71.trans (congrArg some (by kernel_rfl))
  f314 := Tryd.func78.trans (congrArg some (by kernel_rfl))
  t3 := Tryd.underlying3
  a3 := Tryd.isAgg3
  z3 := Tryd.sizeOf3
  v3 := Tryd.zeroValue3
  t4 := Tryd.underlying4
  a4 := Tryd.isAgg4
  z4 := Tryd.sizeOf4
  v4 := Tryd.zeroValue4
  t5 := Tryd.underlying5
  a5 := Tryd.isAgg5
  z5 := Tryd.sizeOf5
  v5 := Tryd.zeroValue5
  t9 := Tryd.underlying9
  a9 := Tryd.isAgg9
  z9 := Tryd.sizeOf9
  v9 := Tryd.zeroValue9
  t46 := Tryd.underlying83
  a46 := Tryd.isAgg83
  z46 := Tryd.sizeOf83
  v46 := Tryd.zeroValue83
  t51 := Tryd.underlying90
  a51 := Tryd.isAgg90
  z51 := Tryd.sizeOf90
  v51 := Tryd.zeroValue90
  t146 := Tryd.underlying91
  a146 := Tryd.isAgg91
  z146 := Tryd.sizeOf91
  v146 := Tryd.zeroValue91
  g1 := by kernel_rfl }
open Go.RowKit Go.Lib in
/-- strings.Contains: "Contains reports whether substr is within s.": AT A substr OF ONE BYTE c: IT RETURNS 'decide (0 ≤ Lib.indexByte s c)'; the world is as it was. (LAID: no walk: one application.) -/
theorem Tryd.strings_Contains_one (s : ByteArray) (c : UInt8) (w : World) :
    Calls Tryd.prog 34 #[.string s, .string ⟨#[c]⟩] w fun e w' => e = .returned (.bool (decide (0 ≤ Lib.indexByte s.data.toList c))) ∧ w' = w := Any.strings_Contains_one Tryd.lays144 s c w
open Go.RowKit Go.Lib in
/-- strings.Contains: "Contains reports whether substr is within s.": IT RETURNS 'Lib.contains s substr'; the world is as it was. (LAID: no walk: one application.) -/
theorem Tryd.strings_Contains (s sub : ByteArray) (m : Int) (w : World) (hs : s.size < 4294967281) (hm : w.cell? ⟨0, 0, none⟩ = some (.int .i64 m)) :
    Calls Tryd.prog 34 #[.string s, .string sub] w fun e w' => e = .returned (.bool (Lib.contains s.data.toList sub.data.toList)) ∧ w' = w := Any.strings_Contains Tryd.lays144 s sub m w hs hm
def Tryd.lays138_ren : Go.Shelf.Ren := ⟨fun | 138 => 60 | 195 => 72 | 218 => 74 | 143 => 51 | 219 => 58 | 217 => 68 | 225 => 69 | 224 => 70 | 267 => 71 | 266 => 77 | 314 => 78 | n => n, fun | 9 => 9 | 3 => 3 | 4 => 4 | 5 => 5 | 0 => 0 | 46 => 83 | 146 => 91 | 51 => 90 | n => n, fun | 1 => 0 | n => n⟩
theorem Tryd.lays138 : Go.Proofs.Lays.n138 Tryd.prog Tryd.lays138_ren := {
  mixed := by kernel_rfl
  f138 := Tryd.func60.trans (congrArg some (by kernel_rfl))
  f143 := Tryd.func51.trans (congrArg some (by kernel_rfl))
  f195 := Tryd.func72.trans (congrArg some (by kernel_rfl))
  f217 := Tryd.func68.trans (congrArg some (by kernel_rfl))
  f218 := Tryd.func74.trans (congrArg some (by kernel_rfl))
  f219 := Tryd.func58.trans (congrArg some (by kernel_rfl))
  f224 := Tryd.func70.trans (congrArg some (by kernel_rfl))
  f225 := Tryd.func69.trans (congrArg some (by kernel_rfl))
  f266 := Tryd.func77.trans (congrArg some (by kernel_rfl))
  f267 := Tryd.func71.trans (congrArg some (by kernel_rfl))
  f314 := Tryd.func78.trans (congrArg some (by kernel_rfl))
  t0 := Tryd.underlying0
  a0 := Tryd.isAgg0
  z0 := Tryd.sizeOf0
  v0 := Tryd.zeroValue0
  t3 := Tryd.underlying3
  a3 := Tryd.isAgg3
  z3 := Tryd.sizeOf3
  v3 := Tryd.zeroValue3
  t4 := Tryd.underlying4
  a4 := Tryd.isAgg4
  z4 := Tryd.sizeOf4
  v4 := Tryd.zeroValue4
  t5 := Tryd.underlying5
  a5 := Tryd.isAgg5
  z5 := Tryd.sizeOf5
  v5 := Tryd.zeroValue5
  t9 := Tryd.underlying9
  a9 := Tryd.isAgg9
  z9 := Tryd.sizeOf9
  v9 := Tryd.zeroValue9
  t46 := Tryd.underlying83
  a46 := Tryd.isAgg83
  z46 := Tryd.sizeOf83
  v46 := Tryd.zeroValue83
  t51 := Tryd.underlying90
  a51 := Tryd.isAgg90
  z51 := Tryd.sizeOf90
  v51 := Tryd.zeroValue90
  t146 := Tryd.underlying91
  a146 := Tryd.isAgg91
  z146 := Tryd.sizeOf91
  v146 := Tryd.zeroValue91
  g1 := by kernel_rfl }
open Go.RowKit Go.Lib in
/-- strings.Count AT A substr OF ONE BYTE ('hp'): "Count counts the number of non-overlapping instances of substr in s.": IT RETURNS 'Lib.countByte s (that byte)'; the world is as it was. ✋ NO CONTRACT HERE YET at an empty substr (utf8.RuneCountInString) or at a longer one (a loop over strings.Index). (LAID: no walk: one application.) -/
theorem Tryd.strings_Count_one (s : ByteArray) (c : UInt8) (w : World) :
    Calls Tryd.prog 60 #[.string s, .string ⟨#[c]⟩] w fun e w' => e = .returned (.int .i64 (Lib.countByte s.data.toList c)) ∧ w' = w := Any.strings_Count_one Tryd.lays138 s c w
def Tryd.lays99_ren : Go.Shelf.Ren := ⟨fun | 99 => 46 | 206 => 61 | n => n, fun | 9 => 9 | 4 => 4 | 3 => 3 | n => n, fun | n => n⟩
theorem Tryd.lays99 : Go.Proofs.Lays.n99 Tryd.prog Tryd.lays99_ren := {
  mixed := by kernel_rfl
  f99 := Tryd.func46.trans (congrArg some (by kernel_rfl))
  f206 := Tryd.func61.trans (congrArg some (by kernel_rfl))
  t3 := Tryd.underlying3
  a3 := Tryd.isAgg3
  z3 := Tryd.sizeOf3
  v3 := Tryd.zeroValue3
  t4 := Tryd.underlying4
  a4 := Tryd.isAgg4
  z4 := Tryd.sizeOf4
  v4 := Tryd.zeroValue4
  t9 := Tryd.underlying9
  a9 := Tryd.isAgg9
  z9 := Tryd.sizeOf9
  v9 := Tryd.zeroValue9 }
open Go.RowKit Go.Lib in
/-- strings.HasPrefix: "HasPrefix reports whether the string s begins with prefix.": IT RETURNS 'Lib.hasPrefix s prefix'; the world is as it was. (LAID: no walk: one application.) -/
theorem Tryd.strings_HasPrefix (s p : ByteArray) (w : World) :
    Calls Tryd.prog 46 #[.string s, .string p] w fun e w' => e = .returned (.bool (Lib.hasPrefix s.data.toList p.data.toList)) ∧ w' = w := Any.strings_HasPrefix Tryd.lays99 s p w
def Tryd.lays100_ren : Go.Shelf.Ren := ⟨fun | 100 => 47 | 207 => 62 | n => n, fun | 9 => 9 | 4 => 4 | 3 => 3 | n => n, fun | n => n⟩
theorem Tryd.lays100 : Go.Proofs.Lays.n100 Tryd.prog Tryd.lays100_ren := {
  mixed := by kernel_rfl
  f100 := Tryd.func47.trans (congrArg some (by kernel_rfl))
  f207 := Tryd.func62.trans (congrArg some (by kernel_rfl))
  t3 := Tryd.underlying3
  a3 := Tryd.isAgg3
  z3 := Tryd.sizeOf3
  v3 := Tryd.zeroValue3
  t4 := Tryd.underlying4
  a4 := Tryd.isAgg4
  z4 := Tryd.sizeOf4
  v4 := Tryd.zeroValue4
  t9 := Tryd.underlying9
  a9 := Tryd.isAgg9
  z9 := Tryd.sizeOf9
  v9 := Tryd.zeroValue9 }
open Go.RowKit Go.Lib in
/-- strings.HasSuffix: "HasSuffix reports whether the string s ends with suffix.": IT RETURNS 'Lib.hasSuffix s suffix'; the world is as it was. ('hs': no Go string is longer: a caller has it of every string that it was handed.) (LAID: no walk: one application.) -/
theorem Tryd.strings_HasSuffix (s p : ByteArray) (w : World) (hs : s.size ≤ 9223372036854775807) :
    Calls Tryd.prog 47 #[.string s, .string p] w fun e w' => e = .returned (.bool (Lib.hasSuffix s.data.toList p.data.toList)) ∧ w' = w := Any.strings_HasSuffix Tryd.lays100 s p w hs
def Tryd.lays150_ren : Go.Shelf.Ren := ⟨fun | 150 => 33 | 153 => 50 | 152 => 63 | 226 => 64 | 227 => 65 | 228 => 66 | 137 => 75 | 119 => 76 | 224 => 70 | 225 => 69 | 217 => 68 | 266 => 77 | n => n, fun | 9 => 9 | 4 => 4 | 3 => 3 | 5 => 5 | 21 => 21 | 117 => 81 | 116 => 80 | 0 => 0 | 46 => 83 | 124 => 88 | n => n, fun | n => n⟩
theorem Tryd.lays150 : Go.Proofs.Lays.n150 Tryd.prog Tryd.lays150_ren := {
  mixed := by kernel_rfl
  f119 := Tryd.func76.trans (congrArg some (by kernel_rfl))
  f137 := Tryd.func75.trans (congrArg some (by kernel_rfl))
  f150 := Tryd.func33.trans (congrArg some (by kernel_rfl))
  f152 := Tryd.func63.trans (congrArg some (by kernel_rfl))
  f153 := Tryd.func50.trans (congrArg some (by kernel_rfl))
  f217 := Tryd.func68.trans (congrArg some (by kernel_rfl))
  f224 := Tryd.func70.trans (congrArg some (by kernel_rfl))
  f225 := Tryd.func69.trans (congrArg some (by kernel_rfl))
  f226 := Tryd.func64.trans (congrArg some (by kernel_rfl))
  f227 := Tryd.func65.trans (congrArg some (by kernel_rfl))
  f228 := Tryd.func66.trans (congrArg some (by kernel_rfl))
  f266 := Tryd.func77.trans (congrArg some (by kernel_rfl))
  t0 := Tryd.underlying0
  a0 := Tryd.isAgg0
  z0 := Tryd.sizeOf0
  v0 := Tryd.zeroValue0
  t3 := Tryd.underlying3
  a3 := Tryd.isAgg3
  z3 := Tryd.sizeOf3
  v3 := Tryd.zeroValue3
  t4 := Tryd.underlying4
  a4 := Tryd.isAgg4
  z4 := Tryd.sizeOf4
  v4 := Tryd.zeroValue4
  t5 := Tryd.underlying5
  a5 := Tryd.isAgg5
  z5 := Tryd.sizeOf5
  v5 := Tryd.zeroValue5
  t9 := Tryd.underlying9
  a9 := Tryd.isAgg9
  z9 := Tryd.sizeOf9
  v9 := Tryd.zeroValue9
  t21 := Tryd.underlying21
  a21 := Tryd.isAgg21
  z21 := Tryd.sizeOf21
  v21 := Tryd.zeroValue21
  t46 := Tryd.underlying83
  a46 := Tryd.isAgg83
  z46 := Tryd.sizeOf83
  v46 := Tryd.zeroValue83
  t116 := Tryd.underlying80
  a116 := Tryd.isAgg80
  z116 := Tryd.sizeOf80
  t117 := Tryd.underlying81
  a117 := Tryd.isAgg81
  z117 := Tryd.sizeOf81
  v117 := Tryd.zeroValue81
  t124 := Tryd.underlying88
  a124 := Tryd.isAgg88
  z124 := Tryd.sizeOf88
  v124 := Tryd.zeroValue88 }
open Go.RowKit Go.Lib in
theorem Tryd.strings_ContainsAny_laid (s chars : ByteArray) (w : World) (hs : s.size < 4294967281) (hcs : chars.size < 4294967281) (has : ∀ (j : Nat) b, s.data.toList[j]? = some b → b.toNat < 128) (hac : ∀ (j : Nat) b, chars.data.toList[j]? = some b → b.toNat < 128) :
    Calls Tryd.prog 33 #[.string s, .string chars] w fun e w' => e = .returned (.bool (Lib.containsAny s.data.toList chars.data.toList)) ∧ Below w.heap.size w w' := Any.strings_ContainsAny_laid Tryd.lays150 (by kernel_rfl) s chars w hs hcs has hac
def Tryd.laysNm216_ren : Go.Shelf.Ren := ⟨fun | 16 => 41 | n => n, fun | 24 => 35 | 9 => 9 | 4 => 4 | n => n, fun | n => n⟩
theorem Tryd.laysNm216 : Go.Proofs.Lays2.n16 Tryd.prog Tryd.laysNm216_ren := {
  mixed := by kernel_rfl
  f16 := Tryd.func41.trans (congrArg some (by kernel_rfl))
  t4 := Tryd.underlying4
  a4 := Tryd.isAgg4
  z4 := Tryd.sizeOf4
  v4 := Tryd.zeroValue4
  t9 := Tryd.underlying9
  a9 := Tryd.isAgg9
  z9 := Tryd.sizeOf9
  v9 := Tryd.zeroValue9
  t24 := Tryd.underlying35
  a24 := Tryd.isAgg35
  z24 := Tryd.sizeOf35
  v24 := Tryd.zeroValue35
  i9 := by kernel_rfl }
open Go.RowKit Go.Lib in
/-- slices.Clone at []string: "Clone returns a copy of the slice. The elements are copied using assignment, so this is a shallow clone. The result may have additional unused capacity. The result preserves the nilness of s.": OF A SLICE THAT IS NOT nil IT RETURNS A SLICE THAT IS NOT nil, OF THE SAME ELEMENTS, IN MEMORY OF THE CALL's OWN: in the how-to's words (6f): 'w'.ownsRow B e 1 v' n cells': v' begins at the head of a row among the blocks from B on (B: the heap's size at the call), not frozen, whose first cells are the elements · 'Below B w w'': below B all is as it was. The capacity is whatever the run-time gives. 'zs': what the cells behind the slice's address hold; 'zs.take n': its elements. (LAID: no walk: one application.) -/
theorem Tryd.slices_Clone_string (b off n c : Nat) (zs : List ByteArray) (w : World) (hz : n ≤ zs.length) (hbig : n * 16 ≤ 140737488355328) (hc : ∀ j, j < zs.length → w.cell? ⟨b, off + j, none⟩ = some (.string (zs.getD j ByteArray.empty))) :
    Calls Tryd.prog 41 #[.slice (some ⟨b, off, none⟩) n c] w fun e w' => ∃ v', e = .returned v' ∧ w'.ownsRow w.heap.size 9 1 v' n ((zs.take n).map (Value.string)) ∧ v' ≠ .slice none 0 0 ∧ Below w.heap.size w w' := Any.slices_Clone_string Tryd.laysNm216 b off n c zs w hz hbig hc
open Go.RowKit Go.Lib in
/-- The same at nil: nil comes back; the world is as it was. (LAID: no walk: one application.) -/
theorem Tryd.slices_Clone_string_nil (n c : Nat) (w : World) :
    Calls Tryd.prog 41 #[.slice none n c] w fun e w' => e = .returned (.slice none 0 0) ∧ w' = w := Any.slices_Clone_string_nil Tryd.laysNm216 n c w
open Go.RowKit Go.Lib in
/-- The same at a slice of length 0 that is not nil, WHATEVER ITS ADDRESS (no cell is asked for): a slice that is not nil and owns nothing comes back. (LAID: no walk: one application.) -/
theorem Tryd.slices_Clone_string_zero (a : Addr) (c : Nat) (w : World) :
    Calls Tryd.prog 41 #[.slice (some a) 0 c] w fun e w' => ∃ v', e = .returned v' ∧ w'.ownsRow w.heap.size 9 1 v' 0 [] ∧ v' ≠ .slice none 0 0 ∧ Below w.heap.size w w' := Any.slices_Clone_string_zero Tryd.laysNm216 a c w
end Go.Proofs
