/-
  Names of references, packed references, looking up: over lists.
-/
import Derived.Test.YtjoomlpocpdonaaGreatDoorJRSnF
import Derived.Test.YtjoomlpocpdonaaGreatDoorIdA
import Derived.Lib.IndexAny
import Derived.Maps.OwnSet
import Derived.Maps.RangeWalk
namespace Go.Proofs.YtjoomlpocpdonaaGreatDoor
open Go.RowKit

def headL : List UInt8 := [72, 69, 65, 68]
def folderL : List UInt8 := [114, 101, 102, 115, 47]
def lockL : List UInt8 := [46, 108, 111, 99, 107]
def barL : List UInt8 := [32, 126, 94, 58, 63, 42, 91, 92]
def noBar (l : List UInt8) : Bool := l.all fun c => !barL.contains c
def plainN (l : List UInt8) : Bool := noBar l && (!Lib.contains l [46, 46] && !Lib.contains l [64, 123] && !Lib.hasSuffix l [46])
def partN (p : List UInt8) : Bool := !Lib.hasPrefix p [46] && !Lib.hasSuffix p lockL
def wholeN (l : List UInt8) : Bool := (partsL l).all partN
def restN (l : List UInt8) : Bool := Lib.hasPrefix l folderL && cleanL l && plainN l && wholeN l
def nameL (l : List UInt8) : Bool := decide (l = headL) || restN l
theorem suffix_app (l m : List UInt8) : Lib.hasSuffix (l ++ m) m = true := by
  unfold Lib.hasSuffix
  exact List.isSuffixOf_iff_suffix.2 ⟨l, rfl⟩
theorem suffix_one (l : List UInt8) (c : UInt8) : Lib.hasSuffix l [c] = (l.getLast? == some c) := by
  unfold Lib.hasSuffix
  rcases List.eq_nil_or_concat l with rfl | ⟨I, x, rfl⟩
  · rfl
  · rw [List.concat_eq_append, List.getLast?_append]
    simp only [List.getLast?_singleton, Option.some_or]
    by_cases hx : x = c
    · subst hx
      rw [List.isSuffixOf_iff_suffix.2 ⟨I, rfl⟩]
      simp
    · rw [show (some x == some c) = false by simpa using hx]
      apply Bool.eq_false_iff.2
      intro h
      obtain ⟨t, ht⟩ := List.isSuffixOf_iff_suffix.1 h
      have := congrArg List.getLast? ht
      simp at this
      exact hx this.symm
theorem noBar_app (a b : List UInt8) : noBar (a ++ b) = (noBar a && noBar b) := by unfold noBar; exact List.all_append
theorem name_size {l : List UInt8} (h : nameL l = true) : l.length ≤ 200 := by
  unfold nameL at h
  rcases (Bool.or_eq_true _ _ ▸ h) with h | h
  · rw [of_decide_eq_true h]; decide
  · unfold restN at h
    simp only [Bool.and_eq_true] at h
    exact (cleanL_iff.1 h.1.1.2).1
/-! rows -/
structure RowR where
  name : List UInt8
  id : List UInt8
  peeled : List UInt8
def lastR (rows : List RowR) : List UInt8 :=
  match rows.getLast? with
  | some r => if r.peeled = [] then r.name else []
  | none => []
def peelR (rows : List RowR) (p : List UInt8) : List RowR :=
  match rows.getLast? with
  | some r => rows.dropLast ++ [⟨r.name, r.id, p⟩]
  | none => []
def idP (l : List UInt8) : List UInt8 := l.takeWhile (· != 32)
def nmP (l : List UInt8) : List UInt8 := (l.dropWhile (· != 32)).drop 1
def badP (l : List UInt8) : Bool := !idB (idP l) || (!nameL (nmP l) || decide (nmP l = headL))
def stepR (rows : List RowR) (l : List UInt8) : Nat × List RowR :=
  if Lib.hasPrefix l [35] = true then (0, rows)
  else if Lib.hasPrefix l [94] = true then (if lastR rows = [] ∨ idB (l.drop 1) = false then (3, rows) else (0, peelR rows (l.drop 1)))
  else if badP l = true then (3, rows)
  else if rows.any (fun r => r.name == nmP l) = true then (4, rows)
  else if rows.length = 2000 then (2, rows)
  else (0, rows ++ [⟨nmP l, idP l, []⟩])
def parseR : Nat → List RowR → List UInt8 → Nat × List RowR
  | 0, rows, _ => (0, rows)
  | n + 1, rows, t =>
    if t = [] then (0, rows)
    else if t.contains 10 = false then (3, rows)
    else if (stepR rows (t.takeWhile (· != 10))).1 = 0 then parseR n (stepR rows (t.takeWhile (· != 10))).2 ((t.dropWhile (· != 10)).drop 1)
    else ((stepR rows (t.takeWhile (· != 10))).1, rows)
theorem index_one (c : UInt8) : ∀ l, Lib.index l [c] = if l.contains c then ((l.takeWhile (· != c)).length : Int) else -1 := by
  intro l
  induction l with
  | nil => rfl
  | cons x l ih =>
    unfold Lib.index
    by_cases hx : x = c
    · subst hx
      rw [if_pos (by simp [List.isPrefixOf]), if_pos (by simp)]
      simp
    · rw [if_neg (by simp [List.isPrefixOf]; exact Ne.symm hx), ih]
      have hb : (x != c) = true := by simpa using hx
      have hcc : (x :: l).contains c = l.contains c := by
        rw [List.contains_cons, beq_false_of_ne (Ne.symm hx), Bool.false_or]
      rw [hcc, List.takeWhile_cons, if_pos hb]
      by_cases hc : l.contains c = true
      · simp only [hc, if_true]
        rw [if_neg (by intro e; have := beq_iff_eq.1 e; omega)]
        simp
      · simp only [hc]
        rfl
theorem drop_take_while (p : UInt8 → Bool) : ∀ l : List UInt8, l.drop (l.takeWhile p).length = l.dropWhile p := by
  intro l
  induction l with
  | nil => rfl
  | cons x l ih =>
    rw [List.takeWhile_cons, List.dropWhile_cons]
    by_cases h : p x = true
    · rw [if_pos h, if_pos h, List.length_cons, List.drop_succ_cons, ih]
    · rw [if_neg h, if_neg h]; rfl
theorem take_take_while (p : UInt8 → Bool) (l : List UInt8) : l.take (l.takeWhile p).length = l.takeWhile p := by
  have h : l.takeWhile p ++ l.dropWhile p = l := List.takeWhile_append_dropWhile
  calc l.take (l.takeWhile p).length = (l.takeWhile p ++ l.dropWhile p).take (l.takeWhile p).length := by rw [h]
    _ = l.takeWhile p := List.take_left' rfl
theorem take_while_none {c : UInt8} {l : List UInt8} (h : l.contains c = false) : l.takeWhile (· != c) = l ∧ l.dropWhile (· != c) = [] := by
  induction l with
  | nil => exact ⟨rfl, rfl⟩
  | cons x l ih =>
    simp only [List.contains_cons, Bool.or_eq_false_iff] at h
    have hb : (x != c) = true := by
      have := h.1
      simp at this ⊢
      exact Ne.symm this
    rw [List.takeWhile_cons, if_pos hb, List.dropWhile_cons, if_pos hb, (ih h.2).1, (ih h.2).2]
    exact ⟨rfl, rfl⟩
theorem drop_while_some {c : UInt8} {l : List UInt8} (h : l.contains c = true) : l.dropWhile (· != c) = c :: (l.dropWhile (· != c)).drop 1 := by
  induction l with
  | nil => simp at h
  | cons x l ih =>
    rw [List.dropWhile_cons]
    by_cases hx : x = c
    · subst hx; simp
    · have hb : (x != c) = true := by simpa using hx
      rw [if_pos hb]
      apply ih
      simp at h ⊢
      rcases h with h | h
      · exact absurd h.symm hx
      · exact h
theorem cut_one (l : List UInt8) (c : UInt8) : Lib.cut l [c] = (l.takeWhile (· != c), (l.dropWhile (· != c)).drop 1, l.contains c) := by
  unfold Lib.cut
  rw [index_one]
  by_cases hc : l.contains c = true
  · rw [if_pos hc, if_pos (by omega), Int.toNat_natCast, take_take_while, hc, List.length_singleton, ← List.drop_drop, drop_take_while]
  · have hc := Bool.eq_false_iff.2 hc
    rw [hc, (take_while_none hc).1, (take_while_none hc).2]; rfl
theorem drop_while_size (p : UInt8 → Bool) (l : List UInt8) : (l.dropWhile p).length ≤ l.length := by
  have h := congrArg List.length (List.takeWhile_append_dropWhile (p := p) (l := l))
  rw [List.length_append] at h
  omega
theorem rest_less {t : List UInt8} (h : t ≠ []) : ((t.dropWhile (· != 10)).drop 1).length < t.length := by
  have := drop_while_size (· != 10) t
  have h0 : 0 < t.length := List.length_pos_iff.2 h
  rw [List.length_drop]
  omega
theorem last_snoc (rows : List RowR) (r : RowR) : lastR (rows ++ [r]) = if r.peeled = [] then r.name else [] := by
  unfold lastR
  rw [List.getLast?_append]; rfl
theorem peel_snoc (rows : List RowR) (r : RowR) (p : List UInt8) : peelR (rows ++ [r]) p = rows ++ [⟨r.name, r.id, p⟩] := by
  unfold peelR
  rw [List.getLast?_append]
  simp
structure RowsOk (rows : List RowR) : Prop where
  apart : rows.Pairwise fun a b => a.name ≠ b.name
  named : ∀ r ∈ rows, nameL r.name = true ∧ r.name ≠ headL
  sized : ∀ r ∈ rows, r.id.length = 40 ∧ r.peeled.length ≤ 40
  len : rows.length ≤ 2000
theorem RowsOk.nil : RowsOk [] := ⟨List.Pairwise.nil, fun _ h => absurd h List.not_mem_nil, fun _ h => absurd h List.not_mem_nil, Nat.zero_le _⟩
theorem idB_size {l : List UInt8} (h : idB l = true) : l.length = 40 := by
  unfold idB at h
  simp only [Bool.and_eq_true, decide_eq_true_eq] at h
  exact h.2
theorem name_ne {l : List UInt8} (h : nameL l = true) : l ≠ [] := by
  rintro rfl
  exact absurd h (by decide)
theorem any_name {rows : List RowR} {k : List UInt8} : rows.any (fun r => r.name == k) = false ↔ ∀ r ∈ rows, r.name ≠ k := by
  rw [List.any_eq_false]
  simp
theorem step_ok {rows : List RowR} (h : RowsOk rows) (l : List UInt8) : RowsOk (stepR rows l).2 := by
  unfold stepR
  split
  · exact h
  split
  · split
    · exact h
    · rename_i h1
      rw [not_or] at h1
      rcases List.eq_nil_or_concat rows with rfl | ⟨I, r, rfl⟩
      · exact absurd rfl h1.1
      · rw [List.concat_eq_append] at h h1 ⊢
        show RowsOk (peelR (I ++ [r]) (l.drop 1))
        rw [peel_snoc]
        have hi : idB (l.drop 1) = true := by
          cases hq : idB (l.drop 1) with
          | true => rfl
          | false => exact absurd hq h1.2
        have hr := h.named r (by simp)
        have hz := h.sized r (by simp)
        refine ⟨?_, ?_, ?_, ?_⟩
        · have := h.apart
          rw [List.pairwise_append] at this ⊢
          exact ⟨this.1, List.pairwise_singleton _ _, fun a ha b hb => by
            obtain rfl := List.mem_singleton.1 hb
            exact this.2.2 a ha r (by simp)⟩
        · intro x hx
          rcases List.mem_append.1 hx with hx | hx
          · exact h.named x (List.mem_append_left _ hx)
          · obtain rfl := List.mem_singleton.1 hx; exact hr
        · intro x hx
          rcases List.mem_append.1 hx with hx | hx
          · exact h.sized x (List.mem_append_left _ hx)
          · obtain rfl := List.mem_singleton.1 hx; exact ⟨hz.1, by rw [idB_size hi]; exact Nat.le_refl _⟩
        · have := h.len
          simp at this ⊢
          exact this
  split
  · exact h
  rename_i hbad
  split
  · exact h
  rename_i hno
  split
  · exact h
  rename_i hlen
  have hb : badP l = false := Bool.eq_false_iff.2 hbad
  unfold badP at hb
  simp only [Bool.or_eq_false_iff, Bool.not_eq_false', decide_eq_false_iff_not] at hb
  have hn := any_name.1 (Bool.eq_false_iff.2 hno)
  refine ⟨?_, ?_, ?_, ?_⟩
  · rw [List.pairwise_append]
    refine ⟨h.apart, List.pairwise_singleton _ _, fun a ha b hb => ?_⟩
    obtain rfl := List.mem_singleton.1 hb
    exact hn a ha
  · intro x hx
    rcases List.mem_append.1 hx with hx | hx
    · exact h.named x hx
    · obtain rfl := List.mem_singleton.1 hx; exact ⟨hb.2.1, hb.2.2⟩
  · intro x hx
    rcases List.mem_append.1 hx with hx | hx
    · exact h.sized x hx
    · obtain rfl := List.mem_singleton.1 hx; exact ⟨idB_size hb.1, Nat.zero_le _⟩
  · have := h.len
    rw [List.length_append, List.length_singleton]
    show rows.length + 1 ≤ 2000
    omega
theorem parse_ok : ∀ (n : Nat) {rows : List RowR} (t : List UInt8), RowsOk rows → RowsOk (parseR n rows t).2 := by
  intro n
  induction n with
  | zero => intro rows t h; exact h
  | succ n ih =>
    intro rows t h
    unfold parseR
    split
    · exact h
    split
    · exact h
    split
    · exact ih _ (step_ok h _)
    · exact h
def parsed (t : List UInt8) : Nat × List RowR := parseR t.length [] t
theorem bad_at (l : List UInt8) : badP l = true ↔ (l.length < 41 ∨ l[40]? ≠ some 32 ∨ idB (l.take 40) = false ∨ nameL (l.drop 41) = false ∨ l.drop 41 = headL) := by
  have hsplit : l.takeWhile (· != 32) ++ l.dropWhile (· != 32) = l := List.takeWhile_append_dropWhile
  by_cases hb : badP l = true
  · rw [hb]
    simp only [true_iff]
    apply Classical.byContradiction
    intro hno
    simp only [not_or, Classical.not_not, Bool.not_eq_false, Nat.not_lt] at hno
    obtain ⟨h1, h2, h3, h4, h5⟩ := hno
    have hall : ∀ x ∈ l.take 40, (x != 32) = true := by
      intro x hx
      unfold idB at h3
      simp only [Bool.and_eq_true, List.all_eq_true] at h3
      have := h3.1 x hx
      simp only [bne_iff_ne, ne_eq]
      rintro rfl
      exact absurd this (by decide)
    have hd : l.drop 40 = 32 :: l.drop 41 := by
      rw [List.drop_eq_getElem_cons (by omega)]
      congr 1
      rw [List.getElem?_eq_getElem (by omega)] at h2
      exact Option.some.inj h2
    have he : l = l.take 40 ++ 32 :: l.drop 41 := by rw [← hd, List.take_append_drop]
    have et : idP l = l.take 40 ∧ nmP l = l.drop 41 := by
      unfold idP nmP
      generalize l.take 40 = T at *
      generalize l.drop 41 = D at *
      subst he
      rw [List.takeWhile_append_of_pos hall, List.dropWhile_append_of_pos hall]
      simp
    unfold badP at hb
    rw [et.1, et.2, h3, h4, decide_eq_false h5] at hb
    exact absurd hb (by decide)
  · rw [Bool.eq_false_iff.2 hb]
    simp only [Bool.false_eq_true, false_iff, not_or, Classical.not_not, Bool.not_eq_false, Nat.not_lt]
    have hb := Bool.eq_false_iff.2 hb
    unfold badP at hb
    simp only [Bool.or_eq_false_iff, Bool.not_eq_false', decide_eq_false_iff_not] at hb
    obtain ⟨h1, h2, h3⟩ := hb
    have hl : (l.takeWhile (· != 32)).length = 40 := idB_size h1
    have hc : l.contains 32 = true := by
      cases hq : l.contains 32 with
      | true => rfl
      | false =>
        have := (take_while_none hq).2
        unfold nmP at h2
        rw [this] at h2
        exact absurd h2 (by decide)
    have hd := drop_while_some hc
    have he : l = idP l ++ 32 :: nmP l := by
      unfold idP nmP
      rw [← hd, hsplit]
    generalize hI : idP l = I at *
    generalize hN : nmP l = N at *
    have hl2 : I.length = 40 := by rw [← hI]; exact hl
    clear hsplit hd hl
    subst he
    refine ⟨by simp; omega, ?_, ?_, ?_, ?_⟩
    · rw [List.getElem?_append_right (by omega), hl2]; rfl
    · rw [List.take_left' hl2]; exact h1
    · rw [show 41 = I.length + 1 by omega, ← List.drop_drop, List.drop_left]; exact h2
    · rw [show 41 = I.length + 1 by omega, ← List.drop_drop, List.drop_left]; exact h3
theorem bad_split {l : List UInt8} (hb : badP l = false) : idP l = l.take 40 ∧ nmP l = l.drop 41 := by
  unfold badP at hb
  simp only [Bool.or_eq_false_iff, Bool.not_eq_false', decide_eq_false_iff_not] at hb
  have hl : (l.takeWhile (· != 32)).length = 40 := idB_size hb.1
  unfold idP nmP
  rw [← take_take_while, ← drop_take_while, hl, List.drop_drop]
  exact ⟨rfl, rfl⟩
/-! the map -/
def encR (i p : List UInt8) : DataW Unit := .agg [.lit (.string i), .lit (.string p)]
structure MapOf (D : DataW Unit) (rows : List RowR) : Prop where
  tidy : Maps.Tidy D
  has : ∀ k, Maps.has D (.string k) = rows.any (fun r => r.name == k)
  look : ∀ r ∈ rows, ∀ z, D.atKey (.string r.name) z = encR r.id r.peeled
  size : Maps.size D = rows.length
theorem MapOf.nil : MapOf (.map []) [] := ⟨Maps.tidy_empty, fun _ => rfl, fun _ h => absurd h List.not_mem_nil, rfl⟩
theorem MapOf.push {D : DataW Unit} {rows : List RowR} (h : MapOf D rows) (n i : List UInt8) (hn : rows.any (fun r => r.name == n) = false) : MapOf (D.put (.string n) (encR i [])) (rows ++ [⟨n, i, []⟩]) := by
  have hk : WideAt.IsKeyLit (.string n) := trivial
  refine ⟨h.tidy.put hk _, fun k => ?_, fun r hr z => ?_, ?_⟩
  · rw [List.any_append]
    by_cases he : k = n
    · subst he
      rw [Maps.has_put_same h.tidy.isMap hk]
      simp
    · rw [Maps.has_put_other (fun e => he (Lit.string.inj e)), h.has k]
      simp [Ne.symm he]
  · rcases List.mem_append.1 hr with hr | hr
    · rw [Maps.atKey_put_other (fun e => any_name.1 hn r hr (Lit.string.inj e)), h.look r hr z]
    · obtain rfl := List.mem_singleton.1 hr
      rw [Maps.atKey_put_same h.tidy.isMap hk]
  · rw [Maps.size_put h.tidy, h.has, hn, if_neg Bool.false_ne_true, h.size]
    simp
theorem MapOf.peel {D : DataW Unit} {rows : List RowR} {r : RowR} (h : MapOf D (rows ++ [r])) (hk : ∀ x ∈ rows, x.name ≠ r.name) (p : List UInt8) : MapOf (D.put (.string r.name) (encR r.id p)) (rows ++ [⟨r.name, r.id, p⟩]) := by
  have hkk : WideAt.IsKeyLit (.string r.name) := trivial
  have hh : ∀ k, (rows ++ [(⟨r.name, r.id, p⟩ : RowR)]).any (fun x => x.name == k) = (rows ++ [r]).any (fun x => x.name == k) := fun k => by rw [List.any_append, List.any_append]; rfl
  refine ⟨h.tidy.put hkk _, fun k => ?_, fun x hx z => ?_, ?_⟩
  · rw [hh]
    by_cases he : k = r.name
    · subst he
      rw [Maps.has_put_same h.tidy.isMap hkk]
      simp
    · rw [Maps.has_put_other (fun e => he (Lit.string.inj e)), h.has k]
  · rcases List.mem_append.1 hx with hx | hx
    · rw [Maps.atKey_put_other (fun e => hk x hx (Lit.string.inj e)), h.look x (List.mem_append_left _ hx) z]
    · obtain rfl := List.mem_singleton.1 hx
      rw [Maps.atKey_put_same h.tidy.isMap hkk]
  · rw [Maps.size_put h.tidy, h.has]
    rw [if_pos (by simp), h.size]
    simp
theorem MapOf.miss {D : DataW Unit} {rows : List RowR} (h : MapOf D rows) {k : List UInt8} (hn : rows.any (fun r => r.name == k) = false) (z : DataW Unit) : D.atKey (.string k) z = z :=
  Maps.atKey_of_not_has (by rw [h.has k, hn]) z
/-! looking up -/
def leadL : List UInt8 := [114, 101, 102, 58, 32]
def readL (d : List UInt8) : Nat × List UInt8 × List UInt8 :=
  if Lib.hasSuffix d [10] = false then (3, [], [])
  else if idB d.dropLast = true then (0, d.dropLast, [])
  else if Lib.hasPrefix d.dropLast leadL = true ∧ nameL (d.dropLast.drop 5) = true then (0, [], d.dropLast.drop 5)
  else (3, [], [])
def unpR (rows : List RowR) (n : List UInt8) : Nat × List UInt8 :=
  match rows.find? (fun r => r.name == n) with
  | some r => (0, r.id)
  | none => (7, [])
def goL (g : List UInt8 → Option (List UInt8)) (rows : List RowR) : Nat → List UInt8 → Nat × List UInt8
  | 0, _ => (9, [])
  | k + 1, n =>
    match g n with
    | none => unpR rows n
    | some d => if (readL d).1 = 0 ∧ (readL d).2.2 ≠ [] then goL g rows k (readL d).2.2 else ((readL d).1, (readL d).2.1)
def lookL (g : List UInt8 → Option (List UInt8)) (rows : List RowR) (n : List UInt8) : Nat × List UInt8 :=
  if nameL n = true then goL g rows 6 n else (4, [])
def peeledL (g : List UInt8 → Option (List UInt8)) (rows : List RowR) (n : List UInt8) : List UInt8 :=
  match g n with
  | some _ => []
  | none => match rows.find? (fun r => r.name == n) with
    | some r => r.peeled
    | none => []
theorem read_err {d : List UInt8} (h : (readL d).1 ≠ 0) : readL d = (3, [], []) := by
  unfold readL at h ⊢
  split
  · rfl
  split
  · rename_i h1 h2; rw [if_neg h1, if_pos h2] at h; exact absurd rfl h
  split
  · rename_i h1 h2 h3; rw [if_neg h1, if_neg h2, if_pos h3] at h; exact absurd rfl h
  · rfl
theorem read_next {d : List UInt8} (h : (readL d).2.2 ≠ []) : (readL d).1 = 0 ∧ nameL (readL d).2.2 = true := by
  unfold readL at h ⊢
  split
  · rename_i h1; rw [if_pos h1] at h; exact absurd rfl h
  split
  · rename_i h1 h2; rw [if_neg h1, if_pos h2] at h; exact absurd rfl h
  split
  · rename_i h1 h2 h3; exact ⟨rfl, h3.2⟩
  · rename_i h1 h2 h3; rw [if_neg h1, if_neg h2, if_neg h3] at h; exact absurd rfl h
theorem suffix_split {d : List UInt8} {c : UInt8} (h : Lib.hasSuffix d [c] = true) : d = d.dropLast ++ [c] := by
  rcases List.eq_nil_or_concat d with rfl | ⟨I, x, rfl⟩
  · exact absurd h (by simp [Lib.hasSuffix])
  · rw [suffix_one] at h
    simp at h
    subst h
    simp
theorem find_name {rows : List RowR} {n : List UInt8} {r : RowR} (h : rows.find? (fun r => r.name == n) = some r) : r ∈ rows ∧ r.name = n :=
  ⟨List.mem_of_find?_eq_some h, by have := List.find?_some h; simpa using this⟩
theorem find_any (rows : List RowR) (n : List UInt8) : rows.any (fun r => r.name == n) = (rows.find? (fun r => r.name == n)).isSome := by
  induction rows with
  | nil => rfl
  | cons r rows ih =>
    rw [List.any_cons, List.find?_cons]
    cases h : r.name == n with
    | true => rfl
    | false => simpa using ih
/-! hops (for seat D) -/
def idH : List UInt8 := [52,98,56,50,53,100,99,54,52,50,99,98,54,101,98,57,97,48,54,48,101,53,52,98,102,56,100,54,57,50,56,56,102,98,101,101,52,57,48,52]
end Go.Proofs.YtjoomlpocpdonaaGreatDoor
