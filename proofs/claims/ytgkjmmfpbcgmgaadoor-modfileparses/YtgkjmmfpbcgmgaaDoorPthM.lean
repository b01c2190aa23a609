/-
  Paths of modules and of files, over lists of bytes.
-/
import Derived.ProofKit
import Derived.Lib.IndexMore
import Derived.Lib.IndexAny
namespace Go.Proofs.YtgkjmmfpbcgmgaaDoor

/-- the parts between the slashes -/
def partsL : List UInt8 → List (List UInt8)
  | [] => [[]]
  | c :: l => if c = 47 then [] :: partsL l else match partsL l with
    | h :: t => (c :: h) :: t
    | [] => [[c]]
theorem partsL_ne (l : List UInt8) : partsL l ≠ [] := by
  cases l with
  | nil => simp [partsL]
  | cons c l =>
    unfold partsL
    split
    · simp
    · split <;> simp
theorem partsL_cons (c : UInt8) (l : List UInt8) : partsL (c :: l) = if c = 47 then [] :: partsL l else match partsL l with
    | h :: t => (c :: h) :: t
    | [] => [[c]] := rfl
theorem partsL_app (a b : List UInt8) : partsL (a ++ 47 :: b) = partsL a ++ partsL b := by
  induction a with
  | nil => simp [partsL]
  | cons c a ih =>
    rw [List.cons_append, partsL_cons, partsL_cons c a]
    by_cases hc : c = 47
    · rw [if_pos hc, if_pos hc, ih]; rfl
    · rw [if_neg hc, if_neg hc, ih]
      cases hp : partsL a with
      | nil => exact absurd hp (partsL_ne a)
      | cons h t => rfl
theorem partsL_none (l : List UInt8) (h : (47 : UInt8) ∉ l) : partsL l = [l] := by
  induction l with
  | nil => rfl
  | cons c l ih =>
    unfold partsL
    rw [if_neg (fun e => h (by simp [e])), ih (fun e => h (List.mem_cons_of_mem _ e))]
theorem parts_mem (l : List UInt8) (c : UInt8) (h : c ∈ l) : c = 47 ∨ ∃ p ∈ partsL l, c ∈ p := by
  induction l with
  | nil => simp at h
  | cons d l ih =>
    rw [partsL_cons]
    by_cases hd : d = 47
    · rw [if_pos hd]
      rcases List.mem_cons.1 h with rfl | h
      · exact .inl hd
      · rcases ih h with h | ⟨p, hp, hc⟩
        · exact .inl h
        · exact .inr ⟨p, List.mem_cons_of_mem _ hp, hc⟩
    · rw [if_neg hd]
      cases hp : partsL l with
      | nil => exact absurd hp (partsL_ne l)
      | cons x t =>
        simp only
        rcases List.mem_cons.1 h with rfl | h
        · exact .inr ⟨c :: x, by simp, by simp⟩
        · rcases ih h with h | ⟨p, hq, hc⟩
          · exact .inl h
          · rw [hp] at hq
            rcases List.mem_cons.1 hq with rfl | hq
            · exact .inr ⟨d :: p, by simp, List.mem_cons_of_mem _ hc⟩
            · exact .inr ⟨p, by simp [hq], hc⟩
theorem parts_sub (l : List UInt8) : ∀ p ∈ partsL l, ∀ c ∈ p, c ∈ l ∧ c ≠ 47 := by
  induction l with
  | nil => intro p hp c hc; simp [partsL] at hp; subst hp; simp at hc
  | cons d l ih =>
    intro p hp c hc
    rw [partsL_cons] at hp
    by_cases hd : d = 47
    · rw [if_pos hd] at hp
      rcases List.mem_cons.1 hp with rfl | hp
      · simp at hc
      · have := ih p hp c hc; exact ⟨List.mem_cons_of_mem _ this.1, this.2⟩
    · rw [if_neg hd] at hp
      cases hq : partsL l with
      | nil => exact absurd hq (partsL_ne l)
      | cons x t =>
        rw [hq] at hp ih
        rcases List.mem_cons.1 hp with rfl | hp
        · rcases List.mem_cons.1 hc with rfl | hc
          · exact ⟨by simp, hd⟩
          · have := ih x (by simp) c hc; exact ⟨List.mem_cons_of_mem _ this.1, this.2⟩
        · have := ih p (by simp [hp]) c hc; exact ⟨List.mem_cons_of_mem _ this.1, this.2⟩

def fstB (c : UInt8) : Bool := (decide (97 ≤ c.toNat) && decide (c.toNat ≤ 122)) || (decide (48 ≤ c.toNat) && decide (c.toNat ≤ 57)) || c.toNat == 45 || c.toNat == 46
def plnB (c : UInt8) : Bool := fstB c || (decide (65 ≤ c.toNat) && decide (c.toNat ≤ 90)) || c.toNat == 95 || c.toNat == 126
/-- something, with no full stop at either end -/
def bndL (p : List UInt8) : Bool := !p.isEmpty && !(p.head? == some 46) && !(p.getLast? == some 46)
def fstP (p : List UInt8) : Bool := bndL p && p.all fstB && p.contains 46 && !(p.head? == some 45)
def othP (p : List UInt8) : Bool := bndL p && p.all plnB
/-- is it a module's path? -/
def pathL (l : List UInt8) : Bool := decide (l.length ≤ 200) && match partsL l with
  | [] => false
  | p :: ps => fstP p && ps.all othP
theorem path_take {l : List UInt8} {i : Nat} (hi : i < l.length) (hc : l[i] = 47) (h : pathL l = true) : pathL (l.take i) = true := by
  have hl : l = l.take i ++ 47 :: l.drop (i + 1) := by
    conv => lhs; rw [← List.take_append_drop i l, List.drop_eq_getElem_cons hi, hc]
  have hp := partsL_app (l.take i) (l.drop (i + 1))
  rw [← hl] at hp
  unfold pathL at h ⊢
  rw [hp] at h
  cases hq : partsL (l.take i) with
  | nil => exact absurd hq (partsL_ne _)
  | cons x t =>
    rw [hq] at h
    simp only [List.cons_append, List.all_append, Bool.and_eq_true, decide_eq_true_eq] at h ⊢
    refine ⟨?_, h.2.1, h.2.2.1⟩
    simp; omega
theorem fst_pln {c : UInt8} (h : fstB c = true) : plnB c = true := by unfold plnB; simp [h]
theorem fst_oth {p : List UInt8} (h : fstP p = true) : othP p = true := by
  unfold fstP at h
  unfold othP
  simp only [Bool.and_eq_true] at h ⊢
  exact ⟨h.1.1.1, by rw [List.all_eq_true]; intro c hc; exact fst_pln (List.all_eq_true.1 h.1.1.2 c hc)⟩
theorem path_parts {l : List UInt8} (h : pathL l = true) : l.length ≤ 200 ∧ ∀ p ∈ partsL l, othP p = true := by
  unfold pathL at h
  cases hq : partsL l with
  | nil => exact absurd hq (partsL_ne _)
  | cons x t =>
    rw [hq] at h
    simp only [Bool.and_eq_true, decide_eq_true_eq] at h
    refine ⟨h.1, fun p hp => ?_⟩
    rcases List.mem_cons.1 hp with rfl | hp
    · exact fst_oth h.2.1
    · exact List.all_eq_true.1 h.2.2 p hp
theorem path_bytes {l : List UInt8} (h : pathL l = true) : ∀ c ∈ l, c = 47 ∨ plnB c = true := by
  intro c hc
  rcases parts_mem l c hc with h1 | ⟨p, hp, hcp⟩
  · exact .inl h1
  · have := (path_parts h).2 p hp
    unfold othP at this
    simp only [Bool.and_eq_true] at this
    exact .inr (List.all_eq_true.1 this.2 c hcp)
/-- the bytes that no file's path has -/
def barL : List UInt8 := [34, 39, 42, 60, 62, 63, 96, 124, 92, 58, 59]
theorem pln_bar {c : UInt8} (h : plnB c = true) : c ∉ barL ∧ 32 ≤ c.toNat ∧ c.toNat ≤ 126 := by
  refine ⟨fun hm => ?_, ?_⟩
  · simp only [barL, List.mem_cons, List.not_mem_nil, or_false] at hm
    rcases hm with rfl | rfl | rfl | rfl | rfl | rfl | rfl | rfl | rfl | rfl | rfl <;> exact absurd h (by decide)
  · unfold plnB fstB at h
    simp only [Bool.or_eq_true, Bool.and_eq_true, decide_eq_true_eq, beq_iff_eq] at h
    omega
/-- can each part be a name? -/
def partOk (p : List UInt8) : Bool := !(p == []) && !(p == [46]) && !(p == [46, 46])
def plainL (l : List UInt8) : Bool := l.all fun c => decide (32 ≤ c.toNat ∧ c.toNat ≤ 126)
def cleanL (l : List UInt8) : Bool := decide (l.length ≤ 200) && plainL l && (partsL l).all partOk
/-- does a part end with a full stop? -/
def stopL (l : List UInt8) : Bool := (partsL l).any fun p => p.getLast? == some 46
/-- may a file stand there? -/
def fileL (l : List UInt8) : Bool := cleanL l && !(l.any fun c => barL.contains c) && !stopL l
theorem oth_ok {p : List UInt8} (h : othP p = true) : partOk p = true ∧ (p.getLast? == some 46) = false := by
  unfold othP bndL at h
  simp only [Bool.and_eq_true, Bool.not_eq_true'] at h
  obtain ⟨⟨⟨h1, h2⟩, h3⟩, _⟩ := h
  refine ⟨?_, h3⟩
  unfold partOk
  cases p with
  | nil => simp at h1
  | cons c r =>
    have : c ≠ 46 := by simpa using h2
    simp [this]
theorem path_file {l : List UInt8} (h : pathL l = true) : fileL l = true := by
  obtain ⟨h1, h2⟩ := path_parts h
  have hb := path_bytes h
  unfold fileL cleanL stopL
  simp only [Bool.and_eq_true, decide_eq_true_eq, Bool.not_eq_true']
  refine ⟨⟨⟨⟨h1, ?_⟩, ?_⟩, ?_⟩, ?_⟩
  · unfold plainL
    rw [List.all_eq_true]
    intro c hc
    rcases hb c hc with rfl | hp
    · decide
    · simp [(pln_bar hp).2]
  · rw [List.all_eq_true]
    intro p hp
    exact (oth_ok (h2 p hp)).1
  · rw [List.any_eq_false]
    intro c hc
    rcases hb c hc with rfl | hp
    · decide
    · simpa using (pln_bar hp).1
  · rw [List.any_eq_false]
    intro p hp
    simpa using (oth_ok (h2 p hp)).2
theorem clean_ends {l : List UInt8} (h : cleanL l = true) : l ≠ [] ∧ l.head? ≠ some 47 ∧ l.getLast? ≠ some 47 := by
  unfold cleanL at h
  simp only [Bool.and_eq_true] at h
  have hp := List.all_eq_true.1 h.2
  have hne : ∀ p ∈ partsL l, p ≠ [] := fun p hm e => by
    have := hp p hm
    rw [e] at this
    simp [partOk] at this
  refine ⟨fun e => ?_, fun e => ?_, fun e => ?_⟩
  · subst e; exact hne [] (by simp [partsL]) rfl
  · cases l with
    | nil => simp at e
    | cons c r =>
      simp at e
      subst e
      exact hne [] (by rw [partsL_cons]; simp) rfl
  · obtain ⟨a, rfl⟩ : ∃ a, l = a ++ [47] := by
      obtain ⟨a, ha⟩ := List.getLast?_eq_some_iff.1 e
      exact ⟨a, ha⟩
    exact hne [] (by rw [partsL_app]; simp [partsL]) rfl
theorem stop_app (a b : List UInt8) : stopL (a ++ 47 :: b) = (stopL a || stopL b) := by
  unfold stopL; rw [partsL_app, List.any_append]
theorem cont_cons (c : UInt8) (l sub : List UInt8) : Lib.contains (c :: l) sub = (sub.isPrefixOf (c :: l) || Lib.contains l sub) := by
  unfold Lib.contains
  rw [Lib.index]
  by_cases h : sub.isPrefixOf (c :: l) = true
  · rw [if_pos h, h]; rfl
  · rw [if_neg h, Bool.eq_false_iff.2 h, Bool.false_or]
    by_cases h2 : (Lib.index l sub == -1) = true
    · rw [if_pos h2, beq_iff_eq.1 h2]
    · rw [if_neg h2]
      have : Lib.index l sub ≠ -1 := by simpa using h2
      have hge : Lib.index l sub = -1 ∨ 0 ≤ Lib.index l sub := by
        rcases Lib.index_spec l sub with ⟨h1, _⟩ | ⟨i, h1, _⟩
        · exact .inl h1
        · exact .inr (by omega)
      by_cases h3 : 0 ≤ Lib.index l sub
      · simp [h3]; omega
      · omega
theorem parts_head (l : List UInt8) : ∃ h t, partsL l = h :: t ∧ (h = [] ↔ (l ++ [47]).head? = some 47) := by
  cases l with
  | nil => exact ⟨[], [], rfl, by simp⟩
  | cons c r =>
    rw [partsL_cons]
    by_cases hc : c = 47
    · rw [if_pos hc]; exact ⟨_, _, rfl, by simp [hc]⟩
    · rw [if_neg hc]
      cases hp : partsL r with
      | nil => exact absurd hp (partsL_ne r)
      | cons h t => exact ⟨_, _, rfl, by simp [hc]⟩
theorem cont_stop : ∀ l : List UInt8, Lib.contains (l ++ [47]) [46, 47] = stopL l
  | [] => by decide
  | c :: r => by
    rw [List.cons_append, cont_cons, cont_stop r]
    obtain ⟨h, t, hp, hh⟩ := parts_head r
    have hpre : List.isPrefixOf [46, 47] (c :: (r ++ [47])) = (c == 46 && (r ++ [47]).head? == some 47) := by
      cases hr : r ++ [47] with
      | nil => simp at hr
      | cons d q =>
        simp only [List.isPrefixOf, List.head?_cons, Bool.and_true]
        rw [show ((46 : UInt8) == c) = (c == 46) from BEq.comm, show ((47 : UInt8) == d) = (d == 47) from BEq.comm]
        rfl
    rw [hpre]
    unfold stopL
    rw [partsL_cons, hp]
    by_cases hc : c = 47
    · subst hc; simp
    · rw [if_neg hc]
      simp only [List.any_cons]
      cases h with
      | nil =>
        have : (r ++ [47]).head? = some 47 := hh.1 rfl
        rw [this]
        simp
      | cons x y =>
        have : (r ++ [47]).head? ≠ some 47 := fun e => by simpa using hh.2 e
        rw [beq_false_of_ne this]
        simp
theorem any_cont (chars : List UInt8) : ∀ l : List UInt8, Lib.containsAny l chars = l.any fun c => chars.contains c
  | [] => by simp [Lib.containsAny, Lib.indexAny]
  | c :: r => by
    have ih := any_cont chars r
    have hge := Lib.indexAny_ge chars r
    unfold Lib.containsAny at ih ⊢
    rw [Lib.indexAny, List.any_cons]
    by_cases h : chars.contains c = true
    · rw [if_pos h, h]; rfl
    · rw [if_neg h, Bool.eq_false_iff.2 h, Bool.false_or, ← ih]
      by_cases h2 : (Lib.indexAny r chars == -1) = true
      · rw [if_pos h2, beq_iff_eq.1 h2]
      · rw [if_neg h2]
        have : Lib.indexAny r chars ≠ -1 := by simpa using h2
        have h3 : 0 ≤ Lib.indexAny r chars := by omega
        simp [h3]; omega
end Go.Proofs.YtgkjmmfpbcgmgaaDoor
