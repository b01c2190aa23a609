/-
  The lanes of a picture, as lists.
-/
import Derived.WalkKit
namespace Go.Proofs.YthgmabbnmoembaaDoor

/-- the place of the first c, or the length -/
def pos (c : Int) : List Int → Nat
  | [] => 0
  | x :: r => if x = c then 0 else pos c r + 1
theorem pos_le (c : Int) (l : List Int) : pos c l ≤ l.length := by
  induction l with
  | nil => simp [pos]
  | cons x r ih => unfold pos; split <;> simp <;> omega
theorem pos_get (c : Int) (l : List Int) (h : pos c l < l.length) : l[pos c l] = c := by
  induction l with
  | nil => simp at h
  | cons x r ih =>
    unfold pos at h
    by_cases hx : x = c
    · simp [pos, hx]
    · simp only [hx, if_false, List.length_cons] at h
      simp [pos, hx]
      exact ih (by omega)
theorem pos_first (c : Int) (l : List Int) (j : Nat) (h : j < l.length) (hj : j < pos c l) : l[j] ≠ c := by
  induction l generalizing j with
  | nil => simp at h
  | cons x r ih =>
    by_cases hx : x = c
    · simp [pos, hx] at hj
    · cases j with
      | zero => simpa using hx
      | succ j =>
        simp [pos, hx] at hj
        simp at h
        simpa using ih j h hj
theorem pos_eq (c : Int) (l : List Int) (k : Nat) (hk : k < l.length) (h : l[k] = c) (hf : ∀ j (hj : j < l.length), j < k → l[j] ≠ c) : pos c l = k := by
  have h1 : ¬ k < pos c l := fun hlt => pos_first c l k hk hlt h
  by_cases h2 : pos c l < k
  · exact absurd (pos_get c l (by omega)) (hf _ (by omega) h2)
  · omega
theorem pos_mem {c : Int} {l : List Int} : c ∈ l ↔ pos c l < l.length := by
  constructor
  · intro h
    obtain ⟨k, hk, rfl⟩ := List.getElem_of_mem h
    by_cases h2 : pos l[k] l < l.length
    · exact h2
    · exact absurd rfl (pos_first l[k] l k hk (by omega))
  · intro h
    have := List.getElem_mem h
    rwa [pos_get c l h] at this
theorem pos_none (c : Int) (l : List Int) (hf : ∀ j (hj : j < l.length), l[j] ≠ c) : pos c l = l.length := by
  have h1 := pos_le c l
  by_cases h : pos c l < l.length
  · exact absurd (pos_get c l h) (hf _ h)
  · omega
/-- the lane of commit c -/
def takeK (l : List Int) (c : Int) : Nat := if pos c l < l.length then pos c l else pos (-1) l
theorem takeK_le (l : List Int) (c : Int) : takeK l c ≤ l.length := by
  unfold takeK; split
  · omega
  · exact pos_le _ _
/-- x stands in lane k, a new one where there is none -/
def setL (l : List Int) (k : Nat) (x : Int) : List Int := if k < l.length then l.set k x else l ++ [x]
theorem setL_len {l : List Int} {k : Nat} {x : Int} (h : k ≤ l.length) : k < (setL l k x).length := by
  unfold setL; split <;> simp <;> omega
theorem setL_le {l : List Int} {k : Nat} {x : Int} : l.length ≤ (setL l k x).length ∧ (setL l k x).length ≤ l.length + 1 := by
  unfold setL; split <;> simp
theorem setL_get {l : List Int} {k : Nat} {x : Int} (h : k ≤ l.length) : (setL l k x)[k]'(setL_len h) = x := by
  unfold setL; split
  · simp
  · have : k = l.length := by omega
    subst this; simp
def putL (l : List Int) (c : Int) : List Int := setL l (takeK l c) c
def ownL (l : List Int) (c : Int) : List Int := setL l (takeK l c) (-1)
def stepP (own : Nat) (n : Nat) (l : List Int) (p : Int) : List Int := if n = 0 ∧ p ∉ l then l.set own p else putL l p
/-- the lanes behind the first n parents -/
def parK (own : Nat) (l : List Int) (ps : List Int) : Nat → List Int
  | 0 => l
  | n + 1 => stepP own n (parK own l ps n) (ps.getD n 0)
def rowL (l : List Int) (i : Int) (ps : List Int) : List Int := parK (takeK l i) (ownL l i) ps ps.length
/-- the lanes behind the first i commits -/
def lanes (P : List (List Int)) : Nat → List Int
  | 0 => []
  | i + 1 => rowL (lanes P i) i (P.getD i [])
theorem putL_le (l : List Int) (c : Int) : l.length ≤ (putL l c).length ∧ (putL l c).length ≤ l.length + 1 := setL_le
theorem ownL_le (l : List Int) (c : Int) : l.length ≤ (ownL l c).length ∧ (ownL l c).length ≤ l.length + 1 := setL_le
theorem parK_le (own : Nat) (l ps : List Int) (n : Nat) : l.length ≤ (parK own l ps n).length ∧ (parK own l ps n).length ≤ l.length + n := by
  induction n with
  | zero => simp [parK]
  | succ n ih =>
    unfold parK stepP
    split
    · simp; omega
    · have := putL_le (parK own l ps n) (ps.getD n 0)
      omega
theorem lane_lt (P : List (List Int)) (i : Nat) : takeK (lanes P i) i < (lanes P (i + 1)).length := by
  have h1 : takeK (lanes P i) i < (ownL (lanes P i) i).length := setL_len (takeK_le _ _)
  have h2 := (parK_le (takeK (lanes P i) i) (ownL (lanes P i) i) (P.getD i []) (P.getD i []).length).1
  show _ < (rowL _ _ _).length
  unfold rowL
  omega

/-- is commit number c named by one of the first i? -/
def named (P : List (List Int)) (i : Nat) (c : Int) : Prop := ∃ j, j < i ∧ c ∈ P.getD j []
/-- what the lanes say behind the first i commits -/
structure Inv (P : List (List Int)) (i : Nat) (l : List Int) : Prop where
  lo : ∀ x ∈ l, x = -1 ∨ (i : Int) ≤ x
  no : ∀ c : Int, 0 ≤ c → ¬ (named P i c ∧ (i : Int) ≤ c) → l.count c = 0
  one : ∀ c : Int, 0 ≤ c → named P i c → (i : Int) ≤ c → l.count c = 1
theorem Inv.le {P : List (List Int)} {i : Nat} {l : List Int} (h : Inv P i l) (c : Int) (hc : 0 ≤ c) : l.count c ≤ 1 := by
  by_cases h1 : named P i c ∧ (i : Int) ≤ c
  · have := h.one c hc h1.1 h1.2; omega
  · have := h.no c hc h1; omega
theorem count_setL {l : List Int} {k : Nat} {x c : Int} : (setL l k x).count c = (if h : k < l.length then l.count c - (if l[k] = c then 1 else 0) else l.count c) + (if x = c then 1 else 0) := by
  unfold setL
  by_cases h : k < l.length
  · simp only [h, if_true, dif_pos]
    rw [List.count_set h]
    simp
  · simp only [h, if_false, dif_neg, not_false_eq_true]
    rw [List.count_append]
    simp [List.count_cons]
theorem takeK_get {l : List Int} {c : Int} (h : takeK l c < l.length) : (c ∈ l ∧ l[takeK l c] = c) ∨ (c ∉ l ∧ l[takeK l c] = -1) := by
  unfold takeK at h ⊢
  by_cases hm : pos c l < l.length
  · left; simp only [hm, if_true]; exact ⟨pos_mem.2 hm, pos_get c l hm⟩
  · right
    simp only [hm, if_false] at h ⊢
    exact ⟨fun h1 => hm (pos_mem.1 h1), pos_get (-1) l h⟩
theorem takeK_new {l : List Int} {c : Int} (h : ¬ takeK l c < l.length) : c ∉ l := by
  unfold takeK at h
  intro hm
  rw [if_pos (pos_mem.1 hm)] at h
  exact h (pos_mem.1 hm)
theorem count_putL {l : List Int} {p c : Int} (hc : 0 ≤ c) (_hp : 0 ≤ p) : (putL l p).count c = if c = p ∧ p ∉ l then 1 else l.count c := by
  unfold putL
  rw [count_setL]
  by_cases h : takeK l p < l.length
  · rw [dif_pos h]
    rcases takeK_get h with ⟨hm, hg⟩ | ⟨hm, hg⟩
    · rw [hg]
      by_cases hpc : p = c
      · subst hpc
        have := List.count_pos_iff.2 hm
        simp [hm]
        try omega
      · simp [hpc, hm]
    · rw [hg]
      have h1 : ¬ (-1 : Int) = c := by omega
      by_cases hpc : p = c
      · subst hpc
        simp [hm, h1, List.count_eq_zero_of_not_mem hm]
      · have : ¬ c = p := fun e => hpc e.symm
        simp [hpc, this, h1]
  · rw [dif_neg h]
    have hm := takeK_new h
    by_cases hpc : p = c
    · subst hpc
      simp [hm, List.count_eq_zero_of_not_mem hm]
    · have : ¬ c = p := fun e => hpc e.symm
      simp [hpc, this]
theorem count_ownL {l : List Int} {i c : Int} (hc : 0 ≤ c) : (ownL l i).count c = if c = i then l.count c - 1 else l.count c := by
  unfold ownL
  rw [count_setL]
  have h1 : ¬ (-1 : Int) = c := by omega
  by_cases h : takeK l i < l.length
  · rw [dif_pos h]
    rcases takeK_get h with ⟨hm, hg⟩ | ⟨hm, hg⟩
    · rw [hg]
      by_cases hpc : i = c
      · subst hpc; simp [h1]
      · have : ¬ c = i := fun e => hpc e.symm
        simp [hpc, this, h1]
    · rw [hg]
      by_cases hpc : i = c
      · subst hpc; simp [h1, List.count_eq_zero_of_not_mem hm]
      · have : ¬ c = i := fun e => hpc e.symm
        simp [this, h1]
  · rw [dif_neg h]
    have hm := takeK_new h
    by_cases hpc : i = c
    · subst hpc; simp [h1, List.count_eq_zero_of_not_mem hm]
    · have : ¬ c = i := fun e => hpc e.symm
      simp [this, h1]
theorem mem_setL {l : List Int} {k : Nat} {x y : Int} (h : y ∈ setL l k x) : y ∈ l ∨ y = x := by
  unfold setL at h
  split at h
  · exact List.mem_or_eq_of_mem_set h
  · simpa using h
/-- behind n parents: each of them is led to once, and the lanes elder still are -/
theorem parK_count {own : Nat} {l ps : List Int} (hown : ∃ h : own < l.length, l[own] = -1) (h1 : ∀ c : Int, 0 ≤ c → l.count c ≤ 1) (hps : ∀ p ∈ ps, 0 ≤ p) (n : Nat) (hn : n ≤ ps.length) (c : Int) (hc : 0 ≤ c) :
    (parK own l ps n).count c = if c ∈ ps.take n then 1 else l.count c := by
  induction n generalizing c with
  | zero => simp [parK]
  | succ n ih =>
    have hlt : n < ps.length := by omega
    have hp0 : 0 ≤ ps[n] := hps _ (List.getElem_mem hlt)
    have hgd : ps.getD n 0 = ps[n] := by rw [List.getD_eq_getElem?_getD, List.getElem?_eq_getElem hlt]; rfl
    have ihc := ih (by omega) c hc
    have ihp := ih (by omega) ps[n] hp0
    have hle : (parK own l ps n).count ps[n] ≤ 1 := by
      rw [ihp]; split
      · omega
      · exact h1 _ hp0
    have hmt : (c ∈ ps.take (n + 1)) ↔ (c ∈ ps.take n ∨ c = ps[n]) := by rw [List.take_succ_eq_append_getElem hlt, List.mem_append, List.mem_singleton]
    unfold parK
    rw [hgd]
    unfold stepP
    simp only [hmt]
    generalize ps.take n = T at *
    by_cases hc0 : n = 0 ∧ ps[n] ∉ parK own l ps n
    · rw [if_pos hc0]
      obtain ⟨hn0, hm⟩ := hc0
      subst hn0
      obtain ⟨ho, hg⟩ := hown
      have e0 : parK own l ps 0 = l := rfl
      rw [e0] at hm ihc ⊢
      rw [List.count_set ho, hg]
      have h9 : ((-1 : Int) == c) = false := by simp; omega
      rw [h9]
      by_cases hpc : ps[0] = c
      · rw [hpc] at hm
        simp [hpc, List.count_eq_zero_of_not_mem hm]
      · have hpc2 : ¬ c = ps[0] := fun e => hpc e.symm
        simp only [hpc2, or_false]
        rw [← ihc]
        simp [hpc]
    · rw [if_neg hc0, count_putL hc hp0, ihc]
      by_cases hcp : c = ps[n]
      · rw [if_pos (show c ∈ T ∨ c = ps[n] from .inr hcp)]
        by_cases hm : ps[n] ∈ parK own l ps n
        · have h7 := List.count_pos_iff.2 hm
          rw [if_neg (fun h => h.2 hm), ← ihc, hcp]
          omega
        · rw [if_pos ⟨hcp, hm⟩]
      · rw [if_neg (fun h => hcp h.1)]
        simp [hcp]
theorem parK_mem {own : Nat} {l ps : List Int} (n : Nat) (hn : n ≤ ps.length) (y : Int) (h : y ∈ parK own l ps n) : y ∈ l ∨ y ∈ ps := by
  induction n generalizing y with
  | zero => exact .inl h
  | succ n ih =>
    have hlt : n < ps.length := by omega
    have hgd : ps.getD n 0 = ps[n] := by rw [List.getD_eq_getElem?_getD, List.getElem?_eq_getElem hlt]; rfl
    unfold parK at h
    rw [hgd] at h
    unfold stepP at h
    split at h
    · rcases List.mem_or_eq_of_mem_set h with h | h
      · exact ih (by omega) y h
      · right; rw [h]; exact List.getElem_mem hlt
    · rcases mem_setL h with h | h
      · exact ih (by omega) y h
      · right; rw [h]; exact List.getElem_mem hlt
/-- the parents are elder ones, each once -/
def okRow (i n : Nat) (ps : List Int) : Prop := ∀ k (h : k < ps.length), (i : Int) < ps[k] ∧ ps[k] < n ∧ ps[k] ∉ ps.take k
theorem Inv.next {P : List (List Int)} {i : Nat} {l : List Int} (h : Inv P i l) (hok : okRow i P.length (P.getD i [])) : Inv P (i + 1) (rowL l i (P.getD i [])) := by
  generalize hps : P.getD i [] = ps at *
  have hpos : ∀ p ∈ ps, (i : Int) < p := fun p hp => by
    obtain ⟨k, hk, rfl⟩ := List.getElem_of_mem hp
    exact (hok k hk).1
  have hn : ∀ c, named P (i + 1) c ↔ named P i c ∨ c ∈ ps := fun c => by
    constructor
    · rintro ⟨j, hj, hc⟩
      by_cases e : j = i
      · subst e; right; rwa [hps] at hc
      · exact .inl ⟨j, by omega, hc⟩
    · rintro (⟨j, hj, hc⟩ | hc)
      · exact ⟨j, by omega, hc⟩
      · exact ⟨i, by omega, by rwa [hps]⟩
  have hoc : ∀ c : Int, 0 ≤ c → (ownL l i).count c = if c = i then l.count c - 1 else l.count c := fun c hc => count_ownL hc
  have ho1 : ∀ c : Int, 0 ≤ c → (ownL l i).count c ≤ 1 := fun c hc => by
    rw [hoc c hc]; have := h.le c hc; split <;> omega
  have hown : ∃ h9 : takeK l i < (ownL l i).length, (ownL l i)[takeK l i] = -1 := ⟨setL_len (takeK_le _ _), setL_get (takeK_le _ _)⟩
  have hcnt := fun c hc => parK_count hown ho1 (fun p hp => by have := hpos p hp; omega) ps.length (Nat.le_refl _) c hc
  simp only [List.take_length] at hcnt
  refine ⟨fun x hx => ?_, fun c hc hno => ?_, fun c hc hna hle => ?_⟩
  · by_cases hx0 : 0 ≤ x
    · right
      have hp := List.count_pos_iff.2 hx
      have hcx := hcnt x hx0
      unfold rowL at hp
      by_cases hm : x ∈ ps
      · have := hpos x hm; omega
      · rw [if_neg hm, hoc x hx0] at hcx
        by_cases hxi : x = i
        · rw [if_pos hxi] at hcx
          have := h.le x hx0
          omega
        · rw [if_neg hxi] at hcx
          have : x ∈ l := List.count_pos_iff.1 (by omega)
          rcases h.lo x this with h7 | h7 <;> omega
    · left
      rcases parK_mem ps.length (Nat.le_refl _) x hx with h7 | h7
      · rcases mem_setL h7 with h8 | h8
        · rcases h.lo x h8 with h9 | h9 <;> omega
        · exact h8
      · have := hpos x h7; omega
  · show (parK _ _ _ _).count c = 0
    rw [hcnt c hc]
    have hm : c ∉ ps := fun hm => hno ⟨(hn c).2 (.inr hm), by have := hpos c hm; omega⟩
    rw [if_neg hm, hoc c hc]
    by_cases hci : c = i
    · have := h.le c hc
      rw [if_pos hci]; omega
    · rw [if_neg hci]
      exact h.no c hc fun ⟨h7, h8⟩ => hno ⟨(hn c).2 (.inl h7), by omega⟩
  · show (parK _ _ _ _).count c = 1
    rw [hcnt c hc]
    by_cases hm : c ∈ ps
    · rw [if_pos hm]
    · rw [if_neg hm, hoc c hc, if_neg (by omega)]
      exact h.one c hc (((hn c).1 hna).resolve_right hm) (by omega)
theorem Inv.start (P : List (List Int)) : Inv P 0 [] := ⟨fun x hx => by simp at hx, fun c _ _ => by simp, fun c _ hn _ => by obtain ⟨j, hj, _⟩ := hn; omega⟩
theorem lanes_inv {P : List (List Int)} (hok : ∀ i, i < P.length → okRow i P.length (P.getD i [])) (i : Nat) (hi : i ≤ P.length) : Inv P i (lanes P i) := by
  induction i with
  | zero => exact Inv.start P
  | succ i ih => exact (ih (by omega)).next (hok i (by omega))
end Go.Proofs.YthgmabbnmoembaaDoor
