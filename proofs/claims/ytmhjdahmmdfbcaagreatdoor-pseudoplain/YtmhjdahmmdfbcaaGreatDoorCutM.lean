/-
  The parts of a text between bytes of one kind; numbers with 0 ahead.
-/
import Derived.Test.YtmhjdahmmdfbcaaGreatDoorSemN
namespace Go.Proofs.YtmhjdahmmdfbcaaGreatDoor
open Go.RowKit
/-- the parts of a text between the bytes c -/
def cutL (c : UInt8) : List UInt8 → List (List UInt8)
  | [] => [[]]
  | b :: l => if b = c then [] :: cutL c l else match cutL c l with
    | [] => [[b]]
    | p :: ps => (b :: p) :: ps
theorem cutL_ne (c : UInt8) (l : List UInt8) : cutL c l ≠ [] := by
  cases l with
  | nil => simp [cutL]
  | cons b l =>
    unfold cutL
    split
    · simp
    · split <;> simp
theorem cutL_one {c : UInt8} : ∀ {l : List UInt8}, c ∉ l → cutL c l = [l]
  | [], _ => rfl
  | b :: l, h => by
    have h1 : ¬ b = c := fun e => h (by rw [e]; exact List.mem_cons_self)
    have h2 : c ∉ l := fun e => h (List.mem_cons_of_mem _ e)
    unfold cutL
    rw [if_neg h1, cutL_one h2]
theorem cutL_app {c : UInt8} : ∀ {l r : List UInt8}, c ∉ l → cutL c (l ++ c :: r) = l :: cutL c r
  | [], r, _ => by
    show cutL c (c :: r) = _
    rw [cutL, if_pos rfl]
  | b :: l, r, h => by
    have h1 : ¬ b = c := fun e => h (by rw [e]; exact List.mem_cons_self)
    have h2 : c ∉ l := fun e => h (List.mem_cons_of_mem _ e)
    show cutL c (b :: (l ++ c :: r)) = _
    rw [cutL, if_neg h1, cutL_app h2]
/-- what the loop of Cut makes of its list at one byte -/
def stepL (c : UInt8) (L : List (List UInt8)) (x : UInt8) : List (List UInt8) := if x = c then L ++ [[]] else L.dropLast ++ [L.getLastD [] ++ [x]]
theorem fold_cut (c : UInt8) : ∀ (l : List UInt8) (L : List (List UInt8)) (p : List UInt8), c ∉ p → l.foldl (stepL c) (L ++ [p]) = L ++ cutL c (p ++ l)
  | [], L, p, h => by rw [List.append_nil, cutL_one h]; rfl
  | x :: l, L, p, h => by
    rw [List.foldl_cons]
    by_cases hx : x = c
    · subst hx
      have e : stepL x (L ++ [p]) x = (L ++ [p]) ++ [[]] := by unfold stepL; rw [if_pos rfl]
      rw [e, fold_cut x l (L ++ [p]) [] (by simp), cutL_app h]
      simp
    · have e : stepL c (L ++ [p]) x = L ++ [p ++ [x]] := by unfold stepL; rw [if_neg hx]; simp
      rw [e, fold_cut c l L (p ++ [x]) (fun hm => by rcases List.mem_append.1 hm with hm | hm; exact h hm; simp at hm; exact hx hm.symm)]
      simp
theorem fold_whole (c : UInt8) (l : List UInt8) : l.foldl (stepL c) [[]] = cutL c l := fold_cut c l [] [] (by simp)
theorem fold_next (c : UInt8) (l : List UInt8) (k : Nat) (hk : k < l.length) : (l.take (k + 1)).foldl (stepL c) [[]] = stepL c ((l.take k).foldl (stepL c) [[]]) l[k] := by
  rw [List.take_succ_eq_append_getElem hk, List.foldl_append]
  rfl
theorem fold_len (c : UInt8) (l : List UInt8) : ∀ (L : List (List UInt8)), 0 < L.length → 0 < (l.foldl (stepL c) L).length ∧ (l.foldl (stepL c) L).length ≤ L.length + l.length := by
  induction l with
  | nil => intro L h; exact ⟨h, Nat.le_refl _⟩
  | cons x l ih =>
    intro L h
    have h1 : 0 < (stepL c L x).length ∧ (stepL c L x).length ≤ L.length + 1 := by
      unfold stepL
      split <;> simp
    have := ih _ h1.1
    rw [List.foldl_cons]
    simp only [List.length_cons]
    omega
theorem cutL_len (c : UInt8) (l : List UInt8) : (cutL c l).length ≤ l.length + 1 := by
  have := fold_len c l [[]] (by simp)
  rw [fold_whole] at this
  simp at this
  omega
theorem cutL_size (c : UInt8) : ∀ (l p : List UInt8), p ∈ cutL c l → p.length ≤ l.length
  | [], p, h => by simp [cutL] at h; subst h; simp
  | b :: l, p, h => by
    unfold cutL at h
    split at h
    · rcases List.mem_cons.1 h with h | h
      · subst h; simp
      · have := cutL_size c l p h; simp; omega
    · split at h
      · simp at h; subst h; simp
      · rename_i q qs hq
        rcases List.mem_cons.1 h with h | h
        · subst h
          have := cutL_size c l q (by rw [hq]; exact List.mem_cons_self)
          simp; omega
        · have := cutL_size c l p (by rw [hq]; exact List.mem_cons_of_mem _ h); simp; omega
theorem parts_cut (n : Nat) : ∀ s : ByteArray, s.size ≤ n → partsB s = (cutL 46 s.data.toList).map strOf := by
  induction n with
  | zero =>
    intro s h
    have e : s.data.toList = [] := List.length_eq_zero_iff.1 (by rw [size_len]; omega)
    rw [e, parts_one (by rw [e]; simp)]
    show [s] = [strOf []]
    rw [show s = strOf [] from bytes_ext (by rw [e]; rfl)]
  | succ n ih =>
    intro s h
    cases hs : splitC 46 s.data.toList with
    | none =>
      have hn := (split_none hs).2
      rw [parts_one hn, cutL_one hn]
      show [s] = [strOf s.data.toList]
      rw [show s = strOf s.data.toList from bytes_ext rfl]
      rfl
    | some x =>
      obtain ⟨p, q⟩ := x
      obtain ⟨_, e, hp⟩ := split_some hs
      have e2 : s = strOf ((strOf p).data.toList ++ 46 :: (strOf q).data.toList) := bytes_ext e
      rw [e, cutL_app hp]
      conv => lhs; rw [e2]
      rw [parts_cons (by exact hp), ih (strOf q) ?_]
      · rfl
      · rw [strOf_size]
        have : s.size = p.length + (q.length + 1) := by rw [← size_len, e]; simp
        omega
theorem parts_eq (s : ByteArray) : partsB s = (cutL 46 s.data.toList).map strOf := parts_cut s.size s (Nat.le_refl _)
/-- a number with as many 0 ahead as it wants -/
def padTo (n : Nat) (l : List UInt8) : List UInt8 := List.replicate (n - l.length) 48 ++ l
theorem padTo_len (n : Nat) (l : List UInt8) : (padTo n l).length = max n l.length := by
  unfold padTo
  rw [List.length_append, List.length_replicate]
  omega
theorem padTo_full {n : Nat} {l : List UInt8} (h : n ≤ l.length) : padTo n l = l := by
  unfold padTo
  rw [Nat.sub_eq_zero_of_le h]
  rfl
theorem num_pos {l : List UInt8} (h : numL l = true) : 0 < l.length := by
  unfold numL digL at h
  simp only [Bool.and_eq_true] at h
  cases l with
  | nil => simp at h
  | cons => simp
theorem num_head {x : UInt8} {l : List UInt8} (h : numL (x :: l) = true) (hl : l ≠ []) : 48 < x.toNat := by
  unfold numL digL digC at h
  simp only [Bool.and_eq_true, List.all_cons, Bool.or_eq_true, decide_eq_true_eq, beq_iff_eq, List.length_cons, List.getD_cons_zero, bne_iff_ne, ne_eq] at h
  rcases h.2 with h1 | h1
  · exact absurd (List.length_eq_zero_iff.1 (by omega)) hl
  · have : x.toNat ≠ 48 := fun e => h1 (by rw [← UInt8.toNat_inj, e]; rfl)
    have := h.1.1.1.1
    omega
theorem pad_less {a b : List UInt8} (ha : 0 < a.length) (hb : numL b = true) (h : a.length < b.length) : Lib.compareBytes (padTo b.length a) b = -1 := by
  cases b with
  | nil => simp at h
  | cons y b =>
    have hn : b ≠ [] := fun e => by subst e; simp only [List.length_cons, List.length_nil] at h; omega
    have hy := num_head hb hn
    have e : padTo (y :: b).length a = 48 :: padTo b.length a := by
      unfold padTo
      rw [List.length_cons, Nat.succ_sub (by simp at h; omega), List.replicate_succ]
      rfl
    rw [e, cmp_cons, if_pos (by show 48 < y.toNat; exact hy)]
theorem pad_num {a b : ByteArray} (ha : numL a.data.toList = true) (hb : numL b.data.toList = true) : Lib.compareBytes (padTo b.size a.data.toList) (padTo (padTo b.size a.data.toList).length b.data.toList) = numC a b := by
  have pa := num_pos ha
  have pb := num_pos hb
  unfold numC
  rw [orL_two]
  rw [size_len] at pa pb
  rcases Nat.lt_trichotomy a.size b.size with h | h | h
  · have e : padTo (padTo b.size a.data.toList).length b.data.toList = b.data.toList := padTo_full (by rw [padTo_len, size_len, size_len]; omega)
    rw [e]
    have hl := pad_less (a := a.data.toList) (b := b.data.toList) (by rw [size_len]; omega) hb (by rw [size_len, size_len]; exact h)
    rw [size_len] at hl
    rw [hl]
    have c : cmpI (a.size : Int) (b.size : Int) = -1 := by unfold cmpI; rw [if_pos (by omega)]
    rw [c]; rfl
  · have e1 : padTo b.size a.data.toList = a.data.toList := padTo_full (by rw [size_len]; omega)
    rw [e1, size_len, padTo_full (by rw [size_len]; omega)]
    have c : cmpI (a.size : Int) (b.size : Int) = 0 := by unfold cmpI; rw [if_neg (by omega), if_neg (by omega)]
    rw [c, if_pos rfl]
  · have e1 : padTo b.size a.data.toList = a.data.toList := padTo_full (by rw [size_len]; omega)
    rw [e1]
    have hl := pad_less (a := b.data.toList) (b := a.data.toList) (by rw [size_len]; omega) ha (by rw [size_len, size_len]; exact h)
    rw [cmp_anti, hl]
    have c : cmpI (a.size : Int) (b.size : Int) = 1 := by unfold cmpI; rw [if_neg (by omega), if_pos (by omega)]
    rw [c]; rfl
end Go.Proofs.YtmhjdahmmdfbcaaGreatDoor
