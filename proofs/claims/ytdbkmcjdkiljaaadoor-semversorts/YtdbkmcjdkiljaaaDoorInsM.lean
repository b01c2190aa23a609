/-
  A text put in its place of a sorted list; a list sorted so.
-/
import Derived.Test.YtdbkmcjdkiljaaaDoorSorC
namespace Go.Proofs.YtdbkmcjdkiljaaaDoor
open Go.RowKit

noncomputable def insS (s : ByteArray) : List ByteArray → List ByteArray
  | [] => [s]
  | x :: l => if sorC s x < 0 then s :: x :: l else x :: insS s l
theorem ins_perm (s : ByteArray) : ∀ l, (insS s l).Perm (s :: l)
  | [] => List.Perm.refl _
  | x :: l => by
    unfold insS
    split
    · exact List.Perm.refl _
    · exact ((ins_perm s l).cons x).trans (List.Perm.swap s x l)
theorem ins_pair (s : ByteArray) : ∀ l, l.Pairwise (fun a b => leS a b = true) → (insS s l).Pairwise (fun a b => leS a b = true)
  | [], _ => by unfold insS; simp
  | x :: l, h => by
    obtain ⟨h1, h2⟩ := List.pairwise_cons.1 h
    unfold insS
    split
    · rename_i hlt
      refine List.pairwise_cons.2 ⟨fun y hy => ?_, h⟩
      have hx : leS s x = true := (leS_iff _ _).2 (by omega)
      rcases List.mem_cons.1 hy with rfl | hy
      · exact hx
      · exact leS_trans s x y hx (h1 y hy)
    · rename_i hlt
      refine List.pairwise_cons.2 ⟨fun y hy => ?_, ins_pair s l h2⟩
      rcases List.mem_cons.1 ((ins_perm s l).mem_iff.1 hy) with rfl | hy
      · exact (leS_iff _ _).2 (by have := ord_sort.anti x y; omega)
      · exact h1 y hy
noncomputable def insL (l : List ByteArray) : List ByteArray := l.foldl (fun acc s => insS s acc) []
theorem insL_next (l : List ByteArray) (k : Nat) (h : k < l.length) : insL (l.take (k + 1)) = insS l[k] (insL (l.take k)) := by
  unfold insL
  rw [List.take_succ_eq_append_getElem h, List.foldl_append]
  rfl
theorem fold_perm (l : List ByteArray) : ∀ acc, (l.foldl (fun acc s => insS s acc) acc).Perm (l ++ acc) := by
  induction l with
  | nil => intro acc; exact List.Perm.refl _
  | cons s l ih =>
    intro acc
    rw [List.foldl_cons]
    refine (ih _).trans ?_
    refine ((ins_perm s acc).append_left l).trans ?_
    exact List.perm_middle
theorem fold_pair (l : List ByteArray) : ∀ acc, acc.Pairwise (fun a b => leS a b = true) → (l.foldl (fun acc s => insS s acc) acc).Pairwise (fun a b => leS a b = true) := by
  induction l with
  | nil => intro acc h; exact h
  | cons s l ih => intro acc h; rw [List.foldl_cons]; exact ih _ (ins_pair s acc h)
theorem insL_sort (l : List ByteArray) : insL l = sortL l := by
  refine List.Perm.eq_of_pairwise (le := fun a b => leS a b = true) (fun a b _ _ h1 h2 => ?_) (fold_pair l [] List.Pairwise.nil) (sortL_pair l) ?_
  · rw [leS_iff] at h1 h2
    have := ord_sort.anti a b
    exact sorC_zero (by omega)
  · refine (fold_perm l []).trans ?_
    rw [List.append_nil]
    exact (sortL_perm l).symm
theorem insL_len (l : List ByteArray) : (insL l).length = l.length := by rw [insL_sort, sortL_len]
/-- where the inner loop of the document's Sort stands: the text is in its place already, or all so far stand ahead of it -/
def InsAt (s : ByteArray) (out : List ByteArray) (k : Nat) (done : Bool) (nx : List ByteArray) : Prop :=
  (done = false ∧ nx = out.take k ∧ ∀ x ∈ out.take k, ¬ sorC s x < 0) ∨ (done = true ∧ nx = insS s (out.take k) ∧ ∃ x ∈ out.take k, sorC s x < 0)
theorem ins_after (s : ByteArray) (r : List ByteArray) : ∀ l, (∀ x ∈ l, ¬ sorC s x < 0) → insS s (l ++ r) = l ++ insS s r
  | [], _ => rfl
  | x :: l, h => by
    have e : insS s (x :: l ++ r) = if sorC s x < 0 then s :: x :: (l ++ r) else x :: insS s (l ++ r) := rfl
    rw [e, if_neg (h x List.mem_cons_self), ins_after s r l (fun y hy => h y (List.mem_cons_of_mem _ hy))]
    rfl
theorem ins_before (s y : ByteArray) : ∀ l, (∃ x ∈ l, sorC s x < 0) → insS s (l ++ [y]) = insS s l ++ [y]
  | [], h => by obtain ⟨x, hx, _⟩ := h; cases hx
  | x :: l, h => by
    show insS s (x :: (l ++ [y])) = _
    unfold insS
    split
    · rfl
    · rename_i hn
      have h2 : ∃ z ∈ l, sorC s z < 0 := by
        obtain ⟨z, hz, hl⟩ := h
        rcases List.mem_cons.1 hz with rfl | hz
        · exact absurd hl hn
        · exact ⟨z, hz, hl⟩
      rw [ins_before s y l h2]
      rfl
theorem InsAt.start (s : ByteArray) (out : List ByteArray) : InsAt s out 0 false [] := Or.inl ⟨rfl, by simp, by simp⟩
theorem InsAt.hit {s : ByteArray} {out nx : List ByteArray} {k : Nat} (h : InsAt s out k false nx) (hk : k < out.length) (hl : sorC s out[k] < 0) : InsAt s out (k + 1) true (nx ++ [s] ++ [out[k]]) := by
  rcases h with ⟨_, rfl, hno⟩ | ⟨h, _⟩
  · refine Or.inr ⟨rfl, ?_, ⟨out[k], by rw [List.take_succ_eq_append_getElem hk]; exact List.mem_append_right _ (List.mem_singleton.2 rfl), hl⟩⟩
    rw [List.take_succ_eq_append_getElem hk, ins_after s _ _ hno]
    show _ = out.take k ++ (if sorC s out[k] < 0 then [s, out[k]] else _)
    rw [if_pos hl]
    simp
  · cases h
theorem InsAt.pass {s : ByteArray} {out nx : List ByteArray} {k : Nat} (h : InsAt s out k false nx) (hk : k < out.length) (hl : ¬ sorC s out[k] < 0) : InsAt s out (k + 1) false (nx ++ [out[k]]) := by
  rcases h with ⟨_, rfl, hno⟩ | ⟨h, _⟩
  · refine Or.inl ⟨rfl, by rw [List.take_succ_eq_append_getElem hk], fun x hx => ?_⟩
    rw [List.take_succ_eq_append_getElem hk] at hx
    rcases List.mem_append.1 hx with hx | hx
    · exact hno x hx
    · rw [List.mem_singleton.1 hx]; exact hl
  · cases h
theorem InsAt.behind {s : ByteArray} {out nx : List ByteArray} {k : Nat} (h : InsAt s out k true nx) (hk : k < out.length) : InsAt s out (k + 1) true (nx ++ [out[k]]) := by
  rcases h with ⟨h, _⟩ | ⟨_, rfl, hex⟩
  · cases h
  · refine Or.inr ⟨rfl, ?_, ?_⟩
    · rw [List.take_succ_eq_append_getElem hk, ins_before s _ _ hex]
    · obtain ⟨x, hx, hl⟩ := hex
      exact ⟨x, by rw [List.take_succ_eq_append_getElem hk]; exact List.mem_append_left _ hx, hl⟩
theorem InsAt.endNo {s : ByteArray} {out nx : List ByteArray} (h : InsAt s out out.length false nx) : nx ++ [s] = insS s out := by
  rcases h with ⟨_, rfl, hno⟩ | ⟨h, _⟩
  · rw [List.take_length] at hno ⊢
    have := ins_after s [] out hno
    rw [List.append_nil] at this
    rw [this]; rfl
  · cases h
theorem InsAt.endYes {s : ByteArray} {out nx : List ByteArray} (h : InsAt s out out.length true nx) : nx = insS s out := by
  rcases h with ⟨h, _⟩ | ⟨_, rfl, _⟩
  · cases h
  · rw [List.take_length]
theorem InsAt.len {s : ByteArray} {out nx : List ByteArray} {k : Nat} {d : Bool} (h : InsAt s out k d nx) : nx.length ≤ k + 1 := by
  rcases h with ⟨_, rfl, _⟩ | ⟨_, rfl, _⟩
  · rw [List.length_take]; omega
  · rw [(ins_perm s _).length_eq, List.length_cons, List.length_take]; omega
end Go.Proofs.YtdbkmcjdkiljaaaDoor
