/-
  Put keeps a rising row rising; so the document's paths that begin so are the folder's.
-/
import Derived.Test.YtolohndbbnbfbaaDoorRSnE
import Derived.Test.YtolohndbbnbfbaaDoorTurnM
namespace Go.Proofs.YtolohndbbnbfbaaDoor
open Go.RowKit

abbrev RiseB (l : List ByteArray) : Prop := l.Pairwise fun a b => cmpB a b < 0
theorem cmpB_anti (a b : ByteArray) : cmpB a b = - cmpB b a := cmp_anti _ _
theorem cmpB_trans {a b c : ByteArray} (h1 : cmpB a b < 0) (h2 : cmpB b c < 0) : cmpB a c < 0 := cmp_lt_of_lt_of_le h1 (by unfold cmpB at h2; omega)
theorem cmpB_eq {a b : ByteArray} (h : cmpB a b = 0) : a = b := ba_eq ((cmp_zero _ _).1 h)
theorem cmpB_self (a : ByteArray) : cmpB a a = 0 := (cmp_zero _ _).2 rfl
theorem less_iff (a b : ByteArray) : Op.bytesLess a.toList b.toList = decide (cmpB a b < 0) := by
  rw [ByteArray.toList_eq, ByteArray.toList_eq, less_cmp0]; rfl
theorem beq_iff {a b : ByteArray} : (a.toList == b.toList) = true ↔ a = b := by
  rw [ByteArray.toList_eq, ByteArray.toList_eq]
  constructor
  · intro h; exact ba_eq (by simpa using h)
  · rintro rfl; simp
/-- how far Put has come -/
def PutAt (x : ByteArray) (l : List ByteArray) (k : Nat) (st : List ByteArray × Bool) : Prop :=
  (st.2 = false ∧ st.1 = l.take k ∧ ∀ z ∈ l.take k, cmpB z x < 0) ∨
  (st.2 = true ∧ RiseB st.1 ∧ (∀ z, z ∈ st.1 ↔ z = x ∨ z ∈ l.take k) ∧ ∀ t (h : t < l.length), k ≤ t → cmpB x l[t] < 0)
theorem put_at (x : ByteArray) (l : List ByteArray) (hr : RiseB l) (k : Nat) (hk : k ≤ l.length) : PutAt x l k (putF x (l.take k)) := by
  induction k with
  | zero => exact .inl ⟨rfl, rfl, fun z hz => by simp at hz⟩
  | succ k ih =>
    have hlt : k < l.length := by omega
    have h0 := ih (by omega)
    rw [putF_take x l k hlt]
    generalize putF x (l.take k) = st at *
    obtain ⟨O, d⟩ := st
    have htk : l.take (k + 1) = l.take k ++ [l[k]] := List.take_succ_eq_append_getElem hlt
    have hbef : ∀ z ∈ l.take k, cmpB z l[k] < 0 := fun z hz => by
      obtain ⟨t, ht, rfl⟩ := List.mem_iff_getElem.1 hz
      rw [List.length_take] at ht
      rw [List.getElem_take]
      exact List.pairwise_iff_getElem.1 hr t k (by omega) hlt (by omega)
    have haft : ∀ t (h : t < l.length), k + 1 ≤ t → cmpB l[k] l[t] < 0 := fun t h ht => List.pairwise_iff_getElem.1 hr k t hlt h (by omega)
    have hrk : RiseB (l.take (k + 1)) := List.Pairwise.sublist (List.take_sublist _ _) hr
    have hrk0 : RiseB (l.take k) := List.Pairwise.sublist (List.take_sublist _ _) hr
    unfold putStep
    simp only
    by_cases hyx : l[k] = x
    · rw [if_pos (beq_iff.2 hyx)]
      rcases h0 with ⟨_, h1, _⟩ | ⟨_, _, _, h3⟩
      · simp only at h1
        rw [h1, ← htk]
        refine .inr ⟨rfl, hrk, fun z => ?_, fun t h ht => by rw [← hyx]; exact haft t h ht⟩
        constructor
        · exact .inr
        · rintro (rfl | h)
          · rw [← hyx, htk]; exact List.mem_append.2 (.inr (List.mem_singleton.2 rfl))
          · exact h
      · have := h3 k hlt (Nat.le_refl _)
        rw [hyx, cmpB_self] at this; omega
    · rw [if_neg (fun h => hyx (beq_iff.1 h))]
      rcases h0 with ⟨h1, h2, h3⟩ | ⟨h1, h2, h3, h4⟩
      · simp only at h1 h2
        subst h1
        rw [if_neg (by decide)]
        have hgt : gtB l[k] x = !decide (cmpB l[k] x < 0) := by
          unfold gtB
          rw [less_iff, show (l[k].toList == x.toList) = false by simpa using fun h => hyx (beq_iff.1 (by simpa using h)), Bool.or_false]
        by_cases hc : cmpB l[k] x < 0
        · rw [hgt, if_neg (by simp [hc])]
          refine .inl ⟨rfl, by simp only [h2, htk], fun z hz => ?_⟩
          rw [htk] at hz
          rcases List.mem_append.1 hz with hz | hz
          · exact h3 z hz
          · rw [List.mem_singleton.1 hz]; exact hc
        · rw [hgt, if_pos (by simpa using hc)]
          have hxl : cmpB x l[k] < 0 := by
            have a1 := cmpB_anti x l[k]
            have a2 : cmpB l[k] x ≠ 0 := fun h => hyx (cmpB_eq h)
            omega
          refine .inr ⟨rfl, ?_, fun z => ?_, fun t h ht => cmpB_trans hxl (haft t h ht)⟩
          · simp only [h2]
            unfold RiseB
            rw [List.append_assoc, List.pairwise_append]
            refine ⟨hrk0, by simpa using hxl, fun a ha b hb => ?_⟩
            simp only [List.cons_append, List.nil_append, List.mem_cons, List.not_mem_nil, or_false] at hb
            rcases hb with rfl | rfl
            · exact h3 a ha
            · exact hbef a ha
          · simp only [h2, htk, List.mem_append, List.mem_singleton]
            constructor
            · rintro ((h | h) | h)
              · exact .inr (.inl h)
              · exact .inl h
              · exact .inr (.inr h)
            · rintro (h | h | h)
              · exact .inl (.inr h)
              · exact .inl (.inl h)
              · exact .inr h
      · simp only at h1 h2 h3
        subst h1
        rw [if_pos rfl]
        refine .inr ⟨rfl, ?_, fun z => ?_, fun t h ht => h4 t h (by omega)⟩
        · simp only
          unfold RiseB
          rw [List.pairwise_append]
          refine ⟨h2, List.pairwise_singleton _ _, fun a ha b hb => ?_⟩
          rw [List.mem_singleton.1 hb]
          rcases (h3 a).1 ha with rfl | ha
          · exact h4 k hlt (Nat.le_refl _)
          · exact hbef a ha
        · simp only [htk, List.mem_append, List.mem_singleton]
          rw [h3 z]
          constructor
          · rintro ((h | h) | h)
            · exact .inl h
            · exact .inr (.inl h)
            · exact .inr (.inr h)
          · rintro (h | h | h)
            · exact .inl (.inl h)
            · exact .inl (.inr h)
            · exact .inr h
theorem put_rise (l : List ByteArray) (x : ByteArray) (hr : RiseB l) : RiseB (putL l x) ∧ ∀ z, z ∈ putL l x ↔ z = x ∨ z ∈ l := by
  have h := put_at x l hr l.length (Nat.le_refl _)
  unfold PutAt at h
  rw [List.take_of_length_le (Nat.le_refl _)] at h
  unfold putL
  rcases h with ⟨h1, h2, h3⟩ | ⟨h1, h2, h3, _⟩
  · rw [if_neg (by rw [h1]; decide), h2]
    refine ⟨?_, fun z => by simp only [List.mem_append, List.mem_singleton]; exact Or.comm⟩
    rw [RiseB, List.pairwise_append]
    exact ⟨hr, List.pairwise_singleton _ _, fun a ha b hb => by rw [List.mem_singleton.1 hb]; exact h3 a ha⟩
  · rw [if_pos h1]
    exact ⟨h2, h3⟩
theorem rund_rise (fs : List FileB) (p : ByteArray) : RiseB (rundF fs p) ∧ ∀ z, z ∈ rundF fs p ↔ ∃ f ∈ fs, beginsF p f = true ∧ f.1 = z := by
  have : ∀ k, k ≤ fs.length → RiseB (rundF (fs.take k) p) ∧ ∀ z, z ∈ rundF (fs.take k) p ↔ ∃ f ∈ fs.take k, beginsF p f = true ∧ f.1 = z := by
    intro k
    induction k with
    | zero => intro _; exact ⟨by simp [rundF], fun z => by simp [rundF]⟩
    | succ k ih =>
      intro hk
      obtain ⟨h1, h2⟩ := ih (by omega)
      rw [rundF_take fs p k (by omega)]
      have htk : fs.take (k + 1) = fs.take k ++ [fs[k]'(by omega)] := List.take_succ_eq_append_getElem (by omega)
      unfold rundStep
      by_cases hb : beginsF p (fs[k]'(by omega)) = true
      · rw [if_pos hb]
        obtain ⟨h3, h4⟩ := put_rise _ (fs[k]'(by omega)).1 h1
        refine ⟨h3, fun z => ?_⟩
        rw [h4 z, h2 z, htk]
        constructor
        · rintro (rfl | ⟨f, hf, h⟩)
          · exact ⟨_, List.mem_append.2 (.inr (List.mem_singleton.2 rfl)), hb, rfl⟩
          · exact ⟨f, List.mem_append.2 (.inl hf), h⟩
        · rintro ⟨f, hf, h5, h6⟩
          rcases List.mem_append.1 hf with hf | hf
          · exact .inr ⟨f, hf, h5, h6⟩
          · left; rw [← h6, List.mem_singleton.1 hf]
      · rw [if_neg hb]
        refine ⟨h1, fun z => ?_⟩
        rw [h2 z, htk]
        constructor
        · rintro ⟨f, hf, h⟩; exact ⟨f, List.mem_append.2 (.inl hf), h⟩
        · rintro ⟨f, hf, h5, h6⟩
          rcases List.mem_append.1 hf with hf | hf
          · exact ⟨f, hf, h5, h6⟩
          · rw [List.mem_singleton.1 hf] at h5; exact absurd h5 hb
  have h := this fs.length (Nat.le_refl _)
  rwa [List.take_of_length_le (Nat.le_refl _)] at h
theorem RiseB.nodup {l : List ByteArray} (h : RiseB l) : l.Nodup := List.Pairwise.imp (fun {a b} h e => by rw [e, cmpB_self] at h; omega) h
theorem riseB_one {l m : List ByteArray} (hl : RiseB l) (hm : RiseB m) (h : ∀ z, z ∈ l ↔ z ∈ m) : l = m := by
  refine List.Perm.eq_of_pairwise (le := fun a b => cmpB a b < 0) ?_ hl hm ((List.perm_ext_iff_of_nodup hl.nodup hm.nodup).2 h)
  intro a b _ _ h1 h2
  have := cmpB_anti a b
  omega
/-- the document's paths are the folder's -/
theorem rund_eq {fs gs : List FileB} (p : ByteArray) (hp : gs.Perm fs) (hr : RiseS gs) : rundF fs p = pathsL (undF gs p) := by
  obtain ⟨h1, h2⟩ := rund_rise fs p
  refine riseB_one h1 ?_ fun z => ?_
  · unfold pathsL
    exact List.pairwise_map.2 (List.Pairwise.imp (fun h => h) (riseS_und hr p))
  · rw [h2 z]
    unfold pathsL undF
    simp only [List.mem_map, List.mem_filter]
    constructor
    · rintro ⟨f, hf, h3, h4⟩; exact ⟨f, ⟨hp.mem_iff.2 hf, h3⟩, h4⟩
    · rintro ⟨f, ⟨hf, h3⟩, h4⟩; exact ⟨f, hp.mem_iff.1 hf, h3, h4⟩
end Go.Proofs.YtolohndbbnbfbaaDoor
