/-
  The mathematics of a folder: rising paths, those that begin so, which files may stand together.
-/
import Derived.Test.YtolohndbbnbfbaaDoorSnapF
namespace Go.Proofs.YtolohndbbnbfbaaDoor
open Go.RowKit Go.Sort Go.Lib

/-- rising by their paths -/
def Rise (fs : List FileB) : Prop := fs.Pairwise fun f g => cmpF f g ≤ 0
/-- rising, none twice -/
def RiseS (fs : List FileB) : Prop := fs.Pairwise fun f g => cmpF f g < 0
theorem RiseS.rise {fs : List FileB} (h : RiseS fs) : Rise fs := List.Pairwise.imp (fun h => by omega) h
theorem Rise.mono {fs : List FileB} (h : Rise fs) (p : ByteArray) : Mono fs p := fun a b hb hab hc => by
  by_cases he : a = b
  · subst he; exact hc
  · have := List.pairwise_iff_getElem.1 h a b (by omega) hb (by omega)
    exact cmp_lt_of_le_of_lt this hc
theorem pre_ge (p : List UInt8) : ∀ f, p.isPrefixOf f = true → 0 ≤ Lib.compareBytes f p := by
  induction p with
  | nil => intro f _; cases f <;> simp [Lib.compareBytes]
  | cons c p ih =>
    intro f h
    cases f with
    | nil => simp at h
    | cons d f =>
      simp only [List.isPrefixOf, Bool.and_eq_true, beq_iff_eq] at h
      rw [cmp_cons, h.1, if_neg (Nat.lt_irrefl _), if_neg (Nat.lt_irrefl _)]
      exact ih f h.2
theorem pre_gap (p : List UInt8) : ∀ f g, 0 ≤ Lib.compareBytes f p → p.isPrefixOf f = false → Lib.compareBytes f g ≤ 0 → p.isPrefixOf g = false := by
  induction p with
  | nil => intro f g _ h; simp at h
  | cons c p ih =>
    intro f g h1 h2 h3
    cases f with
    | nil => simp [Lib.compareBytes] at h1
    | cons d f =>
      cases g with
      | nil => rfl
      | cons e g =>
        rw [cmp_cons] at h1 h3
        simp only [List.isPrefixOf, Bool.and_eq_false_iff, beq_eq_false_iff_ne] at h2 ⊢
        by_cases hdc : d.toNat < c.toNat
        · rw [if_pos hdc] at h1; simp at h1
        · rw [if_neg hdc] at h1
          by_cases hce : c = e
          · subst hce
            by_cases hcd : c.toNat < d.toNat
            · rw [if_neg (by omega), if_pos hcd] at h3; simp at h3
            · have : d = c := by rw [← UInt8.toNat_inj]; omega
              subst this
              rw [if_neg hcd] at h1 h3
              rw [if_neg hcd] at h3
              rcases h2 with h2 | h2
              · exact absurd rfl h2
              · exact .inr (ih f g h1 h2 h3)
          · exact .inl hce
theorem begins_ge {p : ByteArray} {f : FileB} (h : beginsF p f = true) : 0 ≤ cmpP p f := pre_ge _ _ h
theorem begins_gap {p : ByteArray} {f g : FileB} (h1 : 0 ≤ cmpP p f) (h2 : beginsF p f = false) (h3 : cmpF f g ≤ 0) : beginsF p g = false := pre_gap _ _ _ h1 h2 h3
theorem run_rest (p : ByteArray) : ∀ fs : List FileB, Rise fs → (∀ f ∈ fs, 0 ≤ cmpP p f) → fs.takeWhile (beginsF p) = fs.filter (beginsF p)
  | [], _, _ => rfl
  | f :: fs, h, h2 => by
    rw [List.takeWhile_cons, List.filter_cons]
    by_cases hb : beginsF p f = true
    · rw [if_pos hb, if_pos hb, run_rest p fs (List.Pairwise.of_cons h) (fun g hg => h2 g (List.mem_cons_of_mem _ hg))]
    · rw [if_neg hb, if_neg hb]
      symm
      rw [List.filter_eq_nil_iff]
      intro g hg
      have := begins_gap (h2 f List.mem_cons_self) (by simpa using hb) (List.rel_of_pairwise_cons h hg)
      simp [this]
theorem run_filter {fs : List FileB} {p : ByteArray} {i : Nat} (h : Rise fs) (hs : Spot fs p i) : (fs.drop i).takeWhile (beginsF p) = fs.filter (beginsF p) := by
  rw [run_rest p _ (List.Pairwise.sublist (List.drop_sublist _ _) h)]
  · conv => rhs; rw [← List.take_append_drop i fs]
    rw [List.filter_append]
    have : (fs.take i).filter (beginsF p) = [] := by
      rw [List.filter_eq_nil_iff]
      intro g hg hb
      obtain ⟨t, ht, rfl⟩ := List.mem_iff_getElem.1 hg
      have h1 : t < i ∧ t < fs.length := by simp at ht; omega
      have h2 := hs.lo t h1.2 h1.1
      rw [List.getElem_take] at hb
      have := begins_ge hb
      omega
    rw [this, List.nil_append]
  · intro g hg
    obtain ⟨t, ht, rfl⟩ := List.mem_iff_getElem.1 hg
    rw [List.getElem_drop]
    exact hs.hi _ _ (by omega)
/-- the files whose paths begin with p -/
def undF (fs : List FileB) (p : ByteArray) : List FileB := fs.filter (beginsF p)
theorem runF_filter {fs : List FileB} {p : ByteArray} {i : Nat} (h : Rise fs) (hs : Spot fs p i) : runF fs p i = (undF fs p).length := by
  unfold undF
  rw [← run_filter h hs]; rfl
theorem undF_get {fs : List FileB} {p : ByteArray} {i : Nat} (h : Rise fs) (hs : Spot fs p i) {t : Nat} (ht : t < (undF fs p).length) : ∃ h2 : i + t < fs.length, (undF fs p)[t] = fs[i + t] := by
  have he : undF fs p = (fs.drop i).takeWhile (beginsF p) := (run_filter h hs).symm
  have hp : undF fs p <+: fs.drop i := by rw [he]; exact List.takeWhile_prefix _
  have hl := hp.length_le
  have h3 : t < (fs.drop i).length := by omega
  have h2 : i + t < fs.length := by simp at h3; omega
  refine ⟨h2, ?_⟩
  have := List.IsPrefix.getElem hp ht
  rw [this, List.getElem_drop]
/-- is there a path of the folder that is p -/
theorem there_spot {fs : List FileB} {p : ByteArray} {i : Nat} (hs : Spot fs p i) (h : thereB fs p i = false) (hr : Rise fs) : ∀ f ∈ fs, f.1 ≠ p := by
  intro f hf he
  obtain ⟨t, ht, rfl⟩ := List.mem_iff_getElem.1 hf
  have h0 : cmpP p fs[t] = 0 := by unfold cmpP; rw [he]; exact (cmp_zero _ _).2 rfl
  have hit : i ≤ t := by
    refine Classical.byContradiction fun hn => ?_
    have := hs.lo t ht (by omega); omega
  have hil : i < fs.length := by omega
  have h1 := hs.hi i hil (Nat.le_refl _)
  have h2 : cmpP p fs[i] ≤ 0 := by
    by_cases hx : i = t
    · subst hx; omega
    · have := List.pairwise_iff_getElem.1 hr i t hil ht (by omega)
      exact cmp_le_trans _ _ _ this (by unfold cmpP at h0; omega)
  unfold thereB at h
  rw [List.getElem?_eq_getElem hil] at h
  simp at h
  omega
theorem there_get {fs : List FileB} {p : ByteArray} {i : Nat} (h : thereB fs p i = true) : ∃ hi : i < fs.length, fs[i].1 = p := by
  unfold thereB at h
  by_cases hi : i < fs.length
  · rw [List.getElem?_eq_getElem hi] at h
    simp at h
    exact ⟨hi, ba_eq ((cmp_zero _ _).1 h)⟩
  · rw [List.getElem?_eq_none (by omega)] at h; simp at h
theorem sorted_rise {d : Array FileB} (h : SortedIn (ltOf cmpF) 0 d.size d) : Rise d.toList := by
  refine List.pairwise_iff_getElem.2 fun i j hi hj hij => ?_
  have h1 : i < d.size := by simpa using hi
  have h2 : j < d.size := by simpa using hj
  have := h i j (Nat.zero_le _) hij h2
  rw [getElem!_pos d i h1, getElem!_pos d j h2, ltOf_cmp] at this
  simp only [decide_eq_false_iff_not] at this
  have ha := cmp_anti d[i].1.data.toList d[j].1.data.toList
  simp only [Array.getElem_toList]
  unfold cmpF at this ⊢
  omega
theorem perm_in {d d' : Array FileB} (h : PermIn 0 d.size d d') : d'.toList.Perm d.toList := by
  have h1 := h.2.2
  have h2 := h.1
  rwa [Array.extract_size, ← h2, Array.extract_size] at h1
theorem rise_twice {fs : List FileB} (h : Rise fs) : twiceB fs = false ↔ RiseS fs := by
  unfold twiceB
  simp only [Bool.not_eq_false', decide_eq_true_eq]
  constructor
  · intro ht
    have hs : ∀ t (h2 : t + 1 < fs.length), cmpF fs[t] fs[t + 1] < 0 := fun t h2 => by
      have a := List.pairwise_iff_getElem.1 h t (t + 1) (by omega) h2 (by omega)
      have b := ht t h2 (by omega)
      have c : cmpF fs[t] fs[t + 1] ≠ 0 := fun h0 => b (ba_eq ((cmp_zero _ _).1 h0))
      omega
    refine List.pairwise_iff_getElem.2 fun i j hi hj hij => ?_
    have a := hs i (by omega)
    by_cases hx : i + 1 = j
    · subst hx; exact a
    · have b := List.pairwise_iff_getElem.1 h (i + 1) j (by omega) hj (by omega)
      exact cmp_lt_of_lt_of_le a b
  · intro hr t h2 _ he
    have a := List.pairwise_iff_getElem.1 hr t (t + 1) (by omega) h2 (by omega)
    unfold cmpF at a
    rw [he, (cmp_zero _ _).2 rfl] at a
    omega
/-- no path stands there twice -/
def Apart (fs : List FileB) : Prop := fs.Pairwise fun f g => f.1 ≠ g.1
theorem RiseS.apart {fs : List FileB} (h : RiseS fs) : Apart fs := List.Pairwise.imp (fun {f g} h e => by
  unfold cmpF at h
  rw [e, (cmp_zero _ _).2 rfl] at h; omega) h
theorem Apart.rise {fs : List FileB} (h : Apart fs) (hr : Rise fs) : RiseS fs := by
  refine List.pairwise_iff_getElem.2 fun i j hi hj hij => ?_
  have a := List.pairwise_iff_getElem.1 hr i j hi hj hij
  have b := List.pairwise_iff_getElem.1 h i j hi hj hij
  have c : cmpF fs[i] fs[j] ≠ 0 := fun h0 => b (ba_eq ((cmp_zero _ _).1 h0))
  omega
theorem Apart.perm {fs gs : List FileB} (h : fs.Perm gs) : Apart fs ↔ Apart gs := h.pairwise_iff (fun h e => h e.symm)
theorem sizeF_perm {fs gs : List FileB} (h : fs.Perm gs) : sizeF fs = sizeF gs := (h.map _).sum_nat
/-- two rising rows of the same files are one -/
theorem RiseS.one {fs gs : List FileB} (h : fs.Perm gs) (hf : RiseS fs) (hg : RiseS gs) : fs = gs := by
  refine List.Perm.eq_of_pairwise (le := fun f g => cmpF f g < 0) ?_ hf hg h
  intro a b _ _ h1 h2
  have := cmp_anti a.1.data.toList b.1.data.toList
  unfold cmpF at h1 h2
  omega
/-- a folder's files may stand together -/
def okF (sl : ByteArray) (fs : List FileB) : Prop := (∀ f ∈ fs, cleanB f.1 = true) ∧ Apart fs ∧ ∀ f ∈ fs, ∀ g ∈ fs, beginsF (f.1 ++ sl) g = false
theorem okF.perm {sl : ByteArray} {fs gs : List FileB} (h : fs.Perm gs) (hf : okF sl fs) : okF sl gs :=
  ⟨fun f hm => hf.1 f (h.mem_iff.2 hm), (Apart.perm h).1 hf.2.1, fun f hm g hn => hf.2.2 f (h.mem_iff.2 hm) g (h.mem_iff.2 hn)⟩
end Go.Proofs.YtolohndbbnbfbaaDoor
