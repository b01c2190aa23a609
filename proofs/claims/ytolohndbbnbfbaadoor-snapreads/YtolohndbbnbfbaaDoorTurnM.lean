/-
  Items of a folder: they rise, each once; how many files each one stands for.
-/
import Derived.Test.YtolohndbbnbfbaaDoorPartM
namespace Go.Proofs.YtolohndbbnbfbaaDoor
open Go.RowKit Go.Lib

theorem first_mono (r : List UInt8) : ∀ s, Lib.compareBytes r s ≤ 0 → firstL r = firstL s ∨ Lib.compareBytes (firstL r) (firstL s) < 0 := by
  induction r with
  | nil =>
    intro s _
    cases s with
    | nil => exact .inl rfl
    | cons y s =>
      right
      unfold firstL
      split <;> simp [Lib.compareBytes]
  | cons x r ih =>
    intro s h
    cases s with
    | nil => simp [Lib.compareBytes] at h
    | cons y s =>
      rw [cmp_cons] at h
      by_cases hxy : x.toNat < y.toNat
      · right
        have hhead : ∀ (c : UInt8) (l : List UInt8), ∃ t, firstL (c :: l) = c :: t := fun c l => by
          unfold firstL
          split
          · exact ⟨[], rfl⟩
          · exact ⟨_, rfl⟩
        obtain ⟨t1, e1⟩ := hhead x r
        obtain ⟨t2, e2⟩ := hhead y s
        rw [e1, e2, cmp_cons, if_pos hxy]; decide
      · rw [if_neg hxy] at h
        by_cases hyx : y.toNat < x.toNat
        · rw [if_pos hyx] at h; simp at h
        · rw [if_neg hyx] at h
          have : x = y := by rw [← UInt8.toNat_inj]; omega
          subst this
          unfold firstL
          by_cases h47 : x = 47
          · rw [if_pos h47, if_pos h47]; exact .inl rfl
          · rw [if_neg h47, if_neg h47]
            rcases ih s h with h1 | h1
            · rw [h1]; exact .inl rfl
            · right
              rw [cmp_cons, if_neg (Nat.lt_irrefl _), if_neg (Nat.lt_irrefl _)]; exact h1
theorem first_shape (r : List UInt8) : (firstL r = r ∧ (47 : UInt8) ∉ r) ∨ ∃ a b, (47 : UInt8) ∉ a ∧ r = a ++ 47 :: b ∧ firstL r = a ++ [47] := by
  induction r with
  | nil => exact .inl ⟨rfl, by simp⟩
  | cons x r ih =>
    unfold firstL
    by_cases h : x = 47
    · rw [if_pos h]; subst h
      exact .inr ⟨[], r, by simp, rfl, rfl⟩
    · rw [if_neg h]
      rcases ih with ⟨h1, h2⟩ | ⟨a, b, h1, h2, h3⟩
      · exact .inl ⟨by rw [h1], by simp [h2, Ne.symm h]⟩
      · refine .inr ⟨x :: a, b, by simp [h1, Ne.symm h], by rw [h2]; rfl, by rw [h3]; rfl⟩
theorem first_cut (a b : List UInt8) (h : (47 : UInt8) ∉ a) : firstL (a ++ 47 :: b) = a ++ [47] := by
  induction a with
  | nil => unfold firstL; simp
  | cons x a ih =>
    rw [List.cons_append]
    unfold firstL
    rw [if_neg (fun e => h (by simp [e])), ih (fun e => h (List.mem_cons_of_mem _ e))]; rfl
/-- what stands behind the beginning -/
def restL (n : Nat) (f : FileB) : List UInt8 := f.1.data.toList.drop n
theorem itemOf_data (n : Nat) (f : FileB) : (itemOf n f).data.toList = firstL (restL n f) := by
  unfold itemOf firstB restL
  simp only
  rw [Lib.extract_data, List.take_of_length_le (by rw [List.length_drop, Lib.size_eq]; omega)]
theorem begins_rest {p : ByteArray} {f : FileB} (h : beginsF p f = true) : f.1.data.toList = p.data.toList ++ restL p.size f := by
  unfold restL
  obtain ⟨t, ht⟩ := List.isPrefixOf_iff_prefix.1 h
  rw [← ht, Lib.size_eq, List.drop_left]
theorem cmp_left (p a b : List UInt8) : Lib.compareBytes (p ++ a) (p ++ b) = Lib.compareBytes a b := by
  induction p with
  | nil => rfl
  | cons x p ih => rw [List.cons_append, List.cons_append, cmp_cons, if_neg (Nat.lt_irrefl _), if_neg (Nat.lt_irrefl _), ih]
def cmpB (a b : ByteArray) : Int := Lib.compareBytes a.data.toList b.data.toList
theorem item_mono {p : ByteArray} {f g : FileB} (hf : beginsF p f = true) (hg : beginsF p g = true) (h : cmpF f g ≤ 0) : itemOf p.size f = itemOf p.size g ∨ cmpB (itemOf p.size f) (itemOf p.size g) < 0 := by
  unfold cmpF at h
  rw [begins_rest hf, begins_rest hg, cmp_left] at h
  rcases first_mono _ _ h with h1 | h1
  · exact .inl (ba_eq (by rw [itemOf_data, itemOf_data, h1]))
  · right
    unfold cmpB
    rw [itemOf_data, itemOf_data]; exact h1
/-- the items rise, and the last one is the last file's -/
theorem items_rise {p : ByteArray} {us : List FileB} (hr : Rise us) (hb : ∀ f ∈ us, beginsF p f = true) (k : Nat) (hk : k ≤ us.length) :
    (itemsF p.size (us.take k)).Pairwise (fun a b => cmpB a b < 0) ∧ (∀ h : 0 < k, (itemsF p.size (us.take k)).getLast? = some (itemOf p.size (us[k - 1]'(by omega)))) ∧ (∀ x, x ∈ itemsF p.size (us.take k) ↔ ∃ t, ∃ h : t < us.length, t < k ∧ itemOf p.size us[t] = x) := by
  induction k with
  | zero => exact ⟨by simp [itemsF], fun h => by omega, fun x => ⟨fun h => by simp [itemsF] at h, fun ⟨t, _, ht, _⟩ => by omega⟩⟩
  | succ k ih =>
    have hlt : k < us.length := by omega
    obtain ⟨h1, h2, h3⟩ := ih (by omega)
    rw [itemsF_take p.size us k hlt]
    generalize itemsF p.size (us.take k) = L at *
    have hmem : ∀ x, x ∈ L ++ [itemOf p.size us[k]] ↔ ∃ t, ∃ h : t < us.length, t < k + 1 ∧ itemOf p.size us[t] = x := fun x => by
      rw [List.mem_append, h3 x]
      constructor
      · rintro (⟨t, ht, h4, h5⟩ | h4)
        · exact ⟨t, ht, by omega, h5⟩
        · exact ⟨k, hlt, by omega, (List.mem_singleton.1 h4).symm⟩
      · rintro ⟨t, ht, h4, h5⟩
        by_cases h6 : t < k
        · exact .inl ⟨t, ht, h6, h5⟩
        · have : t = k := by omega
          subst this
          exact .inr (by rw [h5]; simp)
    unfold stepI
    by_cases hl : L.getLast? = some (itemOf p.size us[k])
    · rw [if_pos hl]
      refine ⟨h1, fun _ => by simpa using hl, fun x => ?_⟩
      rw [← hmem x, List.mem_append]
      constructor
      · exact .inl
      · rintro (h4 | h4)
        · exact h4
        · rw [List.mem_singleton.1 h4]; exact List.mem_of_getLast? hl
    · rw [if_neg hl]
      refine ⟨?_, fun _ => by simp, hmem⟩
      rw [List.pairwise_append]
      refine ⟨h1, List.pairwise_singleton _ _, fun a ha b hbm => ?_⟩
      rw [List.mem_singleton.1 hbm]
      obtain ⟨t, ht, h4, h5⟩ := (h3 a).1 ha
      have h0 : 0 < k := by omega
      have hlast := h2 h0
      have hne : itemOf p.size (us[k - 1]'(by omega)) ≠ itemOf p.size us[k] := fun e => hl (by rw [hlast, e])
      have hm1 := item_mono (hb _ (List.getElem_mem (show k - 1 < us.length by omega))) (hb _ (List.getElem_mem hlt)) (List.pairwise_iff_getElem.1 hr (k - 1) k (by omega) hlt (by omega))
      have hm2 : cmpB (itemOf p.size (us[k - 1]'(by omega))) (itemOf p.size us[k]) < 0 := hm1.resolve_left hne
      rw [← h5]
      by_cases h6 : t = k - 1
      · subst h6; exact hm2
      · rcases item_mono (hb _ (List.getElem_mem ht)) (hb _ (List.getElem_mem (show k - 1 < us.length by omega))) (List.pairwise_iff_getElem.1 hr t (k - 1) ht (by omega) (by omega)) with h7 | h7
        · rw [h7]; exact hm2
        · exact cmp_lt_of_lt_of_le h7 (by unfold cmpB at hm2; omega)
theorem items_all {p : ByteArray} {us : List FileB} (hr : Rise us) (hb : ∀ f ∈ us, beginsF p f = true) : (itemsF p.size us).Nodup ∧ ∀ x, x ∈ itemsF p.size us ↔ ∃ f ∈ us, itemOf p.size f = x := by
  obtain ⟨h1, _, h3⟩ := items_rise hr hb us.length (Nat.le_refl _)
  rw [List.take_of_length_le (Nat.le_refl _)] at h1 h3
  refine ⟨List.Pairwise.imp (fun {a b} h e => ?_) h1, fun x => ?_⟩
  · unfold cmpB at h
    rw [e, (cmp_zero _ _).2 rfl] at h; omega
  · rw [h3 x]
    constructor
    · rintro ⟨t, ht, _, h⟩; exact ⟨us[t], List.getElem_mem ht, h⟩
    · rintro ⟨f, hf, h⟩
      obtain ⟨t, ht, rfl⟩ := List.mem_iff_getElem.1 hf
      exact ⟨t, ht, ht, h⟩
open Classical in
/-- how many files have one of the first k items -/
noncomputable def cntK (n : Nat) (us : List FileB) (L : List ByteArray) (k : Nat) : Nat := (us.filter fun f => decide (itemOf n f ∈ L.take k)).length
open Classical in
noncomputable def cntX (n : Nat) (us : List FileB) (x : ByteArray) : Nat := (us.filter fun f => decide (itemOf n f = x)).length
theorem cntK_zero (n : Nat) (us : List FileB) (L : List ByteArray) : cntK n us L 0 = 0 := by unfold cntK; simp
theorem cntK_succ (n : Nat) (us : List FileB) (L : List ByteArray) (hL : L.Nodup) (k : Nat) (h : k < L.length) : cntK n us L (k + 1) = cntK n us L k + cntX n us L[k] := by
  have hno : L[k] ∉ L.take k := by
    intro hm
    obtain ⟨j, hj, he⟩ := List.mem_iff_getElem.1 hm
    rw [List.length_take] at hj
    rw [List.getElem_take] at he
    have := (List.nodup_iff_pairwise_ne.1 hL)
    exact List.pairwise_iff_getElem.1 this j k (by omega) h (by omega) he
  unfold cntK cntX
  induction us with
  | nil => rfl
  | cons f us ih =>
    rw [List.filter_cons, List.filter_cons, List.filter_cons]
    have hiff : itemOf n f ∈ L.take (k + 1) ↔ itemOf n f ∈ L.take k ∨ itemOf n f = L[k] := by
      rw [List.take_succ_eq_append_getElem h, List.mem_append, List.mem_singleton]
    by_cases h1 : itemOf n f ∈ L.take k
    · have h2 : itemOf n f ≠ L[k] := fun e => hno (e ▸ h1)
      rw [if_pos (by simpa using hiff.2 (.inl h1)), if_pos (by simpa using h1), if_neg (by simpa using h2)]
      simp only [List.length_cons]; omega
    · by_cases h2 : itemOf n f = L[k]
      · rw [if_pos (by simpa using hiff.2 (.inr h2)), if_neg (by simpa using h1), if_pos (by simpa using h2)]
        simp only [List.length_cons]; omega
      · rw [if_neg (by simp only [decide_eq_true_eq]; rw [hiff]; exact fun h => h.elim h1 h2), if_neg (by simpa using h1), if_neg (by simpa using h2)]
        exact ih
theorem cntK_all {p : ByteArray} {us : List FileB} (hr : Rise us) (hb : ∀ f ∈ us, beginsF p f = true) : cntK p.size us (itemsF p.size us) (itemsF p.size us).length = us.length := by
  unfold cntK
  rw [List.take_of_length_le (Nat.le_refl _)]
  congr 1
  rw [List.filter_eq_self]
  intro f hf
  simp only [decide_eq_true_eq]
  exact ((items_all hr hb).2 _).2 ⟨f, hf, rfl⟩
theorem apart_one (l : List FileB) (h : Apart l) (f : FileB) (hf : f ∈ l) (q : FileB → Bool) (hq : ∀ g ∈ l, q g = true ↔ g.1 = f.1) : (l.filter q).length = 1 := by
  induction l with
  | nil => cases hf
  | cons g l ih =>
    have h1 := List.pairwise_cons.1 h
    rw [List.filter_cons]
    rcases List.mem_cons.1 hf with rfl | hfl
    · rw [if_pos ((hq f List.mem_cons_self).2 rfl)]
      have : l.filter q = [] := by
        rw [List.filter_eq_nil_iff]
        intro x hx hqx
        exact h1.1 x hx ((hq x (List.mem_cons_of_mem _ hx)).1 hqx).symm
      rw [this]; rfl
    · have : ¬ q g = true := fun hqg => h1.1 f hfl ((hq g List.mem_cons_self).1 hqg)
      rw [if_neg this]
      exact ih h1.2 hfl (fun x hx => hq x (List.mem_cons_of_mem _ hx))
/-- an item without a slash at its end is a file -/
theorem item_file {p : ByteArray} {gs : List FileB} {f : FileB} (hap : Apart gs) (hf : f ∈ undF gs p) (h47 : ∀ a, firstL (restL p.size f) ≠ a ++ [47]) :
    f.1 = p ++ itemOf p.size f ∧ cntX p.size (undF gs p) (itemOf p.size f) = 1 := by
  have hbf := (List.mem_filter.1 hf).2
  have hpath : ∀ g, beginsF p g = true → (∀ a, firstL (restL p.size g) ≠ a ++ [47]) → g.1.data.toList = p.data.toList ++ (itemOf p.size g).data.toList := fun g hg hn => by
    rw [itemOf_data]
    rcases first_shape (restL p.size g) with ⟨h1, _⟩ | ⟨a, b, _, _, h3⟩
    · rw [h1]; exact begins_rest hg
    · exact absurd h3 (hn a)
  have happ : ∀ x : ByteArray, (p ++ x).data.toList = p.data.toList ++ x.data.toList := fun x => by simp
  refine ⟨ba_eq (by rw [happ]; exact hpath f hbf h47), ?_⟩
  unfold cntX
  refine apart_one (undF gs p) (List.Pairwise.filter _ hap) f hf _ fun g hg => ?_
  have hbg := (List.mem_filter.1 hg).2
  simp only [decide_eq_true_eq]
  constructor
  · intro he
    have hdata : firstL (restL p.size g) = firstL (restL p.size f) := by rw [← itemOf_data, ← itemOf_data, he]
    have := hpath g hbg (fun a e => h47 a (by rw [← hdata]; exact e))
    refine ba_eq ?_
    rw [this, hpath f hbf h47, he]
  · intro he
    refine ba_eq ?_
    rw [itemOf_data, itemOf_data]
    unfold restL; rw [he]
/-- an item with a slash at its end is a folder: its files are those that begin so -/
theorem item_folder {p : ByteArray} {gs : List FileB} {f : FileB} (hf : f ∈ undF gs p) {a : List UInt8} (ha : firstL (restL p.size f) = a ++ [47]) :
    cntX p.size (undF gs p) (itemOf p.size f) = (undF gs (p ++ itemOf p.size f)).length ∧ ∃ b, f.1.data.toList = (p.data.toList ++ a) ++ 47 :: b := by
  have hbf := (List.mem_filter.1 hf).2
  obtain ⟨a', b', h1, h2, h3⟩ : ∃ a b, (47 : UInt8) ∉ a ∧ restL p.size f = a ++ 47 :: b ∧ firstL (restL p.size f) = a ++ [47] := by
    rcases first_shape (restL p.size f) with ⟨h1, h2⟩ | h
    · rw [h1] at ha
      rw [ha] at h2
      exact absurd (List.mem_append.2 (.inr (List.mem_singleton.2 rfl))) h2
    · exact h
  obtain rfl : a' = a := by
    rw [h3] at ha
    exact (List.append_inj' ha rfl).1
  refine ⟨?_, b', by rw [begins_rest hbf, h2]; simp⟩
  unfold cntX
  rw [und_more gs p (itemOf p.size f)]
  congr 1
  refine List.filter_congr fun g hg => ?_
  have hbg := (List.mem_filter.1 hg).2
  have happ : (p ++ itemOf p.size f).data.toList = p.data.toList ++ (a' ++ [47]) := by rw [ByteArray.data_append, Array.toList_append, itemOf_data, ha]
  by_cases he : itemOf p.size g = itemOf p.size f
  · have hd : firstL (restL p.size g) = a' ++ [47] := by rw [← itemOf_data, he, itemOf_data, ha]
    have hbeg : beginsF (p ++ itemOf p.size f) g = true := by
      unfold beginsF Lib.hasPrefix
      rw [List.isPrefixOf_iff_prefix, happ, begins_rest hbg]
      rcases first_shape (restL p.size g) with ⟨h4, h5⟩ | ⟨a2, b2, _, h5, h6⟩
      · rw [h4] at hd
        rw [hd]; exact List.prefix_refl _
      · rw [h6] at hd
        obtain rfl : a2 = a' := (List.append_inj' hd rfl).1
        rw [h5]
        exact ⟨b2, by simp⟩
    rw [hbeg]; simp [he]
  · have : beginsF (p ++ itemOf p.size f) g = false := by
      refine Bool.eq_false_iff.2 fun hbeg => he ?_
      obtain ⟨t, ht⟩ := List.isPrefixOf_iff_prefix.1 hbeg
      rw [happ, begins_rest hbg, List.append_assoc] at ht
      have hr := List.append_cancel_left ht
      refine ba_eq ?_
      rw [itemOf_data, itemOf_data, ha, ← hr, List.append_assoc]
      exact first_cut a' t h1
    rw [this]; simp [he]
theorem cleanL_ne {l : List UInt8} (h : cleanL l = true) : l ≠ [] := fun e => by
  subst e
  have := (cleanL_iff.1 h).2.2 [] (by simp [partsL])
  simp [partOk] at this
/-- how the paths of a folder begin -/
def frontOf (p : ByteArray) : ByteArray := if p.size = 0 then ⟨#[]⟩ else p ++ slashB
theorem app_data (p x : ByteArray) : (p ++ x).data.toList = p.data.toList ++ x.data.toList := by simp
theorem front_data {p : ByteArray} (h : p.size ≠ 0) : (frontOf p).data.toList = p.data.toList ++ [47] := by
  unfold frontOf
  rw [if_neg h, app_data]; rfl
theorem front_zero {p : ByteArray} (h : p.size = 0) : frontOf p = ⟨#[]⟩ := by unfold frontOf; rw [if_pos h]
theorem item_ne {gs : List FileB} {p : ByteArray} {f : FileB} (hcl : ∀ f ∈ gs, cleanB f.1 = true) (hf : f ∈ undF gs (frontOf p)) : 0 < (itemOf (frontOf p).size f).size := by
  refine Nat.pos_of_ne_zero fun h0 => ?_
  have hd : firstL (restL (frontOf p).size f) = [] := by
    rw [← itemOf_data]
    refine List.eq_nil_of_length_eq_zero ?_
    rw [← Lib.size_eq]; exact h0
  have hr : restL (frontOf p).size f = [] := by
    rcases first_shape (restL (frontOf p).size f) with ⟨h1, _⟩ | ⟨a, b, _, _, h3⟩
    · rw [h1] at hd; exact hd
    · rw [h3] at hd; simp at hd
  have hm := List.mem_filter.1 hf
  have hdata := begins_rest hm.2
  have hc := hcl f hm.1
  rw [hr, List.append_nil] at hdata
  rw [clean_eq, hdata] at hc
  by_cases h1 : p.size = 0
  · rw [front_zero h1] at hc
    exact cleanL_ne hc rfl
  · rw [front_data h1] at hc
    have := (cleanL_app hc).2 [] (by simp [partsL])
    simp [partOk] at this
theorem item_size {gs : List FileB} {p : ByteArray} {f : FileB} (hcl : ∀ f ∈ gs, cleanB f.1 = true) (hf : f ∈ undF gs (frontOf p)) : (itemOf (frontOf p).size f).size ≤ 200 ∧ (frontOf p).size ≤ 200 := by
  have hm := List.mem_filter.1 hf
  have hc := (cleanL_iff.1 (by rw [← clean_eq]; exact hcl f hm.1 : cleanL f.1.data.toList = true)).1
  have hdata := begins_rest hm.2
  rw [hdata, List.length_append] at hc
  have h1 : (itemOf (frontOf p).size f).size ≤ (restL (frontOf p).size f).length := by
    rw [Lib.size_eq, itemOf_data]
    rcases first_shape (restL (frontOf p).size f) with ⟨h1, _⟩ | ⟨a, b, _, h2, h3⟩
    · rw [h1]; exact Nat.le_refl _
    · rw [h3, h2]; simp
  rw [← Lib.size_eq] at hc
  omega
theorem last_byte {x : ByteArray} (h : 0 < x.size) : x.data.toList = x.data.toList.dropLast ++ [x[x.size - 1]'(by omega)] := by
  have hne : x.data.toList ≠ [] := fun e => by
    have h2 := Lib.size_eq x
    rw [e] at h2
    rw [h2] at h
    simp at h
  conv => lhs; rw [← List.dropLast_concat_getLast hne]
  congr 2
  rw [List.getLast_eq_getElem]
  have hl : x.data.toList.length = x.size := (Lib.size_eq x).symm
  simp only [hl]
  rfl
theorem turn_folder {gs : List FileB} {p : ByteArray} {f : FileB} (hcl : ∀ f ∈ gs, cleanB f.1 = true) (hf : f ∈ undF gs (frontOf p)) {a : List UInt8} (ha : firstL (restL (frontOf p).size f) = a ++ [47])
    {P : ByteArray} (hP : P = frontOf p ++ itemOf (frontOf p).size f) : cleanB (P.extract 0 (P.size - 1)) = true ∧ frontOf (P.extract 0 (P.size - 1)) = P ∧ p.size < (P.extract 0 (P.size - 1)).size ∧ 0 < P.size := by
  have hm := List.mem_filter.1 hf
  have hc := hcl f hm.1
  obtain ⟨b, hb⟩ := (item_folder hf ha).2
  rw [clean_eq, hb] at hc
  have hca := (cleanL_app hc).1
  have hPd : P.data.toList = ((frontOf p).data.toList ++ a) ++ [47] := by
    rw [hP, app_data, itemOf_data, ha, List.append_assoc]
  have hPs : P.size = ((frontOf p).data.toList ++ a).length + 1 := by rw [Lib.size_eq, hPd, List.length_append]; rfl
  have hGd : (P.extract 0 (P.size - 1)).data.toList = (frontOf p).data.toList ++ a := by
    rw [Lib.extract_data, hPd, hPs]
    simp only [List.drop_zero, Nat.add_sub_cancel, Nat.sub_zero]
    exact List.take_left
  have hne := cleanL_ne hca
  have hG0 : 0 < (P.extract 0 (P.size - 1)).size := by
    rw [Lib.size_eq, hGd]; exact List.length_pos_iff.2 hne
  refine ⟨by rw [clean_eq, hGd]; exact hca, ba_eq ?_, ?_, by omega⟩
  · rw [front_data (by omega), hGd, hPd]
  · by_cases h1 : p.size = 0
    · omega
    · rw [Lib.size_eq (P.extract 0 (P.size - 1)), hGd, front_data h1, Lib.size_eq p]
      simp only [List.length_append, List.length_cons, List.length_nil]; omega
theorem apart_eq {gs : List FileB} (h : Apart gs) {f g : FileB} (hf : f ∈ gs) (hg : g ∈ gs) (he : f.1 = g.1) : f = g := by
  obtain ⟨i, hi, rfl⟩ := List.mem_iff_getElem.1 hf
  obtain ⟨j, hj, rfl⟩ := List.mem_iff_getElem.1 hg
  by_cases hij : i < j
  · exact absurd he (List.pairwise_iff_getElem.1 h i j hi hj hij)
  · by_cases hji : j < i
    · exact absurd he.symm (List.pairwise_iff_getElem.1 h j i hj hi hji)
    · have : i = j := by omega
      subst this; rfl
end Go.Proofs.YtolohndbbnbfbaaDoor
