/-
  Taken over from another program: PrtM.
  Taken over from another program: TolM.
-/
import Derived.Test.YtlmeoahcpmikiaaGreatDoorJSnapL
import Derived.Test.YtlmeoahcpmikiaaGreatDoorJLrC
namespace Go.Proofs.YtlmeoahcpmikiaaGreatDoor
open Go.RowKit
/-- the parts between the slashes -/
def partsL : List UInt8 → List (List UInt8)
  | [] => [[]]
  | c :: l => if c = 47 then [] :: partsL l else match partsL l with
    | h :: t => (c :: h) :: t
    | [] => [[c]]
theorem partsL_ne (l : List UInt8) : partsL l ≠ [] := by
  cases l with
  | nil => simp [partsL]
  | cons c l =>
    unfold partsL
    split
    · simp
    · split <;> simp
theorem partsL_cons (c : UInt8) (l : List UInt8) : partsL (c :: l) = if c = 47 then [] :: partsL l else match partsL l with
    | h :: t => (c :: h) :: t
    | [] => [[c]] := rfl
theorem partsL_app (a b : List UInt8) : partsL (a ++ 47 :: b) = partsL a ++ partsL b := by
  induction a with
  | nil => simp [partsL]
  | cons c a ih =>
    rw [List.cons_append, partsL_cons, partsL_cons c a]
    by_cases hc : c = 47
    · rw [if_pos hc, if_pos hc, ih]; rfl
    · rw [if_neg hc, if_neg hc, ih]
      cases hp : partsL a with
      | nil => exact absurd hp (partsL_ne a)
      | cons h t => rfl
theorem partsL_none (l : List UInt8) (h : (47 : UInt8) ∉ l) : partsL l = [l] := by
  induction l with
  | nil => rfl
  | cons c l ih =>
    unfold partsL
    rw [if_neg (fun e => h (by simp [e])), ih (fun e => h (List.mem_cons_of_mem _ e))]
theorem index_mem (l : List UInt8) (h : Lib.indexByte l 47 = -1) : (47 : UInt8) ∉ l := by
  intro hm
  obtain ⟨k, hk, he⟩ := List.mem_iff_getElem.1 hm
  exact Lib.indexByte_none h k (by rw [List.getElem?_eq_getElem hk, he])
theorem splitB_parts : ∀ (k : Nat) (s : ByteArray), Lib.countByte s.data.toList 47 = k → (Lib.splitB slash 0 k s).map (fun b => b.data.toList) = partsL s.data.toList := by
  intro k
  induction k with
  | zero =>
    intro s h
    rw [Lib.splitB_zero]
    unfold Lib.countByte at h
    rw [partsL_none _ (List.count_eq_zero.1 h)]; rfl
  | succ k ih =>
    intro s h
    unfold Lib.splitB
    rw [index_slash]
    by_cases hi : Lib.indexByte s.data.toList 47 = -1
    · rw [if_pos (by simp [hi]), partsL_none _ (index_mem _ hi)]; rfl
    · rw [if_neg (by simpa using hi)]
      obtain ⟨o, ho⟩ : ∃ o : Nat, Lib.indexByte s.data.toList 47 = o := ⟨(Lib.indexByte s.data.toList 47).toNat, by have := Lib.indexByte_ge s.data.toList 47; omega⟩
      rw [ho]
      have hsome := Lib.indexByte_some ho
      obtain ⟨hol, hoe⟩ := List.getElem?_eq_some_iff.1 hsome.1
      have hl : s.data.toList = s.data.toList.take o ++ 47 :: s.data.toList.drop (o + 1) := by
        conv => lhs; rw [← List.take_append_drop o s.data.toList, List.drop_eq_getElem_cons hol, hoe]
      have hno : (47 : UInt8) ∉ s.data.toList.take o := by
        intro hm
        obtain ⟨j, hj, he⟩ := List.mem_iff_getElem.1 hm
        have hj2 : j < o := by rw [List.length_take] at hj; omega
        exact hsome.2 j hj2 (by rw [List.getElem_take] at he; rw [List.getElem?_eq_getElem (by omega), he])
      have e1 : (s.extract 0 ((o : Int).toNat + 0)).data.toList = s.data.toList.take o := by rw [Lib.extract_data]; simp
      have e2 : (s.extract ((o : Int).toNat + slash.size) s.size).data.toList = s.data.toList.drop (o + 1) := by
        rw [Lib.extract_data]
        rw [show (o : Int).toNat + slash.size = o + 1 from rfl]
        refine List.take_of_length_le ?_
        rw [List.length_drop, ← Lib.size_eq]; omega
      have hcount : Lib.countByte (s.data.toList.drop (o + 1)) 47 = k := by
        unfold Lib.countByte at h ⊢
        rw [hl, List.count_append, List.count_cons_self, List.count_eq_zero.2 hno] at h
        omega
      rw [List.map_cons, e1, ih _ (by rw [e2]; exact hcount), e2]
      conv => rhs; rw [hl]
      rw [partsL_app, partsL_none _ hno]; rfl
theorem parts_eq (s : ByteArray) : (partsB s).map (fun b => b.data.toList) = partsL s.data.toList := by
  unfold partsB
  rw [count_slash]
  exact splitB_parts _ s rfl
/-- a path, over its bytes -/
def cleanL (l : List UInt8) : Bool := decide (l.length ≤ 200) && plainL l && (partsL l).all partOk
theorem clean_eq (s : ByteArray) : cleanB s = cleanL s.data.toList := by
  unfold cleanB cleanL wholeL
  rw [← parts_eq, List.all_map, Lib.size_eq]; rfl
theorem cleanL_iff {l : List UInt8} : cleanL l = true ↔ l.length ≤ 200 ∧ plainL l = true ∧ ∀ p ∈ partsL l, partOk p = true := by
  unfold cleanL
  simp only [Bool.and_eq_true, decide_eq_true_eq, List.all_eq_true]
  exact ⟨fun h => ⟨h.1.1, h.1.2, h.2⟩, fun h => ⟨⟨h.1, h.2.1⟩, h.2.2⟩⟩
end Go.Proofs.YtlmeoahcpmikiaaGreatDoor
namespace Go.Proofs.YtlmeoahcpmikiaaGreatDoor
open Go.RowKit
theorem idB_len40 {l : List UInt8} (h : idB l = true) : l.length = 40 := by
  unfold idB at h; rw [Bool.and_eq_true] at h; simpa using h.2
theorem idB_digs {l : List UInt8} (h : idB l = true) : ∀ c ∈ l, isDigT c = true := by
  unfold idB at h; rw [Bool.and_eq_true] at h; exact List.all_eq_true.1 h.1
theorem dig_plain {c : UInt8} (h : isDigT c = true) : decide (32 ≤ c.toNat ∧ c.toNat ≤ 126) = true ∧ c ≠ 46 := by
  have h1 := digit_cases c h
  refine ⟨decide_eq_true (by omega), fun e => ?_⟩
  rw [e] at h1
  have : (46 : UInt8).toNat = 46 := rfl
  omega
theorem path_clean {id : ByteArray} (h : idB id.data.toList = true) : cleanB (pathB id) = true := by
  have hl := idB_len40 h
  have hd := idB_digs h
  have hn := idB_clean h
  rw [clean_eq, pathB_list]
  generalize id.data.toList = l at *
  have h2 : (47 : UInt8) ∉ l.take 2 := fun hm => hn (List.mem_of_mem_take hm)
  have h3 : (47 : UInt8) ∉ l.drop 2 := fun hm => hn (List.mem_of_mem_drop hm)
  refine cleanL_iff.2 ⟨?_, ?_, ?_⟩
  · simp [objL, hl]
  · unfold plainL
    rw [List.all_append, List.all_append, List.all_append]
    have a1 : (objL.all fun c => decide (32 ≤ c.toNat ∧ c.toNat ≤ 126)) = true := by decide
    have a2 : ((l.take 2).all fun c => decide (32 ≤ c.toNat ∧ c.toNat ≤ 126)) = true := List.all_eq_true.2 fun c hc => (dig_plain (hd c (List.mem_of_mem_take hc))).1
    have a3 : ((l.drop 2).all fun c => decide (32 ≤ c.toNat ∧ c.toNat ≤ 126)) = true := List.all_eq_true.2 fun c hc => (dig_plain (hd c (List.mem_of_mem_drop hc))).1
    rw [a1, a2, a3]; rfl
  · have e : objL ++ l.take 2 ++ [47] ++ l.drop 2 = [111, 98, 106, 101, 99, 116, 115] ++ 47 :: (l.take 2 ++ 47 :: l.drop 2) := by simp [objL]
    rw [e, partsL_app, partsL_app, partsL_none _ h2, partsL_none _ h3, partsL_none _ (by decide)]
    intro p hp
    simp only [List.cons_append, List.nil_append, List.mem_cons, List.not_mem_nil, or_false] at hp
    rcases hp with rfl | rfl | rfl
    · decide
    · obtain ⟨a, b, r, rfl⟩ : ∃ a b r, l = a :: b :: r := by
        rcases l with _ | ⟨a, _ | ⟨b, r⟩⟩
        · cases hl
        · cases hl
        · exact ⟨a, b, r, rfl⟩
      have ha := (dig_plain (hd a (by simp))).2
      unfold partOk
      simp [ha]
    · obtain ⟨a, b, c, d, e, r, rfl⟩ : ∃ a b c d e r, l = a :: b :: c :: d :: e :: r := by
        rcases l with _ | ⟨a, _ | ⟨b, _ | ⟨c, _ | ⟨d, _ | ⟨e, r⟩⟩⟩⟩⟩ <;> first | cases hl | exact ⟨_,_,_,_,_,_, rfl⟩
      unfold partOk
      simp
theorem path_size {id : ByteArray} (h : idB id.data.toList = true) : (pathB id).size = 49 := by
  have hl := idB_len40 h
  rw [← len_size, pathB_list]
  simp [objL, hl]
theorem begins_no {p : ByteArray} {g : FileB} (h : g.1.size < p.size) : beginsF p g = false := by
  unfold beginsF Lib.hasPrefix
  refine Bool.eq_false_iff.2 fun ht => ?_
  have := (List.isPrefixOf_iff_prefix.1 ht).length_le
  rw [len_size, len_size] at this
  omega
end Go.Proofs.YtlmeoahcpmikiaaGreatDoor
