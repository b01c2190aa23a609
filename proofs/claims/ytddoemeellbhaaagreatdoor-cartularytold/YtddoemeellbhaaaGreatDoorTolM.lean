/-
  Two files that loose wrote make a folder, and the list of it is their two names.
-/
import Derived.Test.YtddoemeellbhaaaGreatDoorLrC
import Derived.Test.YtddoemeellbhaaaGreatDoorPrtM
namespace Go.Proofs.YtddoemeellbhaaaGreatDoor
open Go.RowKit

theorem idB_len40 {l : List UInt8} (h : idB l = true) : l.length = 40 := by
  unfold idB at h; rw [Bool.and_eq_true] at h; simpa using h.2
theorem idB_digs {l : List UInt8} (h : idB l = true) : ∀ c ∈ l, isDigT c = true := by
  unfold idB at h; rw [Bool.and_eq_true] at h; exact List.all_eq_true.1 h.1
theorem dig_plain {c : UInt8} (h : isDigT c = true) : decide (32 ≤ c.toNat ∧ c.toNat ≤ 126) = true ∧ c ≠ 46 := by
  have h1 := digit_cases c h
  refine ⟨decide_eq_true (by omega), fun e => ?_⟩
  rw [e] at h1
  have : (46 : UInt8).toNat = 46 := rfl
  omega
theorem path_clean {id : ByteArray} (h : idB id.data.toList = true) : cleanB (pathB id) = true := by
  have hl := idB_len40 h
  have hd := idB_digs h
  have hn := idB_clean h
  rw [clean_eq, pathB_list]
  generalize id.data.toList = l at *
  have h2 : (47 : UInt8) ∉ l.take 2 := fun hm => hn (List.mem_of_mem_take hm)
  have h3 : (47 : UInt8) ∉ l.drop 2 := fun hm => hn (List.mem_of_mem_drop hm)
  refine cleanL_iff.2 ⟨?_, ?_, ?_⟩
  · simp [objL, hl]
  · unfold plainL
    rw [List.all_append, List.all_append, List.all_append]
    have a1 : (objL.all fun c => decide (32 ≤ c.toNat ∧ c.toNat ≤ 126)) = true := by decide
    have a2 : ((l.take 2).all fun c => decide (32 ≤ c.toNat ∧ c.toNat ≤ 126)) = true := List.all_eq_true.2 fun c hc => (dig_plain (hd c (List.mem_of_mem_take hc))).1
    have a3 : ((l.drop 2).all fun c => decide (32 ≤ c.toNat ∧ c.toNat ≤ 126)) = true := List.all_eq_true.2 fun c hc => (dig_plain (hd c (List.mem_of_mem_drop hc))).1
    rw [a1, a2, a3]; rfl
  · have e : objL ++ l.take 2 ++ [47] ++ l.drop 2 = [111, 98, 106, 101, 99, 116, 115] ++ 47 :: (l.take 2 ++ 47 :: l.drop 2) := by simp [objL]
    rw [e, partsL_app, partsL_app, partsL_none _ h2, partsL_none _ h3, partsL_none _ (by decide)]
    intro p hp
    simp only [List.cons_append, List.nil_append, List.mem_cons, List.not_mem_nil, or_false] at hp
    rcases hp with rfl | rfl | rfl
    · decide
    · obtain ⟨a, b, r, rfl⟩ : ∃ a b r, l = a :: b :: r := by
        rcases l with _ | ⟨a, _ | ⟨b, r⟩⟩
        · cases hl
        · cases hl
        · exact ⟨a, b, r, rfl⟩
      have ha := (dig_plain (hd a (by simp))).2
      unfold partOk
      simp [ha]
    · obtain ⟨a, b, c, d, e, r, rfl⟩ : ∃ a b c d e r, l = a :: b :: c :: d :: e :: r := by
        rcases l with _ | ⟨a, _ | ⟨b, _ | ⟨c, _ | ⟨d, _ | ⟨e, r⟩⟩⟩⟩⟩ <;> first | cases hl | exact ⟨_,_,_,_,_,_, rfl⟩
      unfold partOk
      simp
theorem path_size {id : ByteArray} (h : idB id.data.toList = true) : (pathB id).size = 49 := by
  have hl := idB_len40 h
  rw [← len_size, pathB_list]
  simp [objL, hl]
theorem path_inj {a b : ByteArray} (ha : idB a.data.toList = true) (hb : idB b.data.toList = true) (h : pathB a = pathB b) : a = b := by
  have hla := idB_len40 ha
  have hlb := idB_len40 hb
  have e := congrArg (fun s : ByteArray => s.data.toList) h
  simp only [pathB_list] at e
  rw [List.append_assoc, List.append_assoc, List.append_assoc, List.append_assoc] at e
  have e1 := (List.append_inj e rfl).2
  have e2 := List.append_inj e1 (by rw [List.length_take, List.length_take, hla, hlb])
  have e3 : a.data.toList = b.data.toList := by
    rw [← List.take_append_drop 2 a.data.toList, ← List.take_append_drop 2 b.data.toList, e2.1, (List.append_inj e2.2 rfl).2]
  exact ByteArray.ext (Array.ext' e3)
/-- the two files -/
def twoF (a b X Y : ByteArray) : List FileB := [(pathB a, X), (pathB b, Y)]
theorem begins_no {p : ByteArray} {g : FileB} (h : g.1.size < p.size) : beginsF p g = false := by
  unfold beginsF Lib.hasPrefix
  refine Bool.eq_false_iff.2 fun ht => ?_
  have := (List.isPrefixOf_iff_prefix.1 ht).length_le
  rw [len_size, len_size] at this
  omega
theorem two_ok {a b X Y : ByteArray} (ha : idB a.data.toList = true) (hb : idB b.data.toList = true) (h : pathB a ≠ pathB b) : OkF (twoF a b X Y) := by
  have s1 := path_size ha
  have s2 := path_size hb
  refine ⟨fun f hf => ?_, ?_, fun f hf g hg => begins_no ?_⟩
  · unfold twoF at hf
    simp at hf
    rcases hf with rfl | rfl
    · exact path_clean ha
    · exact path_clean hb
  · unfold twoF Apart
    simp [h]
  · unfold twoF at hf hg
    simp at hf hg
    rw [ByteArray.size_append]
    have : slashB.size = 1 := rfl
    rcases hf with rfl | rfl <;> rcases hg with rfl | rfl <;> simp only [] <;> omega
theorem step_path {a : ByteArray} (ha : idB a.data.toList = true) : lstep (pathB a) = some a := by
  have hl := idB_len40 ha
  have e : (idOf (pathB a)).data.toList = a.data.toList := by
    rw [idOf_list, pathB_list]
    have h1 : ((objL ++ a.data.toList.take 2 ++ [47] ++ a.data.toList.drop 2).drop 8).take 2 = a.data.toList.take 2 := by
      rw [List.append_assoc, List.append_assoc, show 8 = objL.length from rfl, List.drop_left, List.take_append_of_le_length (by simp [hl]), List.take_of_length_le (by rw [List.length_take]; omega)]
    have h2 : (objL ++ a.data.toList.take 2 ++ [47] ++ a.data.toList.drop 2).drop 11 = a.data.toList.drop 2 := by
      rw [show 11 = (objL ++ a.data.toList.take 2 ++ [47]).length from by simp [objL, hl], List.drop_left]
    rw [h1, h2, List.take_append_drop]
  have e' : idOf (pathB a) = a := ByteArray.ext (Array.ext' e)
  rw [step_same ⟨a.data.toList.take 2 ++ [47] ++ a.data.toList.drop 2, by rw [pathB_list]; simp⟩]
  unfold dstep
  have h10 : (pathB a).data.toList[10]? = some 47 := by
    rw [pathB_list, List.append_assoc, List.getElem?_append_right (by simp [objL, hl])]
    simp [objL, hl]
  rw [e', if_pos ⟨path_size ha, h10, ha⟩]
theorem begins_path (a X : ByteArray) : beginsF objS (pathB a, X) = true := by
  unfold beginsF Lib.hasPrefix
  refine List.isPrefixOf_iff_prefix.2 ⟨a.data.toList.take 2 ++ [47] ++ a.data.toList.drop 2, ?_⟩
  simp only []
  rw [pathB_list]
  simp [objL, objS]
theorem perm_two {α : Type} {x y : α} {gs : List α} (h : gs.Perm [x, y]) : gs = [x, y] ∨ gs = [y, x] := by
  have hl := h.length_eq
  rcases gs with _ | ⟨p, _ | ⟨q, _ | ⟨r, t⟩⟩⟩ <;> simp at hl
  have hm : p ∈ [x, y] := h.mem_iff.1 (by simp)
  simp at hm
  rcases hm with rfl | rfl
  · have := List.Perm.cons_inv h
    exact .inl (by rw [List.perm_singleton.1 this])
  · have h2 : [p, q].Perm [p, x] := h.trans (List.Perm.swap _ _ _)
    have := List.Perm.cons_inv h2
    exact .inr (by rw [List.perm_singleton.1 this])
theorem twoF_list {a b X Y : ByteArray} {gs : List FileB} (ha : idB a.data.toList = true) (hb : idB b.data.toList = true) (h : gs.Perm (twoF a b X Y)) :
    listL (pathsL (undF gs objS)) = [a, b] ∨ listL (pathsL (undF gs objS)) = [b, a] := by
  rcases perm_two h with rfl | rfl
  · left
    simp [undF, begins_path, pathsL, listL, step_path ha, step_path hb]
  · right
    simp [undF, begins_path, pathsL, listL, step_path ha, step_path hb]
end Go.Proofs.YtddoemeellbhaaaGreatDoor
