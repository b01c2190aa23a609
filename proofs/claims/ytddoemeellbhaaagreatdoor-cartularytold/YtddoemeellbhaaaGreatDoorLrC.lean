/-
  The names as the document lists them.
-/
import Derived.Test.YtddoemeellbhaaaGreatDoorJLrB
import Derived.Test.YtddoemeellbhaaaGreatDoorJLoF
namespace Go.Proofs.YtddoemeellbhaaaGreatDoor
open Go.RowKit

theorem rk_filter : ∀ k (l : List UInt8), l.count 47 = k → Lib.replaceK [47] [] k l = l.filter (· != 47) := by
  intro k
  induction k with
  | zero =>
    intro l h
    have hn := List.count_eq_zero.1 h
    rw [Lib.replaceK]
    refine (List.filter_eq_self.2 fun a ha => ?_).symm
    have : a ≠ 47 := fun e => hn (e ▸ ha)
    simpa using this
  | succ k ih =>
    intro l h
    have hm : (47 : UInt8) ∈ l := by
      rcases Decidable.em ((47 : UInt8) ∈ l) with hm | hm
      · exact hm
      · rw [List.count_eq_zero.2 hm] at h; omega
    obtain ⟨a, b, rfl, ha⟩ := List.eq_append_cons_of_mem hm
    rw [Lib.replaceK_hit [47] [] k _ a.length (by rw [Lib.index_one, index_app _ _ _ ha]), List.take_left, List.append_nil]
    have hd : (a ++ 47 :: b).drop (a.length + [(47 : UInt8)].length) = b := by
      rw [show a.length + [(47 : UInt8)].length = (a ++ [47]).length by simp, show a ++ 47 :: b = (a ++ [47]) ++ b by simp, List.drop_left]
    rw [hd, ih b (by rw [List.count_append, List.count_cons_self, List.count_eq_zero.2 ha] at h; omega), List.filter_append]
    have e1 : a.filter (· != 47) = a := List.filter_eq_self.2 fun c hc => by
      have : c ≠ 47 := fun e => ha (e ▸ hc)
      simpa using this
    rw [e1, List.filter_cons_of_neg (by simp)]
theorem noSlash_list (s : ByteArray) : (noSlash s).data.toList = s.data.toList.filter (· != 47) := by
  show Lib.replaceAll s.data.toList [47] [] = _
  unfold Lib.replaceAll Lib.replace Lib.replaceNum
  rw [if_neg (by decide), if_pos (Or.inl (by decide))]
  exact rk_filter _ _ (Lib.count_one _ _).symm
theorem idB_clean {l : List UInt8} (h : idB l = true) : (47 : UInt8) ∉ l := by
  unfold idB at h
  simp only [Bool.and_eq_true] at h
  intro hm
  have := List.all_eq_true.1 h.1 _ hm
  revert this; decide
def objL : List UInt8 := [111, 98, 106, 101, 99, 116, 115, 47]
theorem extD (s : ByteArray) (a b : Nat) : (s.extract a b).data.toList = (s.data.toList.drop a).take (b - a) := by
  rw [ByteArray.data_extract, Array.toList_extract, List.extract_eq_take_drop]
theorem pathB_list (x : ByteArray) : (pathB x).data.toList = objL ++ x.data.toList.take 2 ++ [47] ++ x.data.toList.drop 2 := by
  unfold pathB
  rw [ByteArray.data_append, ByteArray.data_append, ByteArray.data_append, Array.toList_append, Array.toList_append, Array.toList_append, extD, extD, List.drop_zero]
  congr 1
  rw [List.take_of_length_le (by rw [List.length_drop, len_size]; omega)]
/-- what the document takes of a path -/
def idOf (p : ByteArray) : ByteArray := p.extract 8 10 ++ p.extract 11 p.size
def dstep (p : ByteArray) : Option ByteArray := if p.size = 49 ∧ p.data.toList[10]? = some 47 ∧ idB (idOf p).data.toList = true then some (idOf p) else none
theorem idOf_list (p : ByteArray) : (idOf p).data.toList = (p.data.toList.drop 8).take 2 ++ p.data.toList.drop 11 := by
  unfold idOf
  rw [ByteArray.data_append, Array.toList_append, extD, extD, List.take_of_length_le (i := p.size - 11) (by rw [List.length_drop, len_size]; omega)]
theorem step_same {p : ByteArray} (hp : ∃ t, p.data.toList = objL ++ t) : lstep p = dstep p := by
  obtain ⟨t, ht⟩ := hp
  have h8 : p.data.toList.drop 8 = t := by rw [ht]; rfl
  have hns : (noSlash (p.extract 8 p.size)).data.toList = t.filter (· != 47) := by
    rw [noSlash_list, extD, List.take_of_length_le (by rw [List.length_drop, len_size]; omega), h8]
  unfold lstep
  by_cases hd : p.size = 49 ∧ p.data.toList[10]? = some 47 ∧ idB (idOf p).data.toList = true
  · obtain ⟨h1, h2, h3⟩ := hd
    have hl : t.length = 41 := by
      have : p.data.toList.length = 49 := by rw [len_size]; exact h1
      rw [ht, List.length_append] at this
      have h0 : objL.length = 8 := rfl
      omega
    have hi : (idOf p).data.toList = t.take 2 ++ t.drop 3 := by
      rw [idOf_list p, h8, ht, show (11 : Nat) = objL.length + 3 from rfl, List.drop_append]
      simp
    have ht2 : t = t.take 2 ++ 47 :: t.drop 3 := by
      have e : t[2]? = some 47 := by
        rw [ht, List.getElem?_append_right (by decide)] at h2
        exact h2
      have e2 : t.drop 2 = 47 :: t.drop 3 := by
        rw [List.drop_eq_getElem_cons (by omega)]
        rw [List.getElem?_eq_getElem (by omega)] at e
        rw [Option.some.inj e]
      rw [← e2, List.take_append_drop]
    have hc := idB_clean h3
    have hx : noSlash (p.extract 8 p.size) = idOf p := bytes_ext (by
      rw [hns, hi]
      rw [hi] at hc
      have hf : (t.take 2 ++ 47 :: t.drop 3).filter (· != 47) = t.take 2 ++ t.drop 3 := by
        rw [List.filter_append, List.filter_cons_of_neg (by simp)]
        rw [← List.filter_append]
        refine List.filter_eq_self.2 fun a ha => ?_
        have : a ≠ 47 := fun e => hc (e ▸ ha)
        simpa using this
      rw [← ht2] at hf
      exact hf)
    rw [hx]
    have hpath : pathB (idOf p) = p := bytes_ext (by
      rw [pathB_list, hi, ht]
      have l2 : (t.take 2).length = 2 := by rw [List.length_take]; omega
      rw [show (t.take 2 ++ t.drop 3).take 2 = t.take 2 from List.take_left' l2, show (t.take 2 ++ t.drop 3).drop 2 = t.drop 3 from List.drop_left' l2]
      rw [List.append_assoc, List.append_assoc]
      congr 1
      exact ht2.symm)
    unfold dstep
    rw [if_pos ⟨h3, hpath⟩, if_pos ⟨h1, h2, h3⟩]
  · unfold dstep
    rw [if_neg hd]
    by_cases hc : idB (noSlash (p.extract 8 p.size)).data.toList = true ∧ pathB (noSlash (p.extract 8 p.size)) = p
    · exfalso
      obtain ⟨h1, h2⟩ := hc
      generalize noSlash (p.extract 8 p.size) = x at *
      have h40 := idB_size h1
      have hpl := pathB_list x
      rw [h2] at hpl
      have hxl : x.data.toList.length = 40 := by rw [len_size]; exact h40
      have l2 : (x.data.toList.take 2).length = 2 := by rw [List.length_take]; omega
      have hs : p.size = 49 := by rw [← len_size, hpl]; simp [objL]; omega
      refine hd ⟨hs, ?_, ?_⟩
      · rw [hpl, List.append_assoc, List.getElem?_append_right (by rw [List.length_append, l2]; decide), List.length_append, l2]; rfl
      · have e : (idOf p).data.toList = x.data.toList := by
          rw [idOf_list p, hpl]
          have o8 : objL.length = 8 := rfl
          rw [show objL ++ x.data.toList.take 2 ++ [47] ++ x.data.toList.drop 2 = objL ++ (x.data.toList.take 2 ++ ([47] ++ x.data.toList.drop 2)) by simp only [List.append_assoc]]
          rw [show List.drop 8 (objL ++ (x.data.toList.take 2 ++ ([47] ++ x.data.toList.drop 2))) = x.data.toList.take 2 ++ ([47] ++ x.data.toList.drop 2) from List.drop_left' o8]
          rw [show List.drop 11 (objL ++ (x.data.toList.take 2 ++ ([47] ++ x.data.toList.drop 2))) = x.data.toList.drop 2 from by
            rw [show objL ++ (x.data.toList.take 2 ++ ([47] ++ x.data.toList.drop 2)) = (objL ++ x.data.toList.take 2 ++ [47]) ++ x.data.toList.drop 2 by simp only [List.append_assoc]]
            exact List.drop_left' (by rw [List.length_append, List.length_append, l2]; rfl)]
          rw [List.take_left' l2, List.take_append_drop]
        rw [e]; exact h1
    · rw [if_neg hc]
end Go.Proofs.YtddoemeellbhaaaGreatDoor
