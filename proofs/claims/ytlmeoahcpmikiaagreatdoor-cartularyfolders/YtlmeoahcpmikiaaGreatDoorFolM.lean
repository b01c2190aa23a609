/-
  A folder's entries are found by their names, since no name stands twice; an object's file is no pack.
-/
import Derived.Test.YtlmeoahcpmikiaaGreatDoorTTpH
import Derived.Test.YtlmeoahcpmikiaaGreatDoorJTolM
import Derived.Test.YtlmeoahcpmikiaaGreatDoorOdbA
namespace Go.Proofs.YtlmeoahcpmikiaaGreatDoor
open Go.RowKit

theorem one_ok {a X : ByteArray} (ha : idB a.data.toList = true) : OkF [(pathB a, X)] := by
  have s1 := path_size ha
  refine ⟨fun f hf => ?_, by simp [Apart], fun f hf g hg => begins_no ?_⟩
  · simp at hf; subst hf; exact path_clean ha
  · simp at hf hg
    subst hf hg
    rw [ByteArray.size_append]
    have : slashB.size = 1 := rfl
    omega
theorem pack_no {a X : ByteArray} (ha : idB a.data.toList = true) : beginsF packS (pathB a, X) = false := by
  have hl := idB_len40 ha
  have hd := idB_digs ha
  unfold beginsF Lib.hasPrefix
  simp only []
  rw [pathB_list]
  generalize a.data.toList = l at *
  rcases l with _ | ⟨c, l⟩
  · cases hl
  have h1 := digit_cases c (hd c (by simp))
  refine Bool.eq_false_iff.2 fun ht => ?_
  obtain ⟨t, ht⟩ := List.isPrefixOf_iff_prefix.1 ht
  simp [packS, objL] at ht
  have : c = 112 := by
    first | exact ht.1.symm | (obtain ⟨h, _⟩ := ht; exact h.symm)
  subst this
  have : (112 : UInt8).toNat = 112 := rfl
  omega
theorem und_none {gs fs : List FileB} (hp : gs.Perm fs) (h : ∀ f ∈ fs, beginsF packS f = false) : undF gs packS = [] := by
  unfold undF
  rw [List.filter_eq_nil_iff]
  intro f hf
  rw [h f (hp.mem_iff.1 hf)]
  decide
theorem find_own {es : List T.EntB} (h : T.checkV es = 0) (k : Nat) (hk : k < es.length) : T.findE es (es.getD k T.noE).2.1 = some (es.getD k T.noE) := by
  obtain ⟨_, hs⟩ := T.chk_steps h
  have hst := hs k hk
  unfold T.stepB at hst
  simp only [Bool.and_eq_true, decide_eq_true_eq] at hst
  have hc := hst.1.2
  have hg : es.getD k T.noE = es[k] := by rw [List.getD_eq_getElem?_getD, List.getElem?_eq_getElem hk]; rfl
  have he : es = es.take k ++ es[k] :: es.drop (k + 1) := by
    conv => lhs; rw [← List.take_append_drop k es, List.drop_eq_getElem_cons hk]
  rw [hg] at hc ⊢
  have hn : (es.take k).find? (fun e => decide (e.2.1 = es[k].2.1)) = none := by
    rw [List.find?_eq_none]
    intro x hx hd
    have hxe : x.2.1 = es[k].2.1 := by simpa using hd
    have hm : es[k].2.1.data.toList ∈ (es.take k).map fun e => e.2.1.data.toList := List.mem_map.2 ⟨x, hx, by rw [hxe]⟩
    have := List.count_pos_iff.2 hm
    omega
  unfold T.findE
  generalize hz : es[k] = z at *
  rw [he, List.find?_append, hn]
  simp
end Go.Proofs.YtlmeoahcpmikiaaGreatDoor
