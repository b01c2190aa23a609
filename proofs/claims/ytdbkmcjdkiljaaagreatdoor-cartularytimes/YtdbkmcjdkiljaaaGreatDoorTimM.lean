/-
  Versions that end with stamps: what they are cut into, and their order.
-/
import Derived.Test.YtdbkmcjdkiljaaaGreatDoorRefF
import Derived.Test.YtdbkmcjdkiljaaaGreatDoorSecW
namespace Go.Proofs.YtdbkmcjdkiljaaaGreatDoor
open Go.RowKit

theorem cmp_same_head (z A B : List UInt8) : Lib.compareBytes (z ++ A) (z ++ B) = Lib.compareBytes A B := by
  induction z with
  | nil => rfl
  | cons c z ih =>
    show Lib.compareBytes (c :: (z ++ A)) (c :: (z ++ B)) = _
    rw [cmp_cons, if_neg (Nat.lt_irrefl _), if_neg (Nat.lt_irrefl _), ih]
theorem cutL_free (c : UInt8) : ∀ (l p : List UInt8), p ∈ cutL c l → c ∉ p
  | [], p, h => by simp [cutL] at h; subst h; simp
  | b :: l, p, h => by
    unfold cutL at h
    split at h
    · rcases List.mem_cons.1 h with h | h
      · subst h; simp
      · exact cutL_free c l p h
    · rename_i hb
      split at h
      · simp at h; subst h
        intro hm
        exact hb (List.mem_singleton.1 hm).symm
      · rename_i q qs hq
        rcases List.mem_cons.1 h with h | h
        · subst h
          intro hm
          rcases List.mem_cons.1 hm with hm | hm
          · exact hb hm.symm
          · exact cutL_free c l q (by rw [hq]; exact List.mem_cons_self) hm
        · exact cutL_free c l p (by rw [hq]; exact List.mem_cons_of_mem _ h)
theorem cutL_tail (c : UInt8) (r : List UInt8) : ∃ I z, cutL c r = I ++ [z] ∧ ∀ A, c ∉ A → cutL c (r ++ A) = I ++ [z ++ A] := by
  have hn := cutL_ne c r
  refine ⟨(cutL c r).dropLast, (cutL c r).getLast hn, (List.dropLast_concat_getLast hn).symm, fun A hA => ?_⟩
  have hz : c ∉ (cutL c r).getLast hn := cutL_free c r _ (List.getLast_mem hn)
  rw [← fold_whole, List.foldl_append, fold_whole]
  conv => lhs; rw [← List.dropLast_concat_getLast hn]
  rw [fold_cut c A _ _ hz]
  have hone : cutL c ((cutL c r).getLast hn ++ A) = [(cutL c r).getLast hn ++ A] := cutL_one fun hm => by
    rcases List.mem_append.1 hm with hm | hm
    · exact hz hm
    · exact hA hm
  rw [hone]
/-- what may stand ahead of a stamp in a prerelease: nothing, or something that ends with a hyphen -/
inductive Ahead : List UInt8 → Prop where
  | none : Ahead []
  | some (f : List UInt8) : Ahead (f ++ [45])
theorem parts_tail {r : List UInt8} (h : Ahead r) : ∃ (I : List ByteArray) (z : List UInt8), (∀ A, (46 : UInt8) ∉ A → partsB (strOf (r ++ A)) = I ++ [strOf (z ++ A)]) ∧ (z = [] ∨ ∃ g, z = g ++ [45]) := by
  obtain ⟨I, z, h1, h2⟩ := cutL_tail 46 r
  refine ⟨I.map strOf, z, fun A hA => ?_, ?_⟩
  · rw [parts_eq]
    show (cutL 46 (r ++ A)).map strOf = _
    rw [h2 A hA, List.map_append]
    rfl
  · cases h with
    | none =>
      have : cutL (46 : UInt8) [] = [[]] := rfl
      rw [this] at h1
      have h3 := congrArg List.getLast? h1
      simp at h3
      exact Or.inl (by first | exact h3 | exact h3.symm)
    | some f =>
      refine Or.inr ?_
      have h3 : cutL (46 : UInt8) (f ++ [45]) = stepL 46 (cutL 46 f) 45 := by
        rw [← fold_whole, ← fold_whole, List.foldl_append]; rfl
      rw [h3] at h1
      unfold stepL at h1
      rw [if_neg (by decide)] at h1
      have h4 := congrArg List.getLast? h1
      simp at h4
      exact ⟨_, h4.symm⟩
/-- fourteen digits, the first no 0 -/
structure Stm (A : List UInt8) : Prop where
  len : A.length = 14
  dig : ∀ c ∈ A, digC c = true
  first : A.getD 0 0 ≠ 48
theorem Stm.no {A : List UInt8} (h : Stm A) {c : UInt8} (hc : digC c = false) : c ∉ A := fun hm => by rw [h.dig c hm] at hc; cases hc
theorem Stm.digL {A : List UInt8} (h : Stm A) : Go.Proofs.YtdbkmcjdkiljaaaGreatDoor.digL A = true := by
  unfold Go.Proofs.YtdbkmcjdkiljaaaGreatDoor.digL
  have : A.isEmpty = false := by cases A with | nil => have := h.len; simp at this | cons => rfl
  rw [this, List.all_eq_true.2 h.dig]; rfl
theorem Stm.numL {A : List UInt8} (h : Stm A) : Go.Proofs.YtdbkmcjdkiljaaaGreatDoor.numL A = true := by
  unfold Go.Proofs.YtdbkmcjdkiljaaaGreatDoor.numL
  rw [h.digL]
  have : (A.getD 0 0 != 48) = true := by simpa using h.first
  rw [this]; simp
theorem Stm.words {A : List UInt8} (h : Stm A) : A.all wordC = true := by
  rw [List.all_eq_true]
  intro c hc
  unfold wordC
  rw [h.dig c hc]; rfl
theorem hyphen_dig (g A : List UInt8) : digL (g ++ [45] ++ A) = false := by
  unfold digL
  have : (g ++ [45] ++ A).all digC = false := by
    rw [List.all_eq_false]
    exact ⟨45, by simp, by decide⟩
  rw [this]; rfl
theorem word_tail {z A B : List UInt8} (hz : z = [] ∨ ∃ g, z = g ++ [45]) (hA : Stm A) (hB : Stm B) : preL (z ++ A) = preL (z ++ B) := by
  rcases hz with rfl | ⟨g, rfl⟩
  · have h : ∀ C, Stm C → preL ([] ++ C) = true := fun C hC => by
      unfold preL wordL
      have : C.isEmpty = false := by cases C with | nil => have := hC.len; simp at this | cons => rfl
      show (C.all wordC && !C.isEmpty && (!digL C || numL C)) = true
      rw [hC.words, this, hC.numL]; simp
    rw [h A hA, h B hB]
  · have h : ∀ C, Stm C → preL (g ++ [45] ++ C) = g.all wordC := fun C hC => by
      unfold preL wordL
      rw [hyphen_dig]
      rw [List.all_append, List.all_append, hC.words]
      have e : (g ++ [45] ++ C).isEmpty = false := by simp
      rw [e]
      have : [(45 : UInt8)].all wordC = true := by decide
      rw [this]; simp
    rw [h A hA, h B hB]
theorem word_order {z A B : List UInt8} (hz : z = [] ∨ ∃ g, z = g ++ [45]) (hA : Stm A) (hB : Stm B) : wordCmp (strOf (z ++ A)) (strOf (z ++ B)) = Lib.compareBytes A B := by
  rcases hz with rfl | ⟨g, rfl⟩
  · unfold wordCmp
    have ha : digL (strOf ([] ++ A)).data.toList = true := hA.digL
    have hb : digL (strOf ([] ++ B)).data.toList = true := hB.digL
    rw [ha, hb]
    show numC (strOf A) (strOf B) = _
    unfold numC
    have : cmpI ((strOf A).size : Int) ((strOf B).size : Int) = 0 := by
      rw [strOf_size, strOf_size, hA.len, hB.len]; rfl
    rw [orL_two, this, if_pos rfl]
    rfl
  · unfold wordCmp
    have ha : digL (strOf (g ++ [45] ++ A)).data.toList = false := hyphen_dig g A
    have hb : digL (strOf (g ++ [45] ++ B)).data.toList = false := hyphen_dig g B
    rw [ha, hb]
    show Lib.compareBytes (g ++ [45] ++ A) (g ++ [45] ++ B) = _
    exact cmp_same_head _ _ _
theorem lex_same (I : List ByteArray) (p q : ByteArray) : lexC (I ++ [p]) (I ++ [q]) = wordCmp p q := by
  induction I with
  | nil =>
    show (if wordCmp p q = 0 then 0 else wordCmp p q) = _
    split
    · rename_i h; rw [h]
    · rfl
  | cons a I ih =>
    show (if wordCmp a a = 0 then lexC (I ++ [p]) (I ++ [q]) else wordCmp a a) = _
    rw [if_pos (ord_word.same a), ih]
theorem pre_order {r A B : List UInt8} (h : Ahead r) (hA : Stm A) (hB : Stm B) : preC (strOf (r ++ A)) (strOf (r ++ B)) = Lib.compareBytes A B := by
  have ne : ∀ C, Stm C → (strOf (r ++ C)).data.toList.isEmpty = false := fun C hC => by
    show (r ++ C).isEmpty = false
    have := hC.len
    cases C with
    | nil => simp at this
    | cons => simp
  obtain ⟨I, z, h1, h2⟩ := parts_tail h
  rw [preC_eq, ne A hA, ne B hB, h1 A (hA.no (by decide)), h1 B (hB.no (by decide))]
  show lexC _ _ = _
  rw [lex_same, word_order h2 hA hB]
theorem pre_same {r A B : List UInt8} (h : Ahead r) (hA : Stm A) (hB : Stm B) : ((partsB (strOf (r ++ A))).all fun x => preL x.data.toList) = ((partsB (strOf (r ++ B))).all fun x => preL x.data.toList) := by
  obtain ⟨I, z, h1, h2⟩ := parts_tail h
  rw [h1 A (hA.no (by decide)), h1 B (hB.no (by decide)), List.all_append, List.all_append]
  congr 1
  show (preL (z ++ A) && true) = (preL (z ++ B) && true)
  rw [word_tail h2 hA hB]
theorem cut_stamp (f : List UInt8) : ∃ r p, Ahead r ∧ ∀ A, cutR 45 (f ++ 45 :: A) = (p, r ++ A, true) := by
  cases h : splitC 45 f with
  | none => exact ⟨[], f, .none, fun A => cutR_app (split_none h).2⟩
  | some x =>
    obtain ⟨p, g⟩ := x
    obtain ⟨_, e, hp⟩ := split_some h
    refine ⟨g ++ [45], p, .some g, fun A => ?_⟩
    rw [e]
    have : p ++ 45 :: g ++ 45 :: A = p ++ 45 :: (g ++ [45] ++ A) := by simp
    rw [this, cutR_app hp]
def stamped (f : ByteArray) (A : List UInt8) : ByteArray := strOf (f.data.toList ++ 45 :: A)
/-- a version that ends with a stamp, and the one with another stamp in its place -/
theorem stamp_parse {f : ByteArray} {A : List UInt8} {v : Ver} (hA : Stm A) (h : parseR (stamped f A) = some v) (hb : v.build.data.toList.isEmpty = true) :
    ∃ r, Ahead r ∧ v.pre = strOf (r ++ A) ∧ ∀ B, Stm B → parseR (stamped f B) = some { v with pre := strOf (r ++ B) } := by
  have hz : (stamped f A).size ≤ 100 := by
    unfold parseR at h
    split at h
    · rename_i hc
      simp only [Bool.and_eq_true, decide_eq_true_eq] at hc
      exact hc.1
    · cases h
  have hl : (stamped f A).data.toList = f.data.toList ++ 45 :: A := rfl
  have hs : ∀ C, Stm C → (stamped f C).size = f.size + 15 := fun C hC => by
    show (strOf _).size = _
    rw [strOf_size, List.length_append, List.length_cons, hC.len, size_len]
  have h118 : (stamped f A).data.toList.getD 0 0 = 118 := Classical.byContradiction fun hn => by
    rw [head_bad (Or.inr (Or.inr hn))] at h; cases h
  cases hf : f.data.toList with
  | nil => rw [hl, hf] at h118; exact absurd (show (45 : UInt8) = 118 from h118) (by decide)
  | cons c g =>
    have hc : c = 118 := by rw [hl, hf] at h118; exact h118
    subst hc
    have hg : ∀ C, (stamped f C).data.toList = 118 :: (g ++ 45 :: C) := fun C => by
      show f.data.toList ++ 45 :: C = _
      rw [hf]; rfl
    obtain ⟨r, p, hr, hcut⟩ := cut_stamp g
    have hplus : (43 : UInt8) ∉ g := fun hm => by
      have hp := head_good (hg A) hz
      simp only at hp
      rw [hp] at h
      split at h
      · rename_i hok
        have e := Option.some.inj h
        subst e
        cases hx : splitC 43 (g ++ 45 :: A) with
        | none => exact (split_none hx).2 (List.mem_append_left _ hm)
        | some x =>
          unfold okC at hok
          simp only [Bool.and_eq_true] at hok
          have hb2 : (cutR 43 (g ++ 45 :: A)).2.2 = true := by unfold cutR; rw [hx]
          have hb3 : strOf (cutR 43 (g ++ 45 :: A)).2.1 = ⟨#[]⟩ := bytes_ext (by
            have : (strOf (cutR 43 (g ++ 45 :: A)).2.1).data.toList.isEmpty = true := hb
            rw [List.isEmpty_iff] at this
            rw [this])
          have h9 := hok.1.2
          rw [hb2, hb3] at h9
          revert h9
          decide +kernel
      · cases h
    have h43 : ∀ C, Stm C → cutR 43 (g ++ 45 :: C) = (g ++ 45 :: C, [], false) := fun C hC => by
      unfold cutR
      cases hx : splitC 43 (g ++ 45 :: C) with
      | none => rfl
      | some x =>
        exfalso
        have e := (split_some (p := x.1) (q := x.2) hx).2.1
        have hm : (43 : UInt8) ∈ g ++ 45 :: C := by rw [e]; simp
        rcases List.mem_append.1 hm with hm | hm
        · exact hplus hm
        · rcases List.mem_cons.1 hm with hm | hm
          · revert hm; decide
          · exact hC.no (by decide) hm
    have key : ∀ C, Stm C → (stamped f C).size ≤ 100 → parseR (stamped f C) = (if okC ⟨true, strOf p, strOf (r ++ C), ⟨#[]⟩, true, false⟩ then some (verC ⟨true, strOf p, strOf (r ++ C), ⟨#[]⟩, true, false⟩) else none) := fun C hC hzC => by
      rw [head_good (hg C) hzC]
      simp only
      rw [h43 C hC]
      simp only
      rw [hcut C]
      rfl
    refine ⟨r, hr, ?_, fun B hB => ?_⟩
    · rw [key A hA hz] at h
      split at h
      · exact (congrArg Ver.pre (Option.some.inj h)).symm
      · cases h
    · have hzB : (stamped f B).size ≤ 100 := by rw [hs B hB]; rw [hs A hA] at hz; exact hz
      rw [key B hB hzB]
      rw [key A hA hz] at h
      have hok : okC ⟨true, strOf p, strOf (r ++ A), ⟨#[]⟩, true, false⟩ = okC ⟨true, strOf p, strOf (r ++ B), ⟨#[]⟩, true, false⟩ := by
        unfold okC
        simp only
        rw [pre_same hr hA hB]
      rw [← hok]
      split at h
      · rename_i h2
        rw [if_pos h2]
        have e := Option.some.inj h
        subst e
        rfl
      · cases h
theorem stamp_cmp {f : ByteArray} {A B : List UInt8} {v : Ver} (hA : Stm A) (hB : Stm B) (h : parseR (stamped f A) = some v) (hb : v.build.data.toList.isEmpty = true) : cmpS (stamped f A) (stamped f B) = Lib.compareBytes A B := by
  obtain ⟨r, hr, hp, hall⟩ := stamp_parse hA h hb
  show cmpV ((parseR (stamped f A)).getD noVer) ((parseR (stamped f B)).getD noVer) = _
  rw [h, hall B hB]
  show orL [numC v.major v.major, numC v.minor v.minor, numC v.patch v.patch, preC v.pre (strOf (r ++ B))] = _
  rw [ord_num.same, ord_num.same, ord_num.same, orL_four, if_pos rfl, if_pos rfl, if_pos rfl, hp, pre_order hr hA hB]
end Go.Proofs.YtdbkmcjdkiljaaaGreatDoor
