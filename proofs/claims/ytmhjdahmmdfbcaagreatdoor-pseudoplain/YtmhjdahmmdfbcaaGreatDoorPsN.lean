/-
  A base with a prerelease stands ahead of what is made of it.
-/
import Derived.Test.YtmhjdahmmdfbcaaGreatDoorPsM
namespace Go.Proofs.YtmhjdahmmdfbcaaGreatDoor
open Go.RowKit

theorem cutL_join (c : UInt8) : ∀ (l r : List UInt8), cutL c (l ++ c :: r) = cutL c l ++ cutL c r
  | [], r => by
    have e : cutL c (c :: r) = [] :: cutL c r := by rw [cutL, if_pos rfl]
    show cutL c (c :: r) = _
    rw [e]
    rfl
  | b :: l, r => by
    have ih := cutL_join c l r
    show cutL c (b :: (l ++ c :: r)) = _
    rw [cutL, cutL]
    by_cases hb : b = c
    · rw [if_pos hb, if_pos hb, ih]; rfl
    · rw [if_neg hb, if_neg hb, ih]
      cases hl : cutL c l with
      | nil => exact absurd hl (cutL_ne c l)
      | cons x xs => rfl
theorem lex_more : ∀ (a b : List ByteArray), b ≠ [] → lexC a (a ++ b) = -1
  | [], [], h => absurd rfl h
  | [], _ :: _, _ => rfl
  | x :: a, b, h => by
    show lexC (x :: a) (x :: (a ++ b)) = -1
    rw [lexC, if_pos (ord_word.same x)]
    exact lex_more a b h
theorem list_extract (p : ByteArray) (f : Nat) : (p.extract 0 f).data.toList = p.data.toList.take f := by
  rw [ByteArray.data_extract]
  simp
/-- a front that ends so is a text and the ending -/
theorem suf_split {l : List UInt8} (h : Lib.hasSuffix l [46, 48, 46] = true) : l = Lib.trimSuffix l [46, 48, 46] ++ [46, 48, 46] := by
  have h2 : [46, 48, 46] <:+ l := List.isSuffixOf_iff_suffix.1 h
  obtain ⟨t, ht⟩ := h2
  unfold Lib.trimSuffix
  rw [h, if_pos rfl, ← ht]
  simp
theorem pre_front {p : ByteArray} {f : Nat} (h : Lib.hasSuffix (p.extract 0 f).data.toList [46, 48, 46] = true) :
    ∃ r : List UInt8, p.data.toList = Lib.trimSuffix (p.extract 0 f).data.toList [46, 48, 46] ++ 46 :: (48 :: 46 :: r) := by
  have h1 := suf_split h
  refine ⟨p.data.toList.drop f, ?_⟩
  have h2 : p.data.toList = (p.extract 0 f).data.toList ++ p.data.toList.drop f := by rw [list_extract, List.take_append_drop]
  rw [h2]
  conv => lhs; rw [h1]
  simp
theorem pre_base {s : ByteArray} {v : Ver} {q : ByteArray} {r : List UInt8} (h : parseR s = some v) (h0 : v.short = 0) (hq : v.pre.data.toList = q.data.toList ++ 46 :: (48 :: 46 :: r)) :
    (parseR (wriV (preV v q))).isSome = true ∧ cmpS (wriV (preV v q)) s = -1 := by
  have hr := ver_right h
  have hne : v.pre.data.toList.isEmpty = false := by rw [hq]; cases q.data.toList <;> rfl
  have hparts : partsB v.pre = (cutL 46 q.data.toList).map strOf ++ (cutL 46 (48 :: 46 :: r)).map strOf := by rw [parts_eq, hq, cutL_join, List.map_append]
  have hall := hr.pre hne
  rw [hparts, List.all_append, Bool.and_eq_true] at hall
  have hqn : q.data.toList.isEmpty = false := by
    cases hl : q.data.toList with
    | nil =>
      rw [hl] at hall
      have := hall.1
      simp only [cutL, List.map_cons, List.map_nil, List.all_cons, List.all_nil] at this
      exact absurd this (by decide)
    | cons c l => rfl
  have hq2 : ((partsB q).all fun x => preL x.data.toList) = true := by rw [parts_eq]; exact hall.1
  have hright : Right (preV v q) := ⟨hr.major, hr.minor, hr.patch, (fun hm => hr.plus (by rw [hq]; exact List.mem_append_left _ hm)), fun _ => hq2⟩
  have hsz : (wriV (preV v q)).size ≤ 100 := by
    have hw := whole_size h h0
    have hl := congrArg List.length hq
    rw [List.length_append, List.length_cons, size_len, size_len] at hl
    rw [wri_len, can_len] at hw ⊢
    rw [hne] at hw
    show 3 + v.major.size + v.minor.size + v.patch.size + (if q.data.toList.isEmpty then 0 else 1 + q.size) + (if v.build.data.toList.isEmpty then 0 else 1 + v.build.size) ≤ 100
    rw [hqn]
    simp only [Bool.false_eq_true, if_false] at hw ⊢
    omega
  have hbr : BuildOk v := build_right h
  have hbq : BuildOk (preV v q) := hbr
  have hp := parse_wri (v := preV v q) hright hbq hsz
  refine ⟨by rw [hp]; rfl, ?_⟩
  unfold cmpS
  rw [h, hp]
  show orL [numC v.major v.major, numC v.minor v.minor, numC v.patch v.patch, preC q v.pre] = -1
  rw [orL_four, if_pos (ord_num.same _), if_pos (ord_num.same _), if_pos (ord_num.same _)]
  have hqp : q ≠ v.pre := fun e => by
    have hl := congrArg List.length hq
    rw [e, List.length_append, List.length_cons] at hl
    omega
  unfold preC
  rw [if_neg hqp, hqn, hne, if_neg Bool.false_ne_true, if_neg Bool.false_ne_true, hparts, parts_eq]
  exact lex_more _ _ (by cases hc : cutL 46 (48 :: 46 :: r) with | nil => exact absurd hc (cutL_ne _ _) | cons x xs => exact (fun e => by cases e))
end Go.Proofs.YtmhjdahmmdfbcaaGreatDoor
