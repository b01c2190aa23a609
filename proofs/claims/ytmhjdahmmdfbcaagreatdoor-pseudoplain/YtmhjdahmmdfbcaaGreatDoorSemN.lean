/-
  Semver: the canonical text is a version again, with the same numbers and prerelease.
-/
import Derived.Test.YtmhjdahmmdfbcaaGreatDoorMajW
namespace Go.Proofs.YtmhjdahmmdfbcaaGreatDoor
open Go.RowKit
theorem splitC_app {c : UInt8} : ∀ {l r : List UInt8}, c ∉ l → splitC c (l ++ c :: r) = some (l, r)
  | [], r, _ => by
    show splitC c (c :: r) = _
    unfold splitC
    rw [if_pos rfl]
  | b :: l, r, h => by
    show splitC c (b :: (l ++ c :: r)) = _
    unfold splitC
    rw [if_neg (fun e => h (by rw [e]; exact List.mem_cons_self)), splitC_app (fun hm => h (List.mem_cons_of_mem _ hm))]
    rfl
theorem cutR_app {c : UInt8} {l r : List UInt8} (h : c ∉ l) : cutR c (l ++ c :: r) = (l, r, true) := by
  unfold cutR
  rw [splitC_app h]
theorem parts_cons {a r : ByteArray} (h : (46 : UInt8) ∉ a.data.toList) : partsB (strOf (a.data.toList ++ 46 :: r.data.toList)) = a :: partsB r := by
  have hl : (strOf (a.data.toList ++ 46 :: r.data.toList)).data.toList = a.data.toList ++ 46 :: r.data.toList := rfl
  have hz : (strOf (a.data.toList ++ 46 :: r.data.toList)).size = a.size + 1 + r.size := by
    rw [strOf_size, List.length_append, List.length_cons, size_len, size_len]; omega
  generalize strOf (a.data.toList ++ 46 :: r.data.toList) = x at *
  have hi : Lib.indexB x stopB = (a.size : Int) := by
    rw [index_stopB, hl, (split_some (splitC_app h)).1, size_len]
  have hc : Lib.countB x stopB = Lib.countB r stopB + 1 := by
    rw [count_stopB, count_stopB, hl]
    unfold Lib.countByte
    rw [List.count_append, List.count_cons, List.count_eq_zero_of_not_mem h]
    simp
  unfold partsB
  rw [hc, Lib.splitB_hit _ _ _ _ a.size hi]
  have e1 : x.extract 0 (a.size + 0) = a := bytes_ext (by
    rw [Nat.add_zero, ext_head, hl, ← size_len, List.take_left])
  have e2 : x.extract (a.size + stopB.size) x.size = r := bytes_ext (by
    rw [ext_tail, hl]
    show List.drop (a.size + 1) _ = _
    rw [← size_len, List.drop_append]
    simp)
  rw [e1, e2]
theorem parts_three {a b c : ByteArray} (ha : (46 : UInt8) ∉ a.data.toList) (hb : (46 : UInt8) ∉ b.data.toList) (hc : (46 : UInt8) ∉ c.data.toList) :
    partsB (strOf (a.data.toList ++ 46 :: (b.data.toList ++ 46 :: c.data.toList))) = [a, b, c] := by
  have e : b.data.toList ++ 46 :: c.data.toList = (strOf (b.data.toList ++ 46 :: c.data.toList)).data.toList := rfl
  rw [e, parts_cons ha, parts_cons hb, parts_one hc]
theorem cutR_first (c : UInt8) (l : List UInt8) : c ∉ (cutR c l).1 := by
  unfold cutR
  cases h : splitC c l with
  | none => exact (split_none h).2
  | some x => exact (split_some (p := x.1) (q := x.2) h).2.2
theorem cutR_rest (c : UInt8) (l : List UInt8) {b : UInt8} (hb : b ∈ (cutR c l).2.1) : b ∈ l := by
  unfold cutR at hb
  cases h : splitC c l with
  | none => rw [h] at hb; cases hb
  | some x =>
    rw [h] at hb
    have e := (split_some (p := x.1) (q := x.2) h).2.1
    rw [e]
    exact List.mem_append_right _ (List.mem_cons_of_mem _ hb)
theorem cutR_none (c : UInt8) (l : List UInt8) (h : (cutR c l).2.2 = false) : (cutR c l).2.1 = [] := by
  unfold cutR at h ⊢
  cases hs : splitC c l with
  | none => rfl
  | some x => rw [hs] at h; cases h
theorem all_getD {P : ByteArray → Prop} : ∀ {l : List ByteArray} {d : ByteArray} (i : Nat), (∀ x ∈ l, P x) → P d → P (l.getD i d)
  | [], _, _, _, hd => hd
  | a :: _, _, 0, h, _ => h a List.mem_cons_self
  | _ :: l, _, i + 1, h, hd => all_getD (l := l) i (fun x hx => h x (List.mem_cons_of_mem _ hx)) hd
structure Right (v : Ver) : Prop where
  major : numL v.major.data.toList = true
  minor : numL v.minor.data.toList = true
  patch : numL v.patch.data.toList = true
  plus : (43 : UInt8) ∉ v.pre.data.toList
  pre : v.pre.data.toList.isEmpty = false → ((partsB v.pre).all fun x => preL x.data.toList) = true
theorem ver_right {s : ByteArray} {v : Ver} (h : parseR s = some v) : Right v := by
  unfold parseR at h
  split at h
  · rename_i hc
    simp only [Bool.and_eq_true, decide_eq_true_eq] at hc
    obtain ⟨_, hok⟩ := hc
    have e := Option.some.inj h
    subst e
    unfold okC at hok
    simp only [Bool.and_eq_true] at hok
    obtain ⟨⟨⟨_, hpre⟩, _⟩, han⟩ := hok
    rw [List.all_eq_true] at han
    have hall : ∀ x ∈ partsB (cutsOf s).nums ++ [nought, nought], numL x.data.toList = true := by
      intro x hx
      rcases List.mem_append.1 hx with hx | hx
      · exact han x hx
      · simp only [List.mem_cons, List.not_mem_nil, or_false, or_self] at hx
        rw [hx]; decide
    have hd : numL nought.data.toList = true := by decide
    refine ⟨all_getD (P := fun x => numL x.data.toList = true) 0 hall hd, all_getD (P := fun x => numL x.data.toList = true) 1 hall hd, all_getD (P := fun x => numL x.data.toList = true) 2 hall hd, ?_, ?_⟩
    · show (43 : UInt8) ∉ (cutR 45 (cutR 43 (vCut s.data.toList).1).1).2.1
      exact fun hm => cutR_first 43 _ (cutR_rest 45 _ hm)
    · intro hne
      have hne' : (cutR 45 (cutR 43 (vCut s.data.toList).1).1).2.1.isEmpty = false := hne
      have hh : (cutsOf s).hasPre = true := by
        show (cutR 45 (cutR 43 (vCut s.data.toList).1).1).2.2 = true
        cases hb : (cutR 45 (cutR 43 (vCut s.data.toList).1).1).2.2 with
        | true => rfl
        | false => rw [cutR_none _ _ hb] at hne'; cases hne'
      rw [hh] at hpre
      show ((partsB (cutsOf s).pre).all fun x => preL x.data.toList) = true
      simpa using hpre
  · cases h
theorem not_app {c : UInt8} {l r : List UInt8} (hl : c ∉ l) (hr : c ∉ r) : c ∉ l ++ r := fun h => (List.mem_append.1 h).elim hl hr
theorem not_cons {c b : UInt8} {r : List UInt8} (hb : c ≠ b) (hr : c ∉ r) : c ∉ b :: r := fun h => (List.mem_cons.1 h).elim hb hr
/-- the three numbers in a row -/
def numsL (v : Ver) : List UInt8 := v.major.data.toList ++ 46 :: (v.minor.data.toList ++ 46 :: v.patch.data.toList)
theorem nums_no {v : Ver} (h : Right v) {c : UInt8} (hc : digC c = false) (h46 : c ≠ 46) : c ∉ numsL v :=
  not_app (dig_no (num_dig h.major) hc) (not_cons h46 (not_app (dig_no (num_dig h.minor) hc) (not_cons h46 (dig_no (num_dig h.patch) hc))))
theorem nums_parts {v : Ver} (h : Right v) : partsB (strOf (numsL v)) = [v.major, v.minor, v.patch] :=
  parts_three (dig_no (num_dig h.major) (by decide)) (dig_no (num_dig h.minor) (by decide)) (dig_no (num_dig h.patch) (by decide))
theorem can_list (v : Ver) : (canV v).data.toList = 118 :: (if v.pre.data.toList.isEmpty then numsL v else numsL v ++ 45 :: v.pre.data.toList) := by
  unfold canV numsL
  split <;> simp [ByteArray.data_append]
def bare (v : Ver) : Ver := ⟨v.major, v.minor, v.patch, v.pre, strOf [], 0⟩
theorem parse_can {v : Ver} (h : Right v) (hz : (canV v).size ≤ 100) : parseR (canV v) = some (bare v) := by
  have hp := nums_parts h
  have n43 := nums_no h (c := 43) (by decide) (by decide)
  have n45 := nums_no h (c := 45) (by decide) (by decide)
  have hv : ∀ l : List UInt8, vCut (118 :: l) = (l, true) := fun l => by simp [vCut]
  by_cases he : v.pre.data.toList.isEmpty = true
  · have hl : (canV v).data.toList = 118 :: numsL v := by rw [can_list, if_pos he]
    have hc : cutsOf (canV v) = ⟨true, strOf (numsL v), strOf [], strOf [], false, false⟩ := by
      unfold cutsOf
      rw [hl]
      simp only [hv, cutR_no n43, cutR_no n45]
    have ep : v.pre = strOf [] := bytes_ext (by rw [List.isEmpty_iff.1 he]; rfl)
    have ho : okC (cutsOf (canV v)) = true := by
      rw [hc]
      unfold okC
      simp only [hp]
      simp [h.major, h.minor, h.patch]
    unfold parseR
    rw [decide_eq_true hz, ho, hc]
    unfold verC bare
    simp only [hp]
    rw [ep]
    rfl
  · have hf : v.pre.data.toList.isEmpty = false := by simpa using he
    have hl : (canV v).data.toList = 118 :: (numsL v ++ 45 :: v.pre.data.toList) := by rw [can_list, if_neg he]
    have n43' : (43 : UInt8) ∉ numsL v ++ 45 :: v.pre.data.toList := not_app n43 (not_cons (by decide) h.plus)
    have hc : cutsOf (canV v) = ⟨true, strOf (numsL v), v.pre, strOf [], true, false⟩ := by
      unfold cutsOf
      rw [hl]
      simp only [hv, cutR_no n43', cutR_app n45, strOf_list]
    have ho : okC (cutsOf (canV v)) = true := by
      rw [hc]
      unfold okC
      simp only [hp, h.pre hf]
      simp [h.major, h.minor, h.patch]
    unfold parseR
    rw [decide_eq_true hz, ho, hc]
    unfold verC bare
    simp only [hp]
    rfl
theorem can_bare (v : Ver) : canV (bare v) = canV v := rfl
theorem maj_bare (v : Ver) : majV (bare v) = majV v := rfl
theorem cmp_bare (v : Ver) : cmpV v (bare v) = 0 := ord_ver.same v
theorem can_size (v : Ver) : (canV v).data.toList.isEmpty = false := by rw [can_list]; rfl
end Go.Proofs.YtmhjdahmmdfbcaaGreatDoor
