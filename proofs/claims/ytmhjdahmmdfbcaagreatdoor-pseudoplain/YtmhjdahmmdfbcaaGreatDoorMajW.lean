/-
  Walks of semver: Major; the law SemverMajor.
-/
import Derived.Test.YtmhjdahmmdfbcaaGreatDoorSemG
namespace Go.Proofs.YtmhjdahmmdfbcaaGreatDoor
open Go.RowKit
theorem splitC_no {c : UInt8} : ∀ {l : List UInt8}, c ∉ l → splitC c l = none
  | [], _ => rfl
  | b :: l, h => by
    unfold splitC
    rw [if_neg (fun e => h (by rw [e]; exact List.mem_cons_self)), splitC_no (fun hm => h (List.mem_cons_of_mem _ hm))]
    rfl
theorem cutR_no {c : UInt8} {l : List UInt8} (h : c ∉ l) : cutR c l = (l, [], false) := by
  unfold cutR
  rw [splitC_no h]
theorem dig_no {l : List UInt8} (h : digL l = true) {c : UInt8} (hc : digC c = false) : c ∉ l := fun hm => by
  unfold digL at h
  rw [Bool.and_eq_true, List.all_eq_true] at h
  rw [h.1 c hm] at hc
  cases hc
theorem num_dig {l : List UInt8} (h : numL l = true) : digL l = true := by
  unfold numL at h
  rw [Bool.and_eq_true] at h
  exact h.1
theorem parts_one {s : ByteArray} (h : (46 : UInt8) ∉ s.data.toList) : partsB s = [s] := by
  unfold partsB
  have h0 : Lib.indexB s stopB = -1 := by
    rw [index_stopB]
    exact (split_none (splitC_no h)).1
  exact Lib.splitB_miss _ _ _ _ h0
theorem strOf_list (s : ByteArray) : strOf s.data.toList = s := rfl
def majV (v : Ver) : ByteArray := (⟨#[118]⟩ : ByteArray) ++ v.major
def majS (s : ByteArray) : ByteArray := match parseR s with | none => ⟨#[]⟩ | some v => majV v
theorem maj_list (n : ByteArray) : ((⟨#[118]⟩ : ByteArray) ++ n).data.toList = 118 :: n.data.toList := by simp [ByteArray.data_append]
theorem parse_v (n : ByteArray) (h : numL n.data.toList = true) (hz : n.size ≤ 99) : parseR ((⟨#[118]⟩ : ByteArray) ++ n) = some ⟨n, nought, nought, strOf [], strOf [], 2⟩ := by
  have hd := num_dig h
  have hc : cutsOf ((⟨#[118]⟩ : ByteArray) ++ n) = ⟨true, n, strOf [], strOf [], false, false⟩ := by
    unfold cutsOf
    rw [maj_list]
    have hv : vCut (118 :: n.data.toList) = (n.data.toList, true) := by simp [vCut]
    simp only [hv, cutR_no (dig_no hd (c := 43) (by decide)), cutR_no (dig_no hd (c := 45) (by decide)), strOf_list]
  have hp : partsB n = [n] := parts_one (dig_no hd (by decide))
  have hs : ((⟨#[118]⟩ : ByteArray) ++ n).size ≤ 100 := by
    rw [ByteArray.size_append]
    show 1 + n.size ≤ 100
    omega
  have ho : okC (cutsOf ((⟨#[118]⟩ : ByteArray) ++ n)) = true := by
    rw [hc]
    unfold okC
    simp only [hp]
    simp [h]
  unfold parseR
  rw [decide_eq_true hs, ho, hc]
  unfold verC
  simp only [hp]
  rfl
theorem major_num {s : ByteArray} {v : Ver} (h : parseR s = some v) : numL v.major.data.toList = true ∧ v.major.size ≤ 99 := by
  unfold parseR at h
  split at h
  · rename_i hc
    simp only [Bool.and_eq_true, decide_eq_true_eq] at hc
    obtain ⟨hs, hok⟩ := hc
    have e := Option.some.inj h
    subst e
    unfold okC at hok
    simp only [Bool.and_eq_true] at hok
    obtain ⟨⟨⟨⟨⟨hm, _⟩, _⟩, _⟩, _⟩, han⟩ := hok
    rw [List.all_eq_true] at han
    have hlen : (partsB (cutsOf s).nums).length = Lib.countB (cutsOf s).nums stopB + 1 := Lib.splitB_all stopB (by decide) 0 _ _ rfl
    have hns : (cutsOf s).nums.size ≤ 99 := by
      show (strOf (cutR 45 (cutR 43 (vCut s.data.toList).1).1).1).size ≤ 99
      rw [strOf_size]
      have h1 := (cutR_len 45 (cutR 43 (vCut s.data.toList).1).1).1
      have h2 := (cutR_len 43 (vCut s.data.toList).1).1
      have hm' : (vCut s.data.toList).2 = true := hm
      have h3 : (vCut s.data.toList).1.length + 1 ≤ s.data.toList.length := by
        cases hl : s.data.toList with
        | nil => rw [hl] at hm'; cases hm'
        | cons c l =>
          rw [hl] at hm'
          simp only [vCut] at hm' ⊢
          by_cases h118 : c = 118
          · rw [if_pos h118]; simp
          · rw [if_neg h118] at hm'; cases hm'
      rw [size_len] at h3
      omega
    cases hp : partsB (cutsOf s).nums with
    | nil => rw [hp] at hlen; simp at hlen
    | cons a l =>
      have hmem : a ∈ partsB (cutsOf s).nums := by rw [hp]; exact List.mem_cons_self
      have hmj : (verC (cutsOf s)).major = a := by unfold verC; simp only [hp]; rfl
      rw [hmj]
      exact ⟨han a hmem, by have := parts_size hmem; omega⟩
  · cases h
theorem numC_zero (a b : ByteArray) : numC a b = 0 ↔ a = b := by
  unfold numC
  rw [orL_two]
  constructor
  · intro h
    split at h
    · exact bytes_ext ((cmp_zero _ _).1 h)
    · rename_i hn; exact absurd h hn
  · intro h
    subst h
    rw [ord_int.same, if_pos rfl]
    exact (cmp_zero _ _).2 rfl
theorem maj_cmp {a b : ByteArray} {v u : Ver} (ha : parseR a = some v) (hb : parseR b = some u) (hn : v.major ≠ u.major) : cmpS a b = numC v.major u.major ∧ cmpS (majV v) (majV u) = numC v.major u.major ∧ numC v.major u.major ≠ 0 := by
  have h0 : numC v.major u.major ≠ 0 := fun h => hn ((numC_zero _ _).1 h)
  refine ⟨?_, ?_, h0⟩
  · unfold cmpS
    rw [ha, hb]
    show orL [numC v.major u.major, _, _, _] = _
    rw [orL_four, if_neg h0]
  · unfold cmpS majV
    rw [parse_v _ (major_num ha).1 (major_num ha).2, parse_v _ (major_num hb).1 (major_num hb).2]
    show orL [numC v.major u.major, _, _, _] = _
    rw [orL_four, if_neg h0]
theorem maj_inj {v u : Ver} (h : majV v = majV u) : v.major = u.major := by
  have h1 := congrArg (fun x : ByteArray => x.data.toList) h
  unfold majV at h1
  simp only [maj_list, List.cons.injEq, true_and] at h1
  exact bytes_ext h1
end Go.Proofs.YtmhjdahmmdfbcaaGreatDoor
