/-
  Semver: what SemverNext asks of the order: a greater last number, none of a prerelease, a build behind.
-/
import Derived.Test.YtmhjdahmmdfbcaaGreatDoorSemN
namespace Go.Proofs.YtmhjdahmmdfbcaaGreatDoor
open Go.RowKit
theorem split_sum (k : Nat) : ∀ s : ByteArray, ((Lib.splitB stopB 0 k s).map ByteArray.size).sum ≤ s.size := by
  induction k with
  | zero => intro s; rw [Lib.splitB_zero]; simp
  | succ k ih =>
    intro s
    unfold Lib.splitB
    split
    · simp
    · rw [List.map_cons, List.sum_cons]
      have := ih (s.extract ((Lib.indexB s stopB).toNat + stopB.size) s.size)
      rw [ByteArray.size_extract] at this ⊢
      omega
theorem three_sum (l : List ByteArray) (h : l.length ≤ 3) : ((l ++ [nought, nought]).getD 0 nought).size + ((l ++ [nought, nought]).getD 1 nought).size + ((l ++ [nought, nought]).getD 2 nought).size ≤ (l.map ByteArray.size).sum + 3 := by
  have hn : nought.size = 1 := rfl
  match l, h with
  | [], _ => simp [hn]
  | [a], _ => simp [hn]
  | [a, b], _ => simp [hn]
  | [a, b, c], _ => simp; omega
theorem nums_sum {s : ByteArray} {v : Ver} (h : parseR s = some v) : v.major.size + v.minor.size + v.patch.size ≤ s.size + 3 := by
  unfold parseR at h
  split at h
  · rename_i hc
    simp only [Bool.and_eq_true, decide_eq_true_eq] at hc
    obtain ⟨_, hok⟩ := hc
    have e := Option.some.inj h
    subst e
    unfold okC at hok
    simp only [Bool.and_eq_true, decide_eq_true_eq] at hok
    obtain ⟨⟨⟨⟨⟨_, hlen⟩, _⟩, _⟩, _⟩, _⟩ := hok
    have h1 := three_sum _ hlen
    have h2 : ((partsB (cutsOf s).nums).map ByteArray.size).sum ≤ (cutsOf s).nums.size := split_sum _ _
    have h3 : (cutsOf s).nums.size ≤ s.size := by
      show (strOf (cutR 45 (cutR 43 (vCut s.data.toList).1).1).1).size ≤ s.size
      rw [strOf_size]
      have h1 := (cutR_len 45 (cutR 43 (vCut s.data.toList).1).1).1
      have h2 := (cutR_len 43 (vCut s.data.toList).1).1
      have h3 : (vCut s.data.toList).1.length ≤ s.data.toList.length := by
        cases s.data.toList with
        | nil => exact Nat.le_refl _
        | cons c l => simp only [vCut]; split <;> simp
      rw [size_len] at h3
      omega
    show ((partsB (cutsOf s).nums ++ [nought, nought]).getD 0 nought).size + ((partsB (cutsOf s).nums ++ [nought, nought]).getD 1 nought).size + ((partsB (cutsOf s).nums ++ [nought, nought]).getD 2 nought).size ≤ s.size + 3
    omega
  · cases h
/-- the version with no prerelease, and the one whose last number is greater -/
def oneV (v : Ver) : Ver := ⟨v.major, v.minor, v.patch, ⟨#[]⟩, strOf [], 0⟩
def nineV (v : Ver) : Ver := ⟨v.major, v.minor, (⟨#[57]⟩ : ByteArray) ++ v.patch, ⟨#[]⟩, strOf [], 0⟩
theorem one_right {v : Ver} (h : Right v) : Right (oneV v) := ⟨h.major, h.minor, h.patch, by simp [oneV], fun he => by cases he⟩
theorem nine_list (n : ByteArray) : ((⟨#[57]⟩ : ByteArray) ++ n).data.toList = 57 :: n.data.toList := by simp [ByteArray.data_append]
theorem nine_right {v : Ver} (h : Right v) : Right (nineV v) := by
  refine ⟨h.major, h.minor, ?_, by simp [nineV], fun he => by cases he⟩
  show numL ((⟨#[57]⟩ : ByteArray) ++ v.patch).data.toList = true
  rw [nine_list]
  have hd := num_dig h.patch
  unfold digL at hd
  rw [Bool.and_eq_true] at hd
  unfold numL digL
  rw [List.all_cons, hd.1]
  simp [digC]
def oneT (v : Ver) : ByteArray := (⟨#[118]⟩ : ByteArray) ++ v.major ++ ⟨#[46]⟩ ++ v.minor ++ ⟨#[46]⟩ ++ v.patch
def nineT (v : Ver) : ByteArray := (⟨#[118]⟩ : ByteArray) ++ v.major ++ ⟨#[46]⟩ ++ v.minor ++ ⟨#[46]⟩ ++ ⟨#[57]⟩ ++ v.patch
theorem one_text (v : Ver) : canV (oneV v) = oneT v := rfl
theorem nine_text (v : Ver) : canV (nineV v) = nineT v := by
  show (⟨#[118]⟩ : ByteArray) ++ v.major ++ ⟨#[46]⟩ ++ v.minor ++ ⟨#[46]⟩ ++ ((⟨#[57]⟩ : ByteArray) ++ v.patch) = _
  unfold nineT
  simp only [ByteArray.append_assoc]
theorem one_size (v : Ver) : (oneT v).size = 3 + v.major.size + v.minor.size + v.patch.size := by
  unfold oneT
  simp only [ByteArray.size_append]
  show 1 + v.major.size + 1 + v.minor.size + 1 + v.patch.size = _
  omega
theorem nine_size (v : Ver) : (nineT v).size = 4 + v.major.size + v.minor.size + v.patch.size := by
  unfold nineT
  simp only [ByteArray.size_append]
  show 1 + v.major.size + 1 + v.minor.size + 1 + 1 + v.patch.size = _
  omega
theorem next_one {s : ByteArray} {v : Ver} (h : parseR s = some v) (hs : s.size ≤ 60) (hp : v.pre.data.toList.isEmpty = false) : cmpS s (oneT v) = -1 := by
  have hz := nums_sum h
  have hq := parse_can (one_right (ver_right h)) (by rw [one_text, one_size]; omega)
  rw [one_text] at hq
  unfold cmpS
  rw [h, hq]
  show orL [numC v.major v.major, numC v.minor v.minor, numC v.patch v.patch, preC v.pre ⟨#[]⟩] = -1
  rw [orL_four, if_pos (ord_num.same _), if_pos (ord_num.same _), if_pos (ord_num.same _), preC_eq, hp]
  rfl
theorem next_nine {s : ByteArray} {v : Ver} (h : parseR s = some v) (hs : s.size ≤ 60) : cmpS s (nineT v) = -1 := by
  have hz := nums_sum h
  have hq := parse_can (nine_right (ver_right h)) (by rw [nine_text, nine_size]; omega)
  rw [nine_text] at hq
  unfold cmpS
  rw [h, hq]
  show orL [numC v.major v.major, numC v.minor v.minor, numC v.patch ((⟨#[57]⟩ : ByteArray) ++ v.patch), _] = -1
  have hn : numC v.patch ((⟨#[57]⟩ : ByteArray) ++ v.patch) = -1 := by
    unfold numC
    have hc : cmpI (v.patch.size : Int) (((⟨#[57]⟩ : ByteArray) ++ v.patch).size : Int) = -1 := by
      rw [ByteArray.size_append]
      unfold cmpI
      rw [if_pos (by show (v.patch.size : Int) < ((1 + v.patch.size : Nat) : Int); omega)]
    rw [orL_two, hc]
    rfl
  rw [orL_four, if_pos (ord_num.same _), if_pos (ord_num.same _), hn]
  rfl
theorem next_build {s : ByteArray} {v : Ver} (h : parseR s = some v) (b : ByteArray) (hi : (parseR (canV v ++ ⟨#[43]⟩ ++ b)).isSome = true) : cmpS s (canV v ++ ⟨#[43]⟩ ++ b) = 0 := by
  have hr := ver_right h
  have hp := nums_parts hr
  have n43 := nums_no hr (c := 43) (by decide) (by decide)
  have n45 := nums_no hr (c := 45) (by decide) (by decide)
  have hv : ∀ l : List UInt8, vCut (118 :: l) = (l, true) := fun l => by simp [vCut]
  have hl : (canV v ++ ⟨#[43]⟩ ++ b).data.toList = (canV v).data.toList ++ 43 :: b.data.toList := by simp [ByteArray.data_append]
  have hc : ∃ f : Bool, cutsOf (canV v ++ ⟨#[43]⟩ ++ b) = ⟨true, strOf (numsL v), v.pre, b, f, true⟩ := by
    by_cases he : v.pre.data.toList.isEmpty = true
    · have ep : v.pre = strOf [] := bytes_ext (by rw [List.isEmpty_iff.1 he]; rfl)
      refine ⟨false, ?_⟩
      unfold cutsOf
      rw [hl, can_list, if_pos he, List.cons_append]
      simp only [hv, cutR_app n43, cutR_no n45, strOf_list, ep]
    · have n43' : (43 : UInt8) ∉ numsL v ++ 45 :: v.pre.data.toList := not_app n43 (not_cons (by decide) hr.plus)
      refine ⟨true, ?_⟩
      unfold cutsOf
      rw [hl, can_list, if_neg he, List.cons_append]
      simp only [hv, cutR_app n43', cutR_app n45, strOf_list]
  obtain ⟨f, hc⟩ := hc
  have hq : parseR (canV v ++ ⟨#[43]⟩ ++ b) = some ⟨v.major, v.minor, v.patch, v.pre, b, 0⟩ := by
    unfold parseR at hi ⊢
    split at hi
    · rename_i hcc
      rw [if_pos hcc, hc]
      unfold verC
      simp only [hp]
      rfl
    · cases hi
  unfold cmpS
  rw [h, hq]
  exact ord_ver.same v
theorem next_none {s : ByteArray} {v : Ver} (h : parseR s = some v) : cmpS ⟨#[]⟩ s = -1 := by
  have hn : parseR ⟨#[]⟩ = none := by decide +kernel
  unfold cmpS
  rw [h, hn]
  have hd := num_dig (ver_right h).major
  have hz : 0 < v.major.size := by
    unfold digL at hd
    rw [Bool.and_eq_true] at hd
    rw [← size_len]
    cases hl : v.major.data.toList with
    | nil => rw [hl] at hd; cases hd.2
    | cons c l => simp
  show orL [numC (⟨#[]⟩ : ByteArray) v.major, _, _, _] = -1
  have hm : numC (⟨#[]⟩ : ByteArray) v.major = -1 := by
    unfold numC
    have hc : cmpI ((⟨#[]⟩ : ByteArray).size : Int) (v.major.size : Int) = -1 := by
      unfold cmpI
      rw [if_pos (by show ((0 : Nat) : Int) < (v.major.size : Int); omega)]
    rw [orL_two, hc]
    rfl
  rw [orL_four, hm]
  rfl
end Go.Proofs.YtmhjdahmmdfbcaaGreatDoor
