/-
  Versions as texts: a version written out whole is read back; a version's own text is no shorter than what is written of it.
-/
import Derived.Test.YtmhjdahmmdfbcaaGreatDoorPsG
import Derived.Test.YtmhjdahmmdfbcaaGreatDoorCutM
namespace Go.Proofs.YtmhjdahmmdfbcaaGreatDoor
open Go.RowKit

def BuildOk (v : Ver) : Prop := v.build.data.toList.isEmpty = false → ((partsB v.build).all fun x => wordL x.data.toList) = true
theorem build_right {s : ByteArray} {v : Ver} (h : parseR s = some v) : BuildOk v := by
  intro hne
  unfold parseR at h
  split at h
  · rename_i hc
    simp only [Bool.and_eq_true, decide_eq_true_eq] at hc
    obtain ⟨_, hok⟩ := hc
    have e := Option.some.inj h
    subst e
    unfold okC at hok
    simp only [Bool.and_eq_true] at hok
    obtain ⟨⟨_, hbu⟩, _⟩ := hok
    have hb : (cutsOf s).hasBuild = true := by
      cases hh : (cutsOf s).hasBuild with
      | true => rfl
      | false =>
        have h2 := cutR_none 43 (vCut s.data.toList).1 hh
        have h3 : (verC (cutsOf s)).build.data.toList = (cutR 43 (vCut s.data.toList).1).2.1 := rfl
        rw [h3, h2] at hne
        cases hne
    rw [hb, Bool.true_and, Bool.not_not] at hbu
    exact hbu
  · cases h
theorem wri_build {v : Ver} (he : v.build.data.toList.isEmpty = false) : wriV v = canV v ++ (⟨#[43]⟩ ++ v.build) := by unfold wriV; rw [he]; rfl
theorem wri_none {v : Ver} (he : v.build.data.toList.isEmpty = true) : wriV v = canV v := by unfold wriV; rw [he]; rfl
def full (v : Ver) : Ver := ⟨v.major, v.minor, v.patch, v.pre, v.build, 0⟩
theorem parse_wri {v : Ver} (hr : Right v) (hb : BuildOk v) (hz : (wriV v).size ≤ 100) : parseR (wriV v) = some (full v) := by
  by_cases hbe : v.build.data.toList.isEmpty = true
  · rw [wri_none hbe] at hz ⊢
    rw [parse_can hr hz]
    have eb : v.build = strOf [] := bytes_ext (by rw [List.isEmpty_iff.1 hbe]; rfl)
    unfold bare full
    rw [eb]
  · have hbf : v.build.data.toList.isEmpty = false := by simpa using hbe
    have hw := hb hbf
    rw [wri_build hbf] at hz ⊢
    have hp := nums_parts hr
    have n43 := nums_no hr (c := 43) (by decide) (by decide)
    have n45 := nums_no hr (c := 45) (by decide) (by decide)
    have hv : ∀ l : List UInt8, vCut (118 :: l) = (l, true) := fun l => by simp [vCut]
    have hl : (canV v ++ (⟨#[43]⟩ ++ v.build)).data.toList = (canV v).data.toList ++ 43 :: v.build.data.toList := by simp [ByteArray.data_append]
    have hc : ∃ f : Bool, (f = true → v.pre.data.toList.isEmpty = false) ∧ cutsOf (canV v ++ (⟨#[43]⟩ ++ v.build)) = ⟨true, strOf (numsL v), v.pre, v.build, f, true⟩ := by
      by_cases he : v.pre.data.toList.isEmpty = true
      · have ep : v.pre = strOf [] := bytes_ext (by rw [List.isEmpty_iff.1 he]; rfl)
        refine ⟨false, (fun h => by cases h), ?_⟩
        unfold cutsOf
        rw [hl, can_list, if_pos he, List.cons_append]
        simp only [hv, cutR_app n43, cutR_no n45, strOf_list, ep]
      · have n43' : (43 : UInt8) ∉ numsL v ++ 45 :: v.pre.data.toList := not_app n43 (not_cons (by decide) hr.plus)
        refine ⟨true, (fun _ => by simpa using he), ?_⟩
        unfold cutsOf
        rw [hl, can_list, if_neg he, List.cons_append]
        simp only [hv, cutR_app n43', cutR_app n45, strOf_list]
    obtain ⟨f, hf, hc⟩ := hc
    have ho : okC (cutsOf (canV v ++ (⟨#[43]⟩ ++ v.build))) = true := by
      rw [hc]
      unfold okC
      simp only [hp, hw]
      cases f with
      | true => simp [hr.major, hr.minor, hr.patch, hr.pre (hf rfl)]
      | false => simp [hr.major, hr.minor, hr.patch]
    unfold parseR
    rw [decide_eq_true hz, ho, hc]
    unfold verC full
    simp only [hp]
    rfl

theorem cutR_sum (c : UInt8) (l : List UInt8) : (cutR c l).1.length + (if (cutR c l).2.1.isEmpty then 0 else 1 + (cutR c l).2.1.length) ≤ l.length := by
  unfold cutR
  cases h : splitC c l with
  | none => simp
  | some x =>
    obtain ⟨p, q⟩ := x
    have hl : p.length + 1 + q.length = l.length := by
      have key : ∀ (l p q : List UInt8), splitC c l = some (p, q) → p.length + 1 + q.length = l.length := by
        intro l
        induction l with
        | nil => intro p q h; cases h
        | cons b l ih =>
          intro p q h
          unfold splitC at h
          split at h
          · cases h; simp; omega
          · cases hs : splitC c l with
            | none => rw [hs] at h; cases h
            | some y =>
              rw [hs] at h
              cases h
              have := ih y.1 y.2 hs
              simp; omega
      exact key l p q h
    show p.length + (if q.isEmpty then 0 else 1 + q.length) ≤ l.length
    split <;> omega
theorem split_sum2 (k : Nat) : ∀ s : ByteArray, ((Lib.splitB stopB 0 k s).map ByteArray.size).sum + (Lib.splitB stopB 0 k s).length ≤ s.size + 1 := by
  induction k with
  | zero => intro s; rw [Lib.splitB_zero]; simp
  | succ k ih =>
    intro s
    have hge := Lib.indexByte_ge s.data.toList 46
    by_cases hm : Lib.indexB s stopB = -1
    · rw [Lib.splitB_miss _ _ _ _ hm]; simp
    · obtain ⟨i, hi⟩ : ∃ i : Nat, Lib.indexB s stopB = (i : Int) := ⟨(Lib.indexB s stopB).toNat, by rw [index_stopB] at hm ⊢; omega⟩
      rw [Lib.splitB_hit _ _ _ _ i hi]
      have hlt : i < s.size := by
        rw [index_stopB] at hi
        have := (Lib.indexByte_some hi).1
        rw [← size_len]
        exact (List.getElem?_eq_some_iff.1 this).1
      have := ih (s.extract (i + stopB.size) s.size)
      have h1 : stopB.size = 1 := rfl
      rw [List.map_cons, List.sum_cons, List.length_cons]
      rw [ByteArray.size_extract] at this ⊢
      omega
theorem can_len (v : Ver) : (canV v).size = 3 + v.major.size + v.minor.size + v.patch.size + (if v.pre.data.toList.isEmpty then 0 else 1 + v.pre.size) := by
  rw [← size_len, can_list]
  unfold numsL
  have e1 := size_len v.major
  have e2 := size_len v.minor
  have e3 := size_len v.patch
  have e4 := size_len v.pre
  split <;> simp only [List.length_cons, List.length_append] <;> omega
theorem wri_len (v : Ver) : (wriV v).size = (canV v).size + (if v.build.data.toList.isEmpty then 0 else 1 + v.build.size) := by
  unfold wriV
  split
  · rfl
  · rw [ByteArray.size_append, ByteArray.size_append]; rfl
theorem whole_size {s : ByteArray} {v : Ver} (h : parseR s = some v) (h0 : v.short = 0) : (wriV v).size ≤ s.size ∧ s.size ≤ 100 := by
  unfold parseR at h
  split at h
  · rename_i hc
    simp only [Bool.and_eq_true, decide_eq_true_eq] at hc
    obtain ⟨hz, hok⟩ := hc
    refine ⟨?_, hz⟩
    have e := Option.some.inj h
    subst e
    unfold okC at hok
    simp only [Bool.and_eq_true, decide_eq_true_eq] at hok
    obtain ⟨⟨⟨⟨⟨hmk, hle3⟩, _⟩, _⟩, _⟩, _⟩ := hok
    have h03 : 3 - (partsB (cutsOf s).nums).length = 0 := h0
    have hlen : (partsB (cutsOf s).nums).length = 3 := by omega
    obtain ⟨x, y, z, hxyz⟩ : ∃ x y z, partsB (cutsOf s).nums = [x, y, z] := by
      match hq : partsB (cutsOf s).nums, hlen with
      | [x, y, z], _ => exact ⟨x, y, z, rfl⟩
    have hs2 := split_sum2 (Lib.countB (cutsOf s).nums stopB) (cutsOf s).nums
    rw [show Lib.splitB stopB 0 (Lib.countB (cutsOf s).nums stopB) (cutsOf s).nums = partsB (cutsOf s).nums from rfl, hxyz] at hs2
    simp only [List.map_cons, List.map_nil, List.sum_cons, List.sum_nil, List.length_cons, List.length_nil] at hs2
    have e1 : (verC (cutsOf s)).major = x := by unfold verC; simp only [hxyz]; rfl
    have e2 : (verC (cutsOf s)).minor = y := by unfold verC; simp only [hxyz]; rfl
    have e3 : (verC (cutsOf s)).patch = z := by unfold verC; simp only [hxyz]; rfl
    have hn : (cutsOf s).nums.size = (cutR 45 (cutR 43 (vCut s.data.toList).1).1).1.length := strOf_size _
    have c45 := cutR_sum 45 (cutR 43 (vCut s.data.toList).1).1
    have c43 := cutR_sum 43 (vCut s.data.toList).1
    have hv1 : (vCut s.data.toList).1.length + 1 = s.size := by
      have hmk' : (vCut s.data.toList).2 = true := hmk
      rw [← size_len]
      cases hl : s.data.toList with
      | nil => rw [hl] at hmk'; cases hmk'
      | cons c r =>
        rw [hl] at hmk'
        by_cases h118 : c = 118
        · simp [vCut, h118]
        · simp [vCut, h118] at hmk'
    have ep : (verC (cutsOf s)).pre.data.toList = (cutR 45 (cutR 43 (vCut s.data.toList).1).1).2.1 := rfl
    have eb : (verC (cutsOf s)).build.data.toList = (cutR 43 (vCut s.data.toList).1).2.1 := rfl
    have lp := size_len (verC (cutsOf s)).pre
    have lb := size_len (verC (cutsOf s)).build
    rw [wri_len, can_len, e1, e2, e3, ep, eb, ← lp, ← lb, ep, eb]
    omega
  · cases h

/-- what a cut that went through says of the prerelease -/
theorem cut_ok {p : ByteArray} (h : (cutPre p).ok = true) : ∃ f, f + 14 < p.size ∧ (cutPre p).front = p.extract 0 f ∧ (cutPre p).rev.size = 12 ∧ p.data.toList.isEmpty = false := by
  unfold cutPre at h ⊢
  by_cases h1 : Lib.lastIndexByte p 45 < 14
  · rw [if_pos h1] at h; cases h
  · rw [if_neg h1] at h ⊢
    obtain ⟨k, hk, he⟩ : ∃ k : Nat, k < p.size ∧ Lib.lastIndexByte p 45 = (k : Int) := by
      rcases Lib.lastIndexByte_spec p 45 with ⟨h, _⟩ | ⟨i, hi, h, _⟩
      · omega
      · exact ⟨i, hi, h⟩
    rw [he] at h h1 ⊢
    rw [Int.toNat_natCast] at h ⊢
    unfold cutAt at h ⊢
    cases hr : revB (p.extract (k + 1) p.size) with
    | false => rw [hr] at h; cases h
    | true =>
      rw [if_pos rfl]
      refine ⟨k - 14, by omega, rfl, ?_, ?_⟩
      · show (p.extract (k + 1) p.size).size = 12
        unfold revB at hr
        rw [Bool.and_eq_true] at hr
        exact of_decide_eq_true hr.1
      · cases hl : p.data.toList with
        | nil => have := size_len p; rw [hl] at this; simp at this; omega
        | cons c l => rfl
/-- what stands in a version that is told apart -/
theorem told_good {v : Ver} (h : (toldV v).err = 0) : v.short = 0 ∧ (cutPre v.pre).ok = true ∧ (baseR v (cutPre v.pre).front).2 = true ∧ (toldV v).base = (baseR v (cutPre v.pre).front).1 ∧ (toldV v).rev = (cutPre v.pre).rev := by
  unfold toldV at h ⊢
  by_cases h0 : 0 < v.short
  · rw [if_pos h0] at h; cases h
  · rw [if_neg h0] at h ⊢
    cases hc : (cutPre v.pre).ok with
    | false => rw [hc] at h; cases h
    | true =>
      rw [hc, if_pos rfl] at h
      rw [if_pos rfl]
      cases hb : (baseR v (cutPre v.pre).front).2 with
      | false => rw [hb] at h; cases h
      | true => exact ⟨by omega, rfl, rfl, by rw [if_pos rfl], by rw [if_pos rfl]⟩
theorem base_bare {v : Ver} {f : ByteArray} (h : (baseR v f).2 = true) : (baseR (bare v) f).2 = true := by
  unfold baseR at h ⊢
  cases hF : f.toList.isEmpty with
  | true =>
    rw [hF, if_pos rfl] at h
    rw [if_pos rfl]
    simp only [Bool.and_eq_true] at h ⊢
    exact ⟨h.1, by show (strOf []).toList.isEmpty = true; rw [empty_beq]; rfl⟩
  | false =>
    rw [hF] at h
    rw [if_neg Bool.false_ne_true] at h ⊢
    cases h2 : f.toList == [48, 46] with
    | true =>
      rw [h2, if_pos rfl] at h
      rw [if_pos rfl]
      cases h3 : v.patch.toList == [48] with
      | true => rw [h3] at h; cases h
      | false => rw [show (bare v).patch = v.patch from rfl, h3]; rfl
    | false =>
      rw [h2, if_neg Bool.false_ne_true] at h
      rw [if_neg Bool.false_ne_true]
      cases h3 : Lib.hasSuffix f.data.toList [46, 48, 46] with
      | true => rfl
      | false => rw [h3] at h; cases h
theorem told_can {s : ByteArray} {v : Ver} (h : parseR s = some v) (he : (toldV v).err = 0) : (told (canV v)).err = 0 := by
  obtain ⟨h0, hc, hb, _⟩ := told_good he
  have hw := whole_size h h0
  have hz : (canV v).size ≤ 100 := by rw [wri_len] at hw; omega
  unfold told
  rw [parse_can (ver_right h) hz]
  show (toldV (bare v)).err = 0
  unfold toldV
  rw [if_neg (by show ¬ 0 < 0; omega), show (bare v).pre = v.pre from rfl, hc, if_pos rfl, base_bare hb, if_pos rfl]
end Go.Proofs.YtmhjdahmmdfbcaaGreatDoor
