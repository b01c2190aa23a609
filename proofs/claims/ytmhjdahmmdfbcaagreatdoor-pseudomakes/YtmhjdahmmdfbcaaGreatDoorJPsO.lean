/-
  The parts of a text between bytes of one kind; numbers with 0 ahead.
  Versions as texts: a version written out whole is read back; a version's own text is no shorter than what is written of it.
  A base with a prerelease stands ahead of what is made of it.
  A number one less is a number, and stands ahead.
-/
import Derived.Test.YtmhjdahmmdfbcaaGreatDoorJShelP
import Derived.Test.YtmhjdahmmdfbcaaGreatDoorJPsG
namespace Go.Proofs.YtmhjdahmmdfbcaaGreatDoor
open Go.RowKit
/-- the parts of a text between the bytes c -/
def cutL (c : UInt8) : List UInt8 → List (List UInt8)
  | [] => [[]]
  | b :: l => if b = c then [] :: cutL c l else match cutL c l with
    | [] => [[b]]
    | p :: ps => (b :: p) :: ps
theorem cutL_ne (c : UInt8) (l : List UInt8) : cutL c l ≠ [] := by
  cases l with
  | nil => simp [cutL]
  | cons b l =>
    unfold cutL
    split
    · simp
    · split <;> simp
theorem cutL_one {c : UInt8} : ∀ {l : List UInt8}, c ∉ l → cutL c l = [l]
  | [], _ => rfl
  | b :: l, h => by
    have h1 : ¬ b = c := fun e => h (by rw [e]; exact List.mem_cons_self)
    have h2 : c ∉ l := fun e => h (List.mem_cons_of_mem _ e)
    unfold cutL
    rw [if_neg h1, cutL_one h2]
theorem cutL_app {c : UInt8} : ∀ {l r : List UInt8}, c ∉ l → cutL c (l ++ c :: r) = l :: cutL c r
  | [], r, _ => by
    show cutL c (c :: r) = _
    rw [cutL, if_pos rfl]
  | b :: l, r, h => by
    have h1 : ¬ b = c := fun e => h (by rw [e]; exact List.mem_cons_self)
    have h2 : c ∉ l := fun e => h (List.mem_cons_of_mem _ e)
    show cutL c (b :: (l ++ c :: r)) = _
    rw [cutL, if_neg h1, cutL_app h2]
/-- what the loop of Cut makes of its list at one byte -/
def stepL (c : UInt8) (L : List (List UInt8)) (x : UInt8) : List (List UInt8) := if x = c then L ++ [[]] else L.dropLast ++ [L.getLastD [] ++ [x]]
theorem fold_cut (c : UInt8) : ∀ (l : List UInt8) (L : List (List UInt8)) (p : List UInt8), c ∉ p → l.foldl (stepL c) (L ++ [p]) = L ++ cutL c (p ++ l)
  | [], L, p, h => by rw [List.append_nil, cutL_one h]; rfl
  | x :: l, L, p, h => by
    rw [List.foldl_cons]
    by_cases hx : x = c
    · subst hx
      have e : stepL x (L ++ [p]) x = (L ++ [p]) ++ [[]] := by unfold stepL; rw [if_pos rfl]
      rw [e, fold_cut x l (L ++ [p]) [] (by simp), cutL_app h]
      simp
    · have e : stepL c (L ++ [p]) x = L ++ [p ++ [x]] := by unfold stepL; rw [if_neg hx]; simp
      rw [e, fold_cut c l L (p ++ [x]) (fun hm => by rcases List.mem_append.1 hm with hm | hm; exact h hm; simp at hm; exact hx hm.symm)]
      simp
theorem fold_whole (c : UInt8) (l : List UInt8) : l.foldl (stepL c) [[]] = cutL c l := fold_cut c l [] [] (by simp)
theorem fold_next (c : UInt8) (l : List UInt8) (k : Nat) (hk : k < l.length) : (l.take (k + 1)).foldl (stepL c) [[]] = stepL c ((l.take k).foldl (stepL c) [[]]) l[k] := by
  rw [List.take_succ_eq_append_getElem hk, List.foldl_append]
  rfl
theorem fold_len (c : UInt8) (l : List UInt8) : ∀ (L : List (List UInt8)), 0 < L.length → 0 < (l.foldl (stepL c) L).length ∧ (l.foldl (stepL c) L).length ≤ L.length + l.length := by
  induction l with
  | nil => intro L h; exact ⟨h, Nat.le_refl _⟩
  | cons x l ih =>
    intro L h
    have h1 : 0 < (stepL c L x).length ∧ (stepL c L x).length ≤ L.length + 1 := by
      unfold stepL
      split <;> simp
    have := ih _ h1.1
    rw [List.foldl_cons]
    simp only [List.length_cons]
    omega
theorem cutL_len (c : UInt8) (l : List UInt8) : (cutL c l).length ≤ l.length + 1 := by
  have := fold_len c l [[]] (by simp)
  rw [fold_whole] at this
  simp at this
  omega
theorem cutL_size (c : UInt8) : ∀ (l p : List UInt8), p ∈ cutL c l → p.length ≤ l.length
  | [], p, h => by simp [cutL] at h; subst h; simp
  | b :: l, p, h => by
    unfold cutL at h
    split at h
    · rcases List.mem_cons.1 h with h | h
      · subst h; simp
      · have := cutL_size c l p h; simp; omega
    · split at h
      · simp at h; subst h; simp
      · rename_i q qs hq
        rcases List.mem_cons.1 h with h | h
        · subst h
          have := cutL_size c l q (by rw [hq]; exact List.mem_cons_self)
          simp; omega
        · have := cutL_size c l p (by rw [hq]; exact List.mem_cons_of_mem _ h); simp; omega
theorem parts_cut (n : Nat) : ∀ s : ByteArray, s.size ≤ n → partsB s = (cutL 46 s.data.toList).map strOf := by
  induction n with
  | zero =>
    intro s h
    have e : s.data.toList = [] := List.length_eq_zero_iff.1 (by rw [size_len]; omega)
    rw [e, parts_one (by rw [e]; simp)]
    show [s] = [strOf []]
    rw [show s = strOf [] from bytes_ext (by rw [e]; rfl)]
  | succ n ih =>
    intro s h
    cases hs : splitC 46 s.data.toList with
    | none =>
      have hn := (split_none hs).2
      rw [parts_one hn, cutL_one hn]
      show [s] = [strOf s.data.toList]
      rw [show s = strOf s.data.toList from bytes_ext rfl]
      rfl
    | some x =>
      obtain ⟨p, q⟩ := x
      obtain ⟨_, e, hp⟩ := split_some hs
      have e2 : s = strOf ((strOf p).data.toList ++ 46 :: (strOf q).data.toList) := bytes_ext e
      rw [e, cutL_app hp]
      conv => lhs; rw [e2]
      rw [parts_cons (by exact hp), ih (strOf q) ?_]
      · rfl
      · rw [strOf_size]
        have : s.size = p.length + (q.length + 1) := by rw [← size_len, e]; simp
        omega
theorem parts_eq (s : ByteArray) : partsB s = (cutL 46 s.data.toList).map strOf := parts_cut s.size s (Nat.le_refl _)
/-- a number with as many 0 ahead as it wants -/
def padTo (n : Nat) (l : List UInt8) : List UInt8 := List.replicate (n - l.length) 48 ++ l
theorem padTo_len (n : Nat) (l : List UInt8) : (padTo n l).length = max n l.length := by
  unfold padTo
  rw [List.length_append, List.length_replicate]
  omega
theorem padTo_full {n : Nat} {l : List UInt8} (h : n ≤ l.length) : padTo n l = l := by
  unfold padTo
  rw [Nat.sub_eq_zero_of_le h]
  rfl
theorem num_pos {l : List UInt8} (h : numL l = true) : 0 < l.length := by
  unfold numL digL at h
  simp only [Bool.and_eq_true] at h
  cases l with
  | nil => simp at h
  | cons => simp
theorem num_head {x : UInt8} {l : List UInt8} (h : numL (x :: l) = true) (hl : l ≠ []) : 48 < x.toNat := by
  unfold numL digL digC at h
  simp only [Bool.and_eq_true, List.all_cons, Bool.or_eq_true, decide_eq_true_eq, beq_iff_eq, List.length_cons, List.getD_cons_zero, bne_iff_ne, ne_eq] at h
  rcases h.2 with h1 | h1
  · exact absurd (List.length_eq_zero_iff.1 (by omega)) hl
  · have : x.toNat ≠ 48 := fun e => h1 (by rw [← UInt8.toNat_inj, e]; rfl)
    have := h.1.1.1.1
    omega
theorem pad_less {a b : List UInt8} (ha : 0 < a.length) (hb : numL b = true) (h : a.length < b.length) : Lib.compareBytes (padTo b.length a) b = -1 := by
  cases b with
  | nil => simp at h
  | cons y b =>
    have hn : b ≠ [] := fun e => by subst e; simp only [List.length_cons, List.length_nil] at h; omega
    have hy := num_head hb hn
    have e : padTo (y :: b).length a = 48 :: padTo b.length a := by
      unfold padTo
      rw [List.length_cons, Nat.succ_sub (by simp at h; omega), List.replicate_succ]
      rfl
    rw [e, cmp_cons, if_pos (by show 48 < y.toNat; exact hy)]
theorem pad_num {a b : ByteArray} (ha : numL a.data.toList = true) (hb : numL b.data.toList = true) : Lib.compareBytes (padTo b.size a.data.toList) (padTo (padTo b.size a.data.toList).length b.data.toList) = numC a b := by
  have pa := num_pos ha
  have pb := num_pos hb
  unfold numC
  rw [orL_two]
  rw [size_len] at pa pb
  rcases Nat.lt_trichotomy a.size b.size with h | h | h
  · have e : padTo (padTo b.size a.data.toList).length b.data.toList = b.data.toList := padTo_full (by rw [padTo_len, size_len, size_len]; omega)
    rw [e]
    have hl := pad_less (a := a.data.toList) (b := b.data.toList) (by rw [size_len]; omega) hb (by rw [size_len, size_len]; exact h)
    rw [size_len] at hl
    rw [hl]
    have c : cmpI (a.size : Int) (b.size : Int) = -1 := by unfold cmpI; rw [if_pos (by omega)]
    rw [c]; rfl
  · have e1 : padTo b.size a.data.toList = a.data.toList := padTo_full (by rw [size_len]; omega)
    rw [e1, size_len, padTo_full (by rw [size_len]; omega)]
    have c : cmpI (a.size : Int) (b.size : Int) = 0 := by unfold cmpI; rw [if_neg (by omega), if_neg (by omega)]
    rw [c, if_pos rfl]
  · have e1 : padTo b.size a.data.toList = a.data.toList := padTo_full (by rw [size_len]; omega)
    rw [e1]
    have hl := pad_less (a := b.data.toList) (b := a.data.toList) (by rw [size_len]; omega) ha (by rw [size_len, size_len]; exact h)
    rw [cmp_anti, hl]
    have c : cmpI (a.size : Int) (b.size : Int) = 1 := by unfold cmpI; rw [if_neg (by omega), if_pos (by omega)]
    rw [c]; rfl
end Go.Proofs.YtmhjdahmmdfbcaaGreatDoor
namespace Go.Proofs.YtmhjdahmmdfbcaaGreatDoor
open Go.RowKit

def BuildOk (v : Ver) : Prop := v.build.data.toList.isEmpty = false → ((partsB v.build).all fun x => wordL x.data.toList) = true
theorem build_right {s : ByteArray} {v : Ver} (h : parseR s = some v) : BuildOk v := by
  intro hne
  unfold parseR at h
  split at h
  · rename_i hc
    simp only [Bool.and_eq_true, decide_eq_true_eq] at hc
    obtain ⟨_, hok⟩ := hc
    have e := Option.some.inj h
    subst e
    unfold okC at hok
    simp only [Bool.and_eq_true] at hok
    obtain ⟨⟨_, hbu⟩, _⟩ := hok
    have hb : (cutsOf s).hasBuild = true := by
      cases hh : (cutsOf s).hasBuild with
      | true => rfl
      | false =>
        have h2 := cutR_none 43 (vCut s.data.toList).1 hh
        have h3 : (verC (cutsOf s)).build.data.toList = (cutR 43 (vCut s.data.toList).1).2.1 := rfl
        rw [h3, h2] at hne
        cases hne
    rw [hb, Bool.true_and, Bool.not_not] at hbu
    exact hbu
  · cases h
theorem wri_build {v : Ver} (he : v.build.data.toList.isEmpty = false) : wriV v = canV v ++ (⟨#[43]⟩ ++ v.build) := by unfold wriV; rw [he]; rfl
theorem wri_none {v : Ver} (he : v.build.data.toList.isEmpty = true) : wriV v = canV v := by unfold wriV; rw [he]; rfl
def full (v : Ver) : Ver := ⟨v.major, v.minor, v.patch, v.pre, v.build, 0⟩
theorem parse_wri {v : Ver} (hr : Right v) (hb : BuildOk v) (hz : (wriV v).size ≤ 100) : parseR (wriV v) = some (full v) := by
  by_cases hbe : v.build.data.toList.isEmpty = true
  · rw [wri_none hbe] at hz ⊢
    rw [parse_can hr hz]
    have eb : v.build = strOf [] := bytes_ext (by rw [List.isEmpty_iff.1 hbe]; rfl)
    unfold bare full
    rw [eb]
  · have hbf : v.build.data.toList.isEmpty = false := by simpa using hbe
    have hw := hb hbf
    rw [wri_build hbf] at hz ⊢
    have hp := nums_parts hr
    have n43 := nums_no hr (c := 43) (by decide) (by decide)
    have n45 := nums_no hr (c := 45) (by decide) (by decide)
    have hv : ∀ l : List UInt8, vCut (118 :: l) = (l, true) := fun l => by simp [vCut]
    have hl : (canV v ++ (⟨#[43]⟩ ++ v.build)).data.toList = (canV v).data.toList ++ 43 :: v.build.data.toList := by simp [ByteArray.data_append]
    have hc : ∃ f : Bool, (f = true → v.pre.data.toList.isEmpty = false) ∧ cutsOf (canV v ++ (⟨#[43]⟩ ++ v.build)) = ⟨true, strOf (numsL v), v.pre, v.build, f, true⟩ := by
      by_cases he : v.pre.data.toList.isEmpty = true
      · have ep : v.pre = strOf [] := bytes_ext (by rw [List.isEmpty_iff.1 he]; rfl)
        refine ⟨false, (fun h => by cases h), ?_⟩
        unfold cutsOf
        rw [hl, can_list, if_pos he, List.cons_append]
        simp only [hv, cutR_app n43, cutR_no n45, strOf_list, ep]
      · have n43' : (43 : UInt8) ∉ numsL v ++ 45 :: v.pre.data.toList := not_app n43 (not_cons (by decide) hr.plus)
        refine ⟨true, (fun _ => by simpa using he), ?_⟩
        unfold cutsOf
        rw [hl, can_list, if_neg he, List.cons_append]
        simp only [hv, cutR_app n43', cutR_app n45, strOf_list]
    obtain ⟨f, hf, hc⟩ := hc
    have ho : okC (cutsOf (canV v ++ (⟨#[43]⟩ ++ v.build))) = true := by
      rw [hc]
      unfold okC
      simp only [hp, hw]
      cases f with
      | true => simp [hr.major, hr.minor, hr.patch, hr.pre (hf rfl)]
      | false => simp [hr.major, hr.minor, hr.patch]
    unfold parseR
    rw [decide_eq_true hz, ho, hc]
    unfold verC full
    simp only [hp]
    rfl

theorem cutR_sum (c : UInt8) (l : List UInt8) : (cutR c l).1.length + (if (cutR c l).2.1.isEmpty then 0 else 1 + (cutR c l).2.1.length) ≤ l.length := by
  unfold cutR
  cases h : splitC c l with
  | none => simp
  | some x =>
    obtain ⟨p, q⟩ := x
    have hl : p.length + 1 + q.length = l.length := by
      have key : ∀ (l p q : List UInt8), splitC c l = some (p, q) → p.length + 1 + q.length = l.length := by
        intro l
        induction l with
        | nil => intro p q h; cases h
        | cons b l ih =>
          intro p q h
          unfold splitC at h
          split at h
          · cases h; simp; omega
          · cases hs : splitC c l with
            | none => rw [hs] at h; cases h
            | some y =>
              rw [hs] at h
              cases h
              have := ih y.1 y.2 hs
              simp; omega
      exact key l p q h
    show p.length + (if q.isEmpty then 0 else 1 + q.length) ≤ l.length
    split <;> omega
theorem split_sum2 (k : Nat) : ∀ s : ByteArray, ((Lib.splitB stopB 0 k s).map ByteArray.size).sum + (Lib.splitB stopB 0 k s).length ≤ s.size + 1 := by
  induction k with
  | zero => intro s; rw [Lib.splitB_zero]; simp
  | succ k ih =>
    intro s
    have hge := Lib.indexByte_ge s.data.toList 46
    by_cases hm : Lib.indexB s stopB = -1
    · rw [Lib.splitB_miss _ _ _ _ hm]; simp
    · obtain ⟨i, hi⟩ : ∃ i : Nat, Lib.indexB s stopB = (i : Int) := ⟨(Lib.indexB s stopB).toNat, by rw [index_stopB] at hm ⊢; omega⟩
      rw [Lib.splitB_hit _ _ _ _ i hi]
      have hlt : i < s.size := by
        rw [index_stopB] at hi
        have := (Lib.indexByte_some hi).1
        rw [← size_len]
        exact (List.getElem?_eq_some_iff.1 this).1
      have := ih (s.extract (i + stopB.size) s.size)
      have h1 : stopB.size = 1 := rfl
      rw [List.map_cons, List.sum_cons, List.length_cons]
      rw [ByteArray.size_extract] at this ⊢
      omega
theorem can_len (v : Ver) : (canV v).size = 3 + v.major.size + v.minor.size + v.patch.size + (if v.pre.data.toList.isEmpty then 0 else 1 + v.pre.size) := by
  rw [← size_len, can_list]
  unfold numsL
  have e1 := size_len v.major
  have e2 := size_len v.minor
  have e3 := size_len v.patch
  have e4 := size_len v.pre
  split <;> simp only [List.length_cons, List.length_append] <;> omega
theorem wri_len (v : Ver) : (wriV v).size = (canV v).size + (if v.build.data.toList.isEmpty then 0 else 1 + v.build.size) := by
  unfold wriV
  split
  · rfl
  · rw [ByteArray.size_append, ByteArray.size_append]; rfl
theorem whole_size {s : ByteArray} {v : Ver} (h : parseR s = some v) (h0 : v.short = 0) : (wriV v).size ≤ s.size ∧ s.size ≤ 100 := by
  unfold parseR at h
  split at h
  · rename_i hc
    simp only [Bool.and_eq_true, decide_eq_true_eq] at hc
    obtain ⟨hz, hok⟩ := hc
    refine ⟨?_, hz⟩
    have e := Option.some.inj h
    subst e
    unfold okC at hok
    simp only [Bool.and_eq_true, decide_eq_true_eq] at hok
    obtain ⟨⟨⟨⟨⟨hmk, hle3⟩, _⟩, _⟩, _⟩, _⟩ := hok
    have h03 : 3 - (partsB (cutsOf s).nums).length = 0 := h0
    have hlen : (partsB (cutsOf s).nums).length = 3 := by omega
    obtain ⟨x, y, z, hxyz⟩ : ∃ x y z, partsB (cutsOf s).nums = [x, y, z] := by
      match hq : partsB (cutsOf s).nums, hlen with
      | [x, y, z], _ => exact ⟨x, y, z, rfl⟩
    have hs2 := split_sum2 (Lib.countB (cutsOf s).nums stopB) (cutsOf s).nums
    rw [show Lib.splitB stopB 0 (Lib.countB (cutsOf s).nums stopB) (cutsOf s).nums = partsB (cutsOf s).nums from rfl, hxyz] at hs2
    simp only [List.map_cons, List.map_nil, List.sum_cons, List.sum_nil, List.length_cons, List.length_nil] at hs2
    have e1 : (verC (cutsOf s)).major = x := by unfold verC; simp only [hxyz]; rfl
    have e2 : (verC (cutsOf s)).minor = y := by unfold verC; simp only [hxyz]; rfl
    have e3 : (verC (cutsOf s)).patch = z := by unfold verC; simp only [hxyz]; rfl
    have hn : (cutsOf s).nums.size = (cutR 45 (cutR 43 (vCut s.data.toList).1).1).1.length := strOf_size _
    have c45 := cutR_sum 45 (cutR 43 (vCut s.data.toList).1).1
    have c43 := cutR_sum 43 (vCut s.data.toList).1
    have hv1 : (vCut s.data.toList).1.length + 1 = s.size := by
      have hmk' : (vCut s.data.toList).2 = true := hmk
      rw [← size_len]
      cases hl : s.data.toList with
      | nil => rw [hl] at hmk'; cases hmk'
      | cons c r =>
        rw [hl] at hmk'
        by_cases h118 : c = 118
        · simp [vCut, h118]
        · simp [vCut, h118] at hmk'
    have ep : (verC (cutsOf s)).pre.data.toList = (cutR 45 (cutR 43 (vCut s.data.toList).1).1).2.1 := rfl
    have eb : (verC (cutsOf s)).build.data.toList = (cutR 43 (vCut s.data.toList).1).2.1 := rfl
    have lp := size_len (verC (cutsOf s)).pre
    have lb := size_len (verC (cutsOf s)).build
    rw [wri_len, can_len, e1, e2, e3, ep, eb, ← lp, ← lb, ep, eb]
    omega
  · cases h

/-- what a cut that went through says of the prerelease -/
theorem cut_ok {p : ByteArray} (h : (cutPre p).ok = true) : ∃ f, f + 14 < p.size ∧ (cutPre p).front = p.extract 0 f ∧ (cutPre p).rev.size = 12 ∧ p.data.toList.isEmpty = false := by
  unfold cutPre at h ⊢
  by_cases h1 : Lib.lastIndexByte p 45 < 14
  · rw [if_pos h1] at h; cases h
  · rw [if_neg h1] at h ⊢
    obtain ⟨k, hk, he⟩ : ∃ k : Nat, k < p.size ∧ Lib.lastIndexByte p 45 = (k : Int) := by
      rcases Lib.lastIndexByte_spec p 45 with ⟨h, _⟩ | ⟨i, hi, h, _⟩
      · omega
      · exact ⟨i, hi, h⟩
    rw [he] at h h1 ⊢
    rw [Int.toNat_natCast] at h ⊢
    unfold cutAt at h ⊢
    cases hr : revB (p.extract (k + 1) p.size) with
    | false => rw [hr] at h; cases h
    | true =>
      rw [if_pos rfl]
      refine ⟨k - 14, by omega, rfl, ?_, ?_⟩
      · show (p.extract (k + 1) p.size).size = 12
        unfold revB at hr
        rw [Bool.and_eq_true] at hr
        exact of_decide_eq_true hr.1
      · cases hl : p.data.toList with
        | nil => have := size_len p; rw [hl] at this; simp at this; omega
        | cons c l => rfl
/-- what stands in a version that is told apart -/
theorem told_good {v : Ver} (h : (toldV v).err = 0) : v.short = 0 ∧ (cutPre v.pre).ok = true ∧ (baseR v (cutPre v.pre).front).2 = true ∧ (toldV v).base = (baseR v (cutPre v.pre).front).1 ∧ (toldV v).rev = (cutPre v.pre).rev := by
  unfold toldV at h ⊢
  by_cases h0 : 0 < v.short
  · rw [if_pos h0] at h; cases h
  · rw [if_neg h0] at h ⊢
    cases hc : (cutPre v.pre).ok with
    | false => rw [hc] at h; cases h
    | true =>
      rw [hc, if_pos rfl] at h
      rw [if_pos rfl]
      cases hb : (baseR v (cutPre v.pre).front).2 with
      | false => rw [hb] at h; cases h
      | true => exact ⟨by omega, rfl, rfl, by rw [if_pos rfl], by rw [if_pos rfl]⟩
theorem base_bare {v : Ver} {f : ByteArray} (h : (baseR v f).2 = true) : (baseR (bare v) f).2 = true := by
  unfold baseR at h ⊢
  cases hF : f.toList.isEmpty with
  | true =>
    rw [hF, if_pos rfl] at h
    rw [if_pos rfl]
    simp only [Bool.and_eq_true] at h ⊢
    exact ⟨h.1, by show (strOf []).toList.isEmpty = true; rw [empty_beq]; rfl⟩
  | false =>
    rw [hF] at h
    rw [if_neg Bool.false_ne_true] at h ⊢
    cases h2 : f.toList == [48, 46] with
    | true =>
      rw [h2, if_pos rfl] at h
      rw [if_pos rfl]
      cases h3 : v.patch.toList == [48] with
      | true => rw [h3] at h; cases h
      | false => rw [show (bare v).patch = v.patch from rfl, h3]; rfl
    | false =>
      rw [h2, if_neg Bool.false_ne_true] at h
      rw [if_neg Bool.false_ne_true]
      cases h3 : Lib.hasSuffix f.data.toList [46, 48, 46] with
      | true => rfl
      | false => rw [h3] at h; cases h
theorem told_can {s : ByteArray} {v : Ver} (h : parseR s = some v) (he : (toldV v).err = 0) : (told (canV v)).err = 0 := by
  obtain ⟨h0, hc, hb, _⟩ := told_good he
  have hw := whole_size h h0
  have hz : (canV v).size ≤ 100 := by rw [wri_len] at hw; omega
  unfold told
  rw [parse_can (ver_right h) hz]
  show (toldV (bare v)).err = 0
  unfold toldV
  rw [if_neg (by show ¬ 0 < 0; omega), show (bare v).pre = v.pre from rfl, hc, if_pos rfl, base_bare hb, if_pos rfl]
end Go.Proofs.YtmhjdahmmdfbcaaGreatDoor
namespace Go.Proofs.YtmhjdahmmdfbcaaGreatDoor
open Go.RowKit

theorem cutL_join (c : UInt8) : ∀ (l r : List UInt8), cutL c (l ++ c :: r) = cutL c l ++ cutL c r
  | [], r => by
    have e : cutL c (c :: r) = [] :: cutL c r := by rw [cutL, if_pos rfl]
    show cutL c (c :: r) = _
    rw [e]
    rfl
  | b :: l, r => by
    have ih := cutL_join c l r
    show cutL c (b :: (l ++ c :: r)) = _
    rw [cutL, cutL]
    by_cases hb : b = c
    · rw [if_pos hb, if_pos hb, ih]; rfl
    · rw [if_neg hb, if_neg hb, ih]
      cases hl : cutL c l with
      | nil => exact absurd hl (cutL_ne c l)
      | cons x xs => rfl
theorem lex_more : ∀ (a b : List ByteArray), b ≠ [] → lexC a (a ++ b) = -1
  | [], [], h => absurd rfl h
  | [], _ :: _, _ => rfl
  | x :: a, b, h => by
    show lexC (x :: a) (x :: (a ++ b)) = -1
    rw [lexC, if_pos (ord_word.same x)]
    exact lex_more a b h
theorem list_extract (p : ByteArray) (f : Nat) : (p.extract 0 f).data.toList = p.data.toList.take f := by
  rw [ByteArray.data_extract]
  simp
/-- a front that ends so is a text and the ending -/
theorem suf_split {l : List UInt8} (h : Lib.hasSuffix l [46, 48, 46] = true) : l = Lib.trimSuffix l [46, 48, 46] ++ [46, 48, 46] := by
  have h2 : [46, 48, 46] <:+ l := List.isSuffixOf_iff_suffix.1 h
  obtain ⟨t, ht⟩ := h2
  unfold Lib.trimSuffix
  rw [h, if_pos rfl, ← ht]
  simp
theorem pre_front {p : ByteArray} {f : Nat} (h : Lib.hasSuffix (p.extract 0 f).data.toList [46, 48, 46] = true) :
    ∃ r : List UInt8, p.data.toList = Lib.trimSuffix (p.extract 0 f).data.toList [46, 48, 46] ++ 46 :: (48 :: 46 :: r) := by
  have h1 := suf_split h
  refine ⟨p.data.toList.drop f, ?_⟩
  have h2 : p.data.toList = (p.extract 0 f).data.toList ++ p.data.toList.drop f := by rw [list_extract, List.take_append_drop]
  rw [h2]
  conv => lhs; rw [h1]
  simp
theorem pre_base {s : ByteArray} {v : Ver} {q : ByteArray} {r : List UInt8} (h : parseR s = some v) (h0 : v.short = 0) (hq : v.pre.data.toList = q.data.toList ++ 46 :: (48 :: 46 :: r)) :
    (parseR (wriV (preV v q))).isSome = true ∧ cmpS (wriV (preV v q)) s = -1 := by
  have hr := ver_right h
  have hne : v.pre.data.toList.isEmpty = false := by rw [hq]; cases q.data.toList <;> rfl
  have hparts : partsB v.pre = (cutL 46 q.data.toList).map strOf ++ (cutL 46 (48 :: 46 :: r)).map strOf := by rw [parts_eq, hq, cutL_join, List.map_append]
  have hall := hr.pre hne
  rw [hparts, List.all_append, Bool.and_eq_true] at hall
  have hqn : q.data.toList.isEmpty = false := by
    cases hl : q.data.toList with
    | nil =>
      rw [hl] at hall
      have := hall.1
      simp only [cutL, List.map_cons, List.map_nil, List.all_cons, List.all_nil] at this
      exact absurd this (by decide)
    | cons c l => rfl
  have hq2 : ((partsB q).all fun x => preL x.data.toList) = true := by rw [parts_eq]; exact hall.1
  have hright : Right (preV v q) := ⟨hr.major, hr.minor, hr.patch, (fun hm => hr.plus (by rw [hq]; exact List.mem_append_left _ hm)), fun _ => hq2⟩
  have hsz : (wriV (preV v q)).size ≤ 100 := by
    have hw := whole_size h h0
    have hl := congrArg List.length hq
    rw [List.length_append, List.length_cons, size_len, size_len] at hl
    rw [wri_len, can_len] at hw ⊢
    rw [hne] at hw
    show 3 + v.major.size + v.minor.size + v.patch.size + (if q.data.toList.isEmpty then 0 else 1 + q.size) + (if v.build.data.toList.isEmpty then 0 else 1 + v.build.size) ≤ 100
    rw [hqn]
    simp only [Bool.false_eq_true, if_false] at hw ⊢
    omega
  have hbr : BuildOk v := build_right h
  have hbq : BuildOk (preV v q) := hbr
  have hp := parse_wri (v := preV v q) hright hbq hsz
  refine ⟨by rw [hp]; rfl, ?_⟩
  unfold cmpS
  rw [h, hp]
  show orL [numC v.major v.major, numC v.minor v.minor, numC v.patch v.patch, preC q v.pre] = -1
  rw [orL_four, if_pos (ord_num.same _), if_pos (ord_num.same _), if_pos (ord_num.same _)]
  have hqp : q ≠ v.pre := fun e => by
    have hl := congrArg List.length hq
    rw [e, List.length_append, List.length_cons] at hl
    omega
  unfold preC
  rw [if_neg hqp, hqn, hne, if_neg Bool.false_ne_true, if_neg Bool.false_ne_true, hparts, parts_eq]
  exact lex_more _ _ (by cases hc : cutL 46 (48 :: 46 :: r) with | nil => exact absurd hc (cutL_ne _ _) | cons x xs => exact (fun e => by cases e))
end Go.Proofs.YtmhjdahmmdfbcaaGreatDoor
namespace Go.Proofs.YtmhjdahmmdfbcaaGreatDoor
open Go.RowKit

theorem nought_at (l : List UInt8) (h0 : l.getD 0 0 ≠ 48) : ∀ m, l.getD (noughtK l m) 0 ≠ 48
  | 0 => h0
  | m + 1 => by
    rw [noughtK_succ]
    split
    · exact nought_at l h0 m
    · assumption
theorem cmp_pre (a : List UInt8) {x y : UInt8} {b c : List UInt8} (h : x < y) : Lib.compareBytes (a ++ x :: b) (a ++ y :: c) = -1 := by
  induction a with
  | nil => simp [Lib.compareBytes, h]
  | cons z a ih =>
    show Lib.compareBytes (z :: (a ++ x :: b)) (z :: (a ++ y :: c)) = -1
    rw [Lib.compareBytes, if_neg (by simp), if_neg (by simp)]
    exact ih
theorem num_mk {l : List UInt8} (hd : ∀ c ∈ l, 48 ≤ c.toNat ∧ c.toNat ≤ 57) (h0 : 0 < l.length) (h1 : l.length = 1 ∨ l.getD 0 0 ≠ 48) : numL l = true := by
  unfold numL
  rw [Bool.and_eq_true]
  refine ⟨?_, ?_⟩
  · unfold digL
    rw [Bool.and_eq_true]
    refine ⟨?_, ?_⟩
    · rw [List.all_eq_true]
      intro c hc
      have := hd c hc
      unfold digC
      simp; omega
    · cases l with
      | nil => simp at h0
      | cons c r => rfl
  · rcases h1 with h1 | h1
    · simp [h1]
    · simp only [Bool.or_eq_true]
      exact Or.inr (by simpa using h1)
theorem num_ahead {l : List UInt8} (h : numL l = true) (hne : l ≠ [48]) : l.getD 0 0 ≠ 48 := by
  unfold numL at h
  rw [Bool.and_eq_true, Bool.or_eq_true] at h
  rcases h.2 with h2 | h2
  · intro he
    have hl : l.length = 1 := by simpa using h2
    match l, hl with
    | [c], _ => exact hne (by rw [show c = 48 from he])
  · simpa using h2
theorem less_num {l : List UInt8} (h : numL l = true) (hne : l ≠ [48]) : numL (lessL l) = true ∧ ((lessL l).length < l.length ∨ ((lessL l).length = l.length ∧ Lib.compareBytes (lessL l) l = -1)) := by
  obtain ⟨hd, hn⟩ := num_digs h
  have h0 := num_ahead h hne
  have hk := noughtK_le l (l.length - 1)
  have hx := nought_at l h0 (l.length - 1)
  unfold lessL lessAt
  generalize noughtK l (l.length - 1) = k at *
  have hkl : k < l.length := by omega
  rw [getD_in l k hkl] at hx ⊢
  have hxd := hd l[k] (List.getElem_mem hkl)
  have hxn : l[k].toNat ≠ 48 := fun e => hx (UInt8.toNat_inj.1 e)
  have hdec := byte_dec l[k] (by omega)
  have hlt : l[k] - 1 < l[k] := by rw [UInt8.lt_iff_toNat_lt, hdec]; omega
  have hl : l = l.take k ++ l[k] :: l.drop (k + 1) := by rw [← List.drop_eq_getElem_cons hkl, List.take_append_drop]
  have hcmp : Lib.compareBytes (l.take k ++ (l[k] - 1) :: List.replicate (l.length - (k + 1)) 57) l = -1 := by
    conv => lhs; arg 2; rw [hl]
    exact cmp_pre _ hlt
  have hlen : (l.take k ++ (l[k] - 1) :: List.replicate (l.length - (k + 1)) 57).length = l.length := by simp; omega
  have hdig : ∀ c ∈ l.take k ++ (l[k] - 1) :: List.replicate (l.length - (k + 1)) 57, 48 ≤ c.toNat ∧ c.toNat ≤ 57 := by
    intro c hc
    rcases List.mem_append.1 hc with hc | hc
    · exact hd c (List.mem_of_mem_take hc)
    · rcases List.mem_cons.1 hc with rfl | hc
      · omega
      · have := List.eq_of_mem_replicate hc
        subst this
        decide
  have hrest : k = 0 → l.take k ++ (l[k] - 1) :: List.replicate (l.length - (k + 1)) 57 = (l[k] - 1) :: List.replicate (l.length - (k + 1)) 57 := fun e => by subst e; rfl
  have hfirst : k ≠ 0 → (l.take k ++ (l[k] - 1) :: List.replicate (l.length - (k + 1)) 57).getD 0 0 ≠ 48 := fun e => by
    cases l with
    | nil => simp at hn
    | cons c r =>
      obtain ⟨m, rfl⟩ : ∃ m, k = m + 1 := ⟨k - 1, by omega⟩
      simpa using h0
  generalize hL : l.take k ++ (l[k] - 1) :: List.replicate (l.length - (k + 1)) 57 = L at *
  match L, hlen with
  | [], e => simp at e; omega
  | [c], e =>
    rw [trim_one]
    exact ⟨num_mk hdig (by simp) (Or.inl rfl), Or.inr ⟨e, hcmp⟩⟩
  | c :: d :: r, e =>
    by_cases hc : c = 48
    · have hk0 : k = 0 := Classical.byContradiction fun hk0 => hfirst hk0 (by simpa using hc)
      have h57 : d = 57 := by
        have := hrest hk0
        have h2 := (List.cons.inj this).2
        have h3 : d ∈ List.replicate (l.length - (k + 1)) (57 : UInt8) := by rw [← h2]; exact List.mem_cons_self
        exact List.eq_of_mem_replicate h3
      subst hc
      rw [trim_yes]
      exact ⟨num_mk (fun x hx => hdig x (List.mem_cons_of_mem _ hx)) (by simp) (Or.inr (by rw [h57]; simp)), Or.inl (by rw [← e]; simp)⟩
    · rw [trim_no hc]
      exact ⟨num_mk hdig (by simp) (Or.inr (by simpa using hc)), Or.inr ⟨e, hcmp⟩⟩
theorem less_base {s : ByteArray} {v : Ver} (h : parseR s = some v) (h0 : v.short = 0) (hne : v.patch.data.toList ≠ [48]) :
    (parseR (wriV (lessV v))).isSome = true ∧ cmpS (wriV (lessV v)) s = -1 := by
  have hr := ver_right h
  obtain ⟨hnum, hcmp⟩ := less_num hr.patch hne
  have hright : Right (lessV v) := ⟨hr.major, hr.minor, hnum, (by simp [lessV]), fun he => by cases he⟩
  have hbr : BuildOk v := build_right h
  have hbq : BuildOk (lessV v) := hbr
  have hpl : (lessV v).patch.size = (lessL v.patch.data.toList).length := by
    show (lessL v.patch.data.toList).toArray.size = _
    rw [List.size_toArray]
  have hpz := size_len v.patch
  have hsz : (wriV (lessV v)).size ≤ 100 := by
    have hw := whole_size h h0
    rw [wri_len, can_len] at hw ⊢
    rw [hpl]
    show 3 + v.major.size + v.minor.size + (lessL v.patch.data.toList).length + 0 + (if v.build.data.toList.isEmpty then 0 else 1 + v.build.size) ≤ 100
    have : (lessL v.patch.data.toList).length ≤ v.patch.size := by rcases hcmp with hc | hc <;> omega
    omega
  have hp := parse_wri (v := lessV v) hright hbq hsz
  refine ⟨by rw [hp]; rfl, ?_⟩
  unfold cmpS
  rw [h, hp]
  have hn : numC (lessV v).patch v.patch = -1 := by
    unfold numC
    rcases hcmp with hc | ⟨hc, hc2⟩
    · have hi : cmpI ((lessV v).patch.size : Int) (v.patch.size : Int) = -1 := by
        unfold cmpI
        rw [if_pos (by rw [hpl]; omega)]
      rw [orL_two, hi]
      rfl
    · have hi : cmpI ((lessV v).patch.size : Int) (v.patch.size : Int) = 0 := by
        unfold cmpI
        rw [if_neg (by rw [hpl]; omega), if_neg (by rw [hpl]; omega)]
      rw [orL_two, hi, if_pos rfl]
      exact hc2
  show orL [numC v.major v.major, numC v.minor v.minor, numC (lessV v).patch v.patch, _] = -1
  rw [orL_four, if_pos (ord_num.same _), if_pos (ord_num.same _), hn]
  rfl
/-- the base of a pseudo-version is none, or a version ahead of it -/
theorem told_base {s : ByteArray} {v : Ver} (h : parseR s = some v) (he : (toldV v).err = 0) :
    (toldV v).base.toList.isEmpty = true ∨ ((parseR (toldV v).base).isSome = true ∧ cmpS (toldV v).base s = -1) := by
  obtain ⟨h0, hc, hb, hbase, _⟩ := told_good he
  obtain ⟨f, _, hfr, _, _⟩ := cut_ok hc
  rw [hbase]
  rw [hfr] at hb ⊢
  unfold baseR at hb ⊢
  cases hF : (v.pre.extract 0 f).toList.isEmpty with
  | true => exact Or.inl (by rw [if_pos rfl]; show (⟨#[]⟩ : ByteArray).toList.isEmpty = true; decide +kernel)
  | false =>
    rw [hF, if_neg Bool.false_ne_true] at hb
    rw [if_neg Bool.false_ne_true]
    cases h2 : (v.pre.extract 0 f).toList == [48, 46] with
    | true =>
      rw [h2, if_pos rfl] at hb
      rw [if_pos rfl]
      cases h3 : v.patch.toList == [48] with
      | true => rw [h3] at hb; cases hb
      | false =>
        rw [if_neg Bool.false_ne_true]
        exact Or.inr (less_base h h0 (fun e => by rw [Lib.toList_data, e] at h3; exact absurd h3 (by decide)))
    | false =>
      rw [h2, if_neg Bool.false_ne_true] at hb
      rw [if_neg Bool.false_ne_true]
      cases h3 : Lib.hasSuffix (v.pre.extract 0 f).data.toList [46, 48, 46] with
      | true =>
        rw [if_pos rfl]
        obtain ⟨r, hr⟩ := pre_front h3
        exact Or.inr (pre_base h h0 hr)
      | false => rw [h3] at hb; cases hb
end Go.Proofs.YtmhjdahmmdfbcaaGreatDoor
