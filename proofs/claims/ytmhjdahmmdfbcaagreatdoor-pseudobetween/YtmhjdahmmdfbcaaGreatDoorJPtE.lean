/-
  The order of the versions that Make makes.
  The law PseudoBetween, walked.
-/
import Derived.Test.YtmhjdahmmdfbcaaGreatDoorPtC
namespace Go.Proofs.YtmhjdahmmdfbcaaGreatDoor
open Go.RowKit

theorem cmp_less_app : ∀ (a b x y : List UInt8), a.length = b.length → Lib.compareBytes a b = -1 → Lib.compareBytes (a ++ x) (b ++ y) = -1
  | [], [], _, _, _, h => by cases h
  | [], _ :: _, _, _, hl, _ => by cases hl
  | _ :: _, [], _, _, hl, _ => by cases hl
  | c :: a, d :: b, x, y, hl, h => by
    show Lib.compareBytes (c :: (a ++ x)) (d :: (b ++ y)) = -1
    rw [cmp_cons] at h ⊢
    by_cases h1 : c.toNat < d.toNat
    · rw [if_pos h1]
    · rw [if_neg h1] at h ⊢
      by_cases h2 : d.toNat < c.toNat
      · rw [if_pos h2] at h; cases h
      · rw [if_neg h2] at h ⊢
        exact cmp_less_app a b x y (by simpa using hl) h
theorem lex_same (I : List ByteArray) (p q : ByteArray) : lexC (I ++ [p]) (I ++ [q]) = wordCmp p q := by
  induction I with
  | nil =>
    show (if wordCmp p q = 0 then 0 else wordCmp p q) = _
    split
    · rename_i h; rw [h]
    · rfl
  | cons a I ih =>
    show (if wordCmp a a = 0 then lexC (I ++ [p]) (I ++ [q]) else wordCmp a a) = _
    rw [if_pos (ord_word.same a), ih]
theorem seg_dig (st id : ByteArray) : digL (segL st id) = false := by
  unfold digL
  have : (segL st id).all digC = false := by
    rw [List.all_eq_false]
    exact ⟨45, by unfold segL; simp, by decide⟩
  rw [this]; rfl
theorem seg_order {st id st' id' : ByteArray} (hl : st.size = st'.size) (h : Lib.compareBytes st.data.toList st'.data.toList = -1) : wordCmp (strOf (segL st id)) (strOf (segL st' id')) = -1 := by
  unfold wordCmp
  rw [strOf_data, strOf_data, seg_dig, seg_dig]
  show Lib.compareBytes (segL st id) (segL st' id') = -1
  exact cmp_less_app _ _ _ _ (by rw [size_len, size_len]; exact hl) h
theorem pre_segs {p q st id st' id' : ByteArray} {F : List UInt8} {t t' : Int} (hs : SegOk st id t) (hs' : SegOk st' id' t') (hF : F = [] ∨ ∃ G, F = G ++ [46]) (hp : p.data.toList = F ++ segL st id) (hq : q.data.toList = F ++ segL st' id')
    (h : Lib.compareBytes st.data.toList st'.data.toList = -1) : preC p q = -1 := by
  have w3 := (seg_word hs).2.2
  have w3' := (seg_word hs').2.2
  have hpe : p.data.toList.isEmpty = false := by rw [hp]; unfold segL; cases F <;> cases st.data.toList <;> rfl
  have hqe : q.data.toList.isEmpty = false := by rw [hq]; unfold segL; cases F <;> cases st'.data.toList <;> rfl
  rw [preC_eq, hpe, hqe, if_neg Bool.false_ne_true, if_neg Bool.false_ne_true, parts_eq, parts_eq, hp, hq]
  have hw := seg_order (id := id) (id' := id') (by rw [hs.size, hs'.size]) h
  rcases hF with rfl | ⟨G, rfl⟩
  · rw [List.nil_append, List.nil_append, cutL_one w3, cutL_one w3']
    exact (lex_same [] _ _).trans hw
  · rw [List.append_assoc, List.append_assoc, List.singleton_append, List.singleton_append, cutL_join, cutL_join, cutL_one w3, cutL_one w3', List.map_append, List.map_append]
    exact (lex_same _ _ _).trans hw
theorem sec_order {t t' : Int} {st st' : ByteArray} (h : Sec t st 0) (h' : Sec t' st' 0) (hlt : t < t') : Lib.compareBytes st.data.toList st'.data.toList = -1 := by
  rcases h with ⟨_, T, y, m, d, hh, mi, s, rfl, hd, rfl⟩ | ⟨h, _⟩
  · rcases h' with ⟨_, T', y', m', d', hh', mi', s', rfl, hd', rfl⟩ | ⟨h', _⟩
    · have h1 := (stamp_order hd hd').1
      rw [Lib.toList_data, Lib.toList_data, less_cmp, decide_eq_decide] at h1
      exact h1.2 (by omega)
    · cases h'
  · cases h
theorem cmp_pre_only {a b : ByteArray} {u v : Ver} (ha : parseR a = some u) (hb : parseR b = some v) (h1 : u.major = v.major) (h2 : u.minor = v.minor) (h3 : u.patch = v.patch) (h : preC u.pre v.pre = -1) : cmpS a b = -1 := by
  unfold cmpS
  rw [ha, hb]
  show orL [numC u.major v.major, numC u.minor v.minor, numC u.patch v.patch, preC u.pre v.pre] = -1
  rw [h1, h2, h3, orL_four, if_pos (ord_num.same _), if_pos (ord_num.same _), if_pos (ord_num.same _)]
  exact h

/-- of two made above one base the later second's stands behind -/
theorem make_later {base : ByteArray} {v : Ver} {st id st' id' : ByteArray} {t t' : Int} (h : parseR base = some v) (hs : Sec t st 0) (hs' : Sec t' st' 0) (hr : revB id = true) (hr' : revB id' = true) (hlt : t < t')
    (hz : (wriV (makeV v (st ++ ⟨#[45]⟩ ++ id))).size ≤ 100) (hz' : (wriV (makeV v (st' ++ ⟨#[45]⟩ ++ id'))).size ≤ 100) :
    cmpS (wriV (makeV v (st ++ ⟨#[45]⟩ ++ id))) (wriV (makeV v (st' ++ ⟨#[45]⟩ ++ id'))) = -1 := by
  have k := hs.seg hr
  have k' := hs'.seg hr'
  obtain ⟨-, -, F, hF, hc⟩ := make_right h k
  obtain ⟨-, -, F', hF', hc'⟩ := make_right h k'
  have hp := (make_told h k hz).1
  have hp' := (make_told h k' hz').1
  have hEq : F = F' ∧ ∃ G, F = G ++ [46] := by
    rcases hc with ⟨he, rfl⟩ | ⟨he, rfl⟩
    · rcases hc' with ⟨_, rfl⟩ | ⟨he', _⟩
      · exact ⟨rfl, [48], rfl⟩
      · rw [he] at he'; cases he'
    · rcases hc' with ⟨he', _⟩ | ⟨_, rfl⟩
      · rw [he] at he'; cases he'
      · exact ⟨rfl, v.pre.data.toList ++ [46, 48], by simp⟩
  obtain ⟨rfl, hG⟩ := hEq
  refine cmp_pre_only hp hp' ?_ ?_ ?_ (pre_segs k k' (Or.inr hG) hF hF' (sec_order hs hs' hlt))
  · show (makeV v _).major = (makeV v _).major
    unfold makeV; split <;> rfl
  · show (makeV v _).minor = (makeV v _).minor
    unfold makeV; split <;> rfl
  · show (makeV v _).patch = (makeV v _).patch
    unfold makeV; split <;> rfl

/-- the next release behind a base -/
def nextV (v : Ver) : Ver := ⟨v.major, v.minor, if v.pre.toList.isEmpty then ⟨(moreL v.patch.data.toList).toArray⟩ else v.patch, ⟨#[]⟩, strOf [], 0⟩
theorem next_text (v : Ver) : canV (nextV v) = headB v.major v.minor ++ (if v.pre.toList.isEmpty then ⟨(moreL v.patch.data.toList).toArray⟩ else v.patch) := rfl
theorem between_base {base : ByteArray} {v : Ver} {st id : ByteArray} {t : Int} (h : parseR base = some v) (hs : SegOk st id t) (hz : (wriV (makeV v (st ++ ⟨#[45]⟩ ++ id))).size ≤ 100) (h90 : base.size ≤ 90) :
    cmpS base (wriV (makeV v (st ++ ⟨#[45]⟩ ++ id))) = -1 ∧ cmpS (wriV (makeV v (st ++ ⟨#[45]⟩ ++ id))) (canV (nextV v)) = -1 ∧ (canS (wriV (makeV v (st ++ ⟨#[45]⟩ ++ id)))).toList.isEmpty = false := by
  have hr := ver_right h
  obtain ⟨-, -, F, hF, hc⟩ := make_right h hs
  have hp := (make_told h hs hz).1
  have hpe : (makeV v (st ++ ⟨#[45]⟩ ++ id)).pre.data.toList.isEmpty = false := by rw [hF]; unfold segL; cases F <;> cases st.data.toList <;> rfl
  have hnum := more_num hr.patch
  refine ⟨?_, ?_, ?_⟩
  · unfold cmpS
    rw [h, hp]
    show orL [numC v.major (makeV v _).major, numC v.minor (makeV v _).minor, numC v.patch (makeV v _).patch, preC v.pre (makeV v _).pre] = -1
    have e1 : (makeV v (st ++ ⟨#[45]⟩ ++ id)).major = v.major := by unfold makeV; split <;> rfl
    have e2 : (makeV v (st ++ ⟨#[45]⟩ ++ id)).minor = v.minor := by unfold makeV; split <;> rfl
    rw [e1, e2, orL_four, if_pos (ord_num.same _), if_pos (ord_num.same _)]
    rcases hc with ⟨he, rfl⟩ | ⟨he, rfl⟩
    · have e3 : (makeV v (st ++ ⟨#[45]⟩ ++ id)).patch = ⟨(moreL v.patch.data.toList).toArray⟩ := by unfold makeV; rw [he]; rfl
      have hpl : (⟨(moreL v.patch.data.toList).toArray⟩ : ByteArray).size = (moreL v.patch.data.toList).length := by
        show (moreL v.patch.data.toList).toArray.size = _
        rw [List.size_toArray]
      have hpz := size_len v.patch
      have hn : numC v.patch ⟨(moreL v.patch.data.toList).toArray⟩ = -1 := by
        unfold numC
        rcases hnum.2.2 with hl | ⟨hl, hl2⟩
        · have hi : cmpI (v.patch.size : Int) ((⟨(moreL v.patch.data.toList).toArray⟩ : ByteArray).size : Int) = -1 := by
            unfold cmpI
            rw [if_pos (by rw [hpl]; omega)]
          rw [orL_two, hi]; rfl
        · have hi : cmpI (v.patch.size : Int) ((⟨(moreL v.patch.data.toList).toArray⟩ : ByteArray).size : Int) = 0 := by
            unfold cmpI
            rw [if_neg (by rw [hpl]; omega), if_neg (by rw [hpl]; omega)]
          rw [orL_two, hi, if_pos rfl]
          exact hl2
      rw [e3, hn]; rfl
    · have e3 : (makeV v (st ++ ⟨#[45]⟩ ++ id)).patch = v.patch := by unfold makeV; rw [he]; rfl
      have hve : v.pre.data.toList.isEmpty = false := by rw [← empty_beq]; exact he
      rw [e3, if_pos (ord_num.same _), preC_eq, hve, hpe, if_neg Bool.false_ne_true, if_neg Bool.false_ne_true, parts_eq, parts_eq, hF]
      rw [show v.pre.data.toList ++ [46, 48, 46] ++ segL st id = v.pre.data.toList ++ 46 :: (48 :: 46 :: segL st id) by simp, cutL_join, List.map_append]
      exact lex_more _ _ (by cases hcc : cutL 46 (48 :: 46 :: segL st id) with | nil => exact absurd hcc (cutL_ne _ _) | cons x xs => exact (fun e => by cases e))
  · have hright : Right (nextV v) := by
      refine ⟨hr.major, hr.minor, ?_, by simp [nextV], fun he => by cases he⟩
      show numL (if v.pre.toList.isEmpty then (⟨(moreL v.patch.data.toList).toArray⟩ : ByteArray) else v.patch).data.toList = true
      split
      · exact hnum.1
      · exact hr.patch
    have hsz : (canV (nextV v)).size ≤ 100 := by
      rw [can_len]
      have hsum := nums_sum h
      have hpz := size_len v.patch
      have hml := more_len v.patch.data.toList
      have : (nextV v).patch.size ≤ v.patch.size + 1 := by
        show (if v.pre.toList.isEmpty then (⟨(moreL v.patch.data.toList).toArray⟩ : ByteArray) else v.patch).size ≤ _
        split
        · show (moreL v.patch.data.toList).toArray.size ≤ _
          rw [List.size_toArray]; omega
        · omega
      show 3 + v.major.size + v.minor.size + (nextV v).patch.size + 0 ≤ 100
      omega
    have hq := parse_can hright hsz
    refine cmp_pre_only hp hq ?_ ?_ ?_ ?_
    · show (makeV v _).major = v.major
      unfold makeV; split <;> rfl
    · show (makeV v _).minor = v.minor
      unfold makeV; split <;> rfl
    · show (makeV v _).patch = (nextV v).patch
      unfold makeV nextV
      split
      · rfl
      · rfl
    · show preC (makeV v _).pre ⟨#[]⟩ = -1
      rw [preC_eq, hpe]; rfl
  · unfold canS
    rw [hp, empty_beq]
    exact can_size _

/-- without a base -/
theorem none_later {st id st' id' : ByteArray} {t t' : Int} (hs : Sec t st 0) (hs' : Sec t' st' 0) (hr : revB id = true) (hr' : revB id' = true) (hlt : t < t')
    (hz : (wriV (preV ((parseR ⟨#[118, 48]⟩).getD noVer) (st ++ ⟨#[45]⟩ ++ id))).size ≤ 100) (hz' : (wriV (preV ((parseR ⟨#[118, 48]⟩).getD noVer) (st' ++ ⟨#[45]⟩ ++ id'))).size ≤ 100) :
    cmpS (wriV (preV ((parseR ⟨#[118, 48]⟩).getD noVer) (st ++ ⟨#[45]⟩ ++ id))) (wriV (preV ((parseR ⟨#[118, 48]⟩).getD noVer) (st' ++ ⟨#[45]⟩ ++ id'))) = -1 := by
  have e : (⟨#[118, 48]⟩ : ByteArray) = (⟨#[118]⟩ : ByteArray) ++ nought := by decide +kernel
  have k := hs.seg hr
  have k' := hs'.seg hr'
  rw [e] at hz hz' ⊢
  have hn : numL nought.data.toList = true := by decide +kernel
  have hp := ((none_told hn (by decide) k).2 hz).1
  have hp' := ((none_told hn (by decide) k').2 hz').1
  exact cmp_pre_only hp hp' rfl rfl rfl (pre_segs k k' (F := []) (Or.inl rfl) (seg_list st id) (seg_list st' id') (sec_order hs hs' hlt))
theorem between_none {st id : ByteArray} {t : Int} (hs : SegOk st id t) (hz : (wriV (preV ((parseR ⟨#[118, 48]⟩).getD noVer) (st ++ ⟨#[45]⟩ ++ id))).size ≤ 100) :
    cmpS ⟨#[]⟩ (wriV (preV ((parseR ⟨#[118, 48]⟩).getD noVer) (st ++ ⟨#[45]⟩ ++ id))) = -1 ∧ cmpS (wriV (preV ((parseR ⟨#[118, 48]⟩).getD noVer) (st ++ ⟨#[45]⟩ ++ id))) ⟨#[118, 48, 46, 48, 46, 48]⟩ = -1 ∧ (canS (wriV (preV ((parseR ⟨#[118, 48]⟩).getD noVer) (st ++ ⟨#[45]⟩ ++ id)))).toList.isEmpty = false := by
  have e : (⟨#[118, 48]⟩ : ByteArray) = (⟨#[118]⟩ : ByteArray) ++ nought := by decide +kernel
  rw [e] at hz ⊢
  have hn : numL nought.data.toList = true := by decide +kernel
  have hp := ((none_told hn (by decide) hs).2 hz).1
  have hz0 : (⟨#[118, 48, 46, 48, 46, 48]⟩ : ByteArray) = canV ⟨nought, nought, nought, ⟨#[]⟩, strOf [], 0⟩ := by decide +kernel
  have hq : parseR ⟨#[118, 48, 46, 48, 46, 48]⟩ = some ⟨nought, nought, nought, ⟨#[]⟩, strOf [], 0⟩ := by
    rw [hz0]
    exact parse_can (v := ⟨nought, nought, nought, ⟨#[]⟩, strOf [], 0⟩) ⟨hn, hn, hn, by simp, fun he => by cases he⟩ (by decide +kernel)
  refine ⟨next_none hp, cmp_pre_only hp hq rfl rfl rfl ?_, ?_⟩
  · show preC (st ++ ⟨#[45]⟩ ++ id) ⟨#[]⟩ = -1
    rw [preC_eq, seg_list]
    have : (segL st id).isEmpty = false := by unfold segL; cases st.data.toList <;> rfl
    rw [this]; rfl
  · unfold canS
    rw [hp, empty_beq]
    exact can_size _
end Go.Proofs.YtmhjdahmmdfbcaaGreatDoor
namespace Go.Proofs.YtmhjdahmmdfbcaaGreatDoor
open Go.RowKit

structure Betw (base : ByteArray) (time later : Int) (R R' : ByteArray × Int) : Prop where
  size : R.1.size ≤ 100
  size' : R'.1.size ≤ 100
  less : time < later → cmpS R.1 R'.1 = -1
  ahead : cmpS base R.1 = -1
  nought : base.toList.isEmpty = true → cmpS R.1 ⟨#[118, 48, 46, 48, 46, 48]⟩ = -1
  behind : base.toList.isEmpty = false → cmpS R.1 (headB ((parseR base).getD noVer).major ((parseR base).getD noVer).minor ++ (if ((parseR base).getD noVer).pre.toList.isEmpty then ⟨(moreL ((parseR base).getD noVer).patch.data.toList).toArray⟩ else ((parseR base).getD noVer).patch)) = -1
  can : (canS R.1).toList.isEmpty = false
theorem betw_all (base : ByteArray) (time later : Int) (id other : ByteArray) (hb : base.size ≤ 9223372036854775807) : ∃ R R' : ByteArray × Int,
    (∀ V, GT V → Calls Tryz.prog 8 #[.string ⟨#[118, 48]⟩, .string base, .int .i64 time, .string id] V fun x w' => x = .returned (.tuple #[.string R.1, .int .i64 R.2]) ∧ Below V.heap.size V w') ∧
    (∀ V, GT V → Calls Tryz.prog 8 #[.string ⟨#[118, 48]⟩, .string base, .int .i64 later, .string other] V fun x w' => x = .returned (.tuple #[.string R'.1, .int .i64 R'.2]) ∧ Below V.heap.size V w') ∧
    (R.2 = 0 → R'.2 = 0 → base.size ≤ 90 → Betw base time later R R') := by
  obtain ⟨st, er, hsec⟩ := sec_ex time
  obtain ⟨hst, hz⟩ := hsec.stp
  obtain ⟨st', er', hsec'⟩ := sec_ex later
  obtain ⟨hst', hz'⟩ := hsec'.stp
  cases he : base.toList.isEmpty with
  | true =>
    obtain rfl := isEmpty_eq he
    refine ⟨makeN ⟨#[118, 48]⟩ st id er, makeN ⟨#[118, 48]⟩ st' other er', fun V hV => make_none _ time id st er V hV (by decide) hst hz, fun V hV => make_none _ later other st' er' V hV (by decide) hst' hz', fun h0 h0' _ => ?_⟩
    obtain ⟨rfl, hr, -, h1, h2⟩ := makeN_zero h0
    obtain ⟨rfl, hr', -, h1', h2'⟩ := makeN_zero h0'
    have hbn := between_none (hsec.seg hr) h2
    exact ⟨by rw [h1]; exact h2, by rw [h1']; exact h2', fun hlt => by rw [h1, h1']; exact none_later hsec hsec' hr hr' hlt h2 h2', by rw [h1]; exact hbn.1, fun _ => by rw [h1]; exact hbn.2.1, (fun h => by rw [he] at h; cases h), by rw [h1]; exact hbn.2.2⟩
  | false =>
    refine ⟨makeR base st id er, makeR base st' other er', fun V hV => make_base _ base time id st er V hV hb he hst hz, fun V hV => make_base _ base later other st' er' V hV hb he hst' hz', fun h0 h0' h90 => ?_⟩
    obtain ⟨rfl, hr, v, hv, h1, h2⟩ := makeR_zero h0
    obtain ⟨rfl, hr', v', hv', h1', h2'⟩ := makeR_zero h0'
    obtain rfl : v = v' := Option.some.inj (hv.symm.trans hv')
    have hbb := between_base hv (hsec.seg hr) h2 h90
    refine ⟨by rw [h1]; exact h2, by rw [h1']; exact h2', fun hlt => by rw [h1, h1']; exact make_later hv hsec hsec' hr hr' hlt h2 h2', by rw [h1]; exact hbb.1, (fun h => by rw [he] at h; cases h), fun _ => ?_, by rw [h1]; exact hbb.2.2⟩
    rw [h1, hv]
    exact hbb.2.1
theorem ver_200 (base : ByteArray) : ((parseR base).getD noVer).major.size ≤ 200 ∧ ((parseR base).getD noVer).minor.size ≤ 200 ∧ ((parseR base).getD noVer).patch.size ≤ 200 ∧ ((parseR base).getD noVer).pre.size ≤ 200 ∧ (∀ c ∈ ((parseR base).getD noVer).patch.data.toList, c.toNat ≤ 57) := by
  cases hv : parseR base with
  | none => exact ⟨by decide, by decide, by decide, by decide, fun c hc => by cases hc⟩
  | some v =>
    obtain ⟨z1, z2, z3, z4⟩ := ver_small hv
    exact ⟨z1, z2, z3, z4, fun c hc => ((num_digs (ver_right hv).patch).1 c hc).2⟩

set_option maxHeartbeats 8000000 in
set_option maxRecDepth 100000 in
theorem pbetween_walk (base : ByteArray) (time later : Int) (id other : ByteArray) (w : World) (hG : GT w) (hb : base.size ≤ 140737488355328) :
    Calls Tryz.prog 5 #[.string base, .int .i64 time, .int .i64 later, .string id, .string other] w fun e w' => e = .returned (.bool true) ∧ Below w.heap.size w w' := by
  obtain ⟨R, R', hM, hM', hbt⟩ := betw_all base time later id other (by omega)
  have HM := hidM (hM w hG)
  have HM' := hidM hM'
  have HBT := hidM hbt
  have HAW := hidM (fun V (h : GT V) => pawake_any V h)
  have HP := hidM (fun V => rparse_any base V (by omega))
  obtain ⟨z1, z2, z3, z4, z5⟩ := ver_200 base
  have HMO := hidM (fun V => rmore_any ((parseR base).getD noVer).patch V (by omega) z5)
  have hus : (⟨(moreL ((parseR base).getD noVer).patch.data.toList).toArray⟩ : ByteArray).size ≤ 300 := by
    show (moreL ((parseR base).getD noVer).patch.data.toList).toArray.size ≤ _
    have := more_len ((parseR base).getD noVer).patch.data.toList
    have := len_size ((parseR base).getD noVer).patch
    rw [List.size_toArray]; omega
  have HG0 := hidM hG
  clear hG hM hM' hbt z5
  have HFA : Hid (R.2 = 0 → R'.2 = 0 → base.size ≤ 90 → R.1.size ≤ 100 ∧ R'.1.size ≤ 100 ∧ (time < later → cmpS R.1 R'.1 = -1) ∧ cmpS base R.1 = -1 ∧ (base.toList.isEmpty = true → cmpS R.1 ⟨#[118, 48, 46, 48, 46, 48]⟩ = -1) ∧ (base.toList.isEmpty = false → cmpS R.1 (headB ((parseR base).getD noVer).major ((parseR base).getD noVer).minor ++ (if ((parseR base).getD noVer).pre.toList.isEmpty then ⟨(moreL ((parseR base).getD noVer).patch.data.toList).toArray⟩ else ((parseR base).getD noVer).patch)) = -1) ∧ (canS R.1).toList.isEmpty = false) := fun h1 h2 h3 => by
    obtain ⟨a1, a2, a3, a4, a5, a6, a7⟩ := HBT.out h1 h2 h3
    exact ⟨a1, a2, a3, a4, a5, a6, a7⟩
  clear HBT
  generalize R.1 = r1 at *
  generalize R.2 = e1 at *
  generalize R'.1 = r2 at *
  generalize R'.2 = e2 at *
  generalize (⟨(moreL ((parseR base).getD noVer).patch.data.toList).toArray⟩ : ByteArray) = u at *
  generalize (parseR base).isSome = ok at *
  generalize ((parseR base).getD noVer).major = a at *
  generalize ((parseR base).getD noVer).minor = b at *
  generalize ((parseR base).getD noVer).patch = c at *
  generalize ((parseR base).getD noVer).pre = d at *
  generalize ((parseR base).getD noVer).build = e at *
  generalize (((parseR base).getD noVer).short : Int) = n at *
  go_enter Tryz.func5, Tryz.ntmps5
  go_wp2_with fail
  refine HM.out.mono ?_
  rintro _ w1 ⟨rfl, hb1⟩
  have HB1 := hidM hb1
  have HG1 := hidM (HG0.out.below hb1)
  clear hb1 HM
  go_wp2_with fail
  refine (HM'.out _ HG1.out).mono ?_
  rintro _ w2 ⟨rfl, hb2⟩
  have HB2 := hidM (HB1.out.trans (hb2.mono HB1.out.size))
  have HG2 := hidM (HG1.out.below hb2)
  clear hb2 HM' HG1 HB1
  by_cases hbad : e1 = 0 ∧ e2 = 0 ∧ base.size ≤ 90
  · obtain ⟨rfl, rfl, h90⟩ := hbad
    obtain ⟨s1, s2, hl, hcb, hn0, hn1, hcan⟩ := HFA.out rfl rfl h90
    have g90 : ¬ (90 : Int) < (base.size : Int) := by omega
    have HL : Hid (time < later → ∀ V, Calls Tryz.prog 16 #[.string r1, .string r2] V fun x w' => x = .returned (.int .i64 (-1)) ∧ Below V.heap.size V w') := fun h V => by
      have hc := compare_any r1 r2 V (by omega) (by omega)
      rw [hl h] at hc
      exact hc
    have HCB : Hid (∀ V, Calls Tryz.prog 16 #[.string base, .string r1] V fun x w' => x = .returned (.int .i64 (-1)) ∧ Below V.heap.size V w') := fun V => by
      have hc := compare_any base r1 V (by omega) (by omega)
      rw [hcb] at hc
      exact hc
    have HCA := hidM (fun V => canonical_any r1 V (by omega))
    generalize canS r1 = cn at *
    have HN0 := hidM hn0
    have HN1 := hidM hn1
    have HN2 := hidM hn1
    clear HFA hl hcb hn0 hn1
    go_wp2_with fail
    refine (HP.out _).mono ?_
    rintro _ w3 ⟨rfl, hb3⟩
    have HB3 := hidM (HB2.out.trans (hb3.mono HB2.out.size))
    have HG3 := hidM (HG2.out.below hb3)
    have HA := hidM (heap_alloc_new w3 (.cells #[.string ⟨#[]⟩, .string ⟨#[]⟩, .string ⟨#[]⟩, .string ⟨#[]⟩, .string ⟨#[]⟩, .int .i64 0] 37))
    have HAB : Hid (Below w3.heap.size w3 ((w3.alloc (.cells #[.string ⟨#[]⟩, .string ⟨#[]⟩, .string ⟨#[]⟩, .string ⟨#[]⟩, .string ⟨#[]⟩, .int .i64 0] 37)).setRow w3.heap.size #[.string a, .string b, .string c, .string d, .string e, .int .i64 n])) := below_setRow ((Below.refl _ _).alloc (Nat.le_refl _) _) (Nat.le_refl _)
    have HB4 := hidM (HB3.out.trans (HAB.out.mono HB3.out.size))
    have HG4 := hidM (HG3.out.below HAB.out)
    have HV4 : Hid (((w3.alloc (.cells #[.string ⟨#[]⟩, .string ⟨#[]⟩, .string ⟨#[]⟩, .string ⟨#[]⟩, .string ⟨#[]⟩, .int .i64 0] 37)).setRow w3.heap.size #[.string a, .string b, .string c, .string d, .string e, .int .i64 n]).heap[w3.heap.size]? = some (.cells #[.string a, .string b, .string c, .string d, .string e, .int .i64 n] 37 (0, 0))) := setRow_heap _ _ _ _ 37 _ HA.out
    clear hb3 HP HB3 HB2 HG3 HG2 HAB
    go_upto_region 6 with (refine wpList_store_row rfl 37 (.tmp 15) (.tmp 47) rfl w3.heap.size #[.string a, .string b, .string c, .string d, .string e, .int .i64 n] rfl rfl 37 #[.string ⟨#[]⟩, .string ⟨#[]⟩, .string ⟨#[]⟩, .string ⟨#[]⟩, .string ⟨#[]⟩, .int .i64 0] HA.out size26 rfl (ones23v _ _ _ _ _ _) ?_)
    clear HA
    generalize (w3.alloc (.cells #[.string ⟨#[]⟩, .string ⟨#[]⟩, .string ⟨#[]⟩, .string ⟨#[]⟩, .string ⟨#[]⟩, .int .i64 0] 37)).setRow w3.heap.size #[.string a, .string b, .string c, .string d, .string e, .int .i64 n] = W at *
    generalize w3.heap.size = B at *
    have HS0 : Hid (VbS w B a b c d e n W) := ⟨HB4.out, HV4.out⟩
    clear HV4
    obtain ⟨c0, c1, c2, c3, c4, c5, _⟩ := VbS.full HS0.out
    cases hpe : d.toList.isEmpty with
    | true =>
      have HNY : Hid (base.toList.isEmpty = false → cmpS r1 (headB a b ++ u) = -1) := fun h => by have := HN1.out h; rw [hpe, if_pos rfl] at this; exact this
      unfold headB at HNY
      obtain ⟨Q0, hQ0⟩ : ∃ Q, (⟨#[118]⟩ : ByteArray) ++ a = Q := ⟨_, rfl⟩
      have q0 : Q0.size ≤ 201 := by rw [← hQ0, ByteArray.size_append]; show 1 + a.size ≤ 201; omega
      have n0 : ¬ 9223372036854775807 < 1 + a.size := by omega
      obtain ⟨Q1, hQ1⟩ : ∃ Q, Q0 ++ (⟨#[46]⟩ : ByteArray) = Q := ⟨_, rfl⟩
      have q1 : Q1.size ≤ 202 := by rw [← hQ1, ByteArray.size_append]; show Q0.size + 1 ≤ 202; omega
      have n1 : ¬ 9223372036854775807 < Q0.size + 1 := by omega
      obtain ⟨Q2, hQ2⟩ : ∃ Q, Q1 ++ b = Q := ⟨_, rfl⟩
      have q2 : Q2.size ≤ 402 := by rw [← hQ2, ByteArray.size_append]; show Q1.size + b.size ≤ 402; omega
      have n2 : ¬ 9223372036854775807 < Q1.size + b.size := by omega
      obtain ⟨Q3, hQ3⟩ : ∃ Q, Q2 ++ (⟨#[46]⟩ : ByteArray) = Q := ⟨_, rfl⟩
      have q3 : Q3.size ≤ 403 := by rw [← hQ3, ByteArray.size_append]; show Q2.size + 1 ≤ 403; omega
      have n3 : ¬ 9223372036854775807 < Q2.size + 1 := by omega
      obtain ⟨Q4, hQ4⟩ : ∃ Q, Q3 ++ u = Q := ⟨_, rfl⟩
      have q4 : Q4.size ≤ 703 := by rw [← hQ4, ByteArray.size_append]; show Q3.size + u.size ≤ 703; omega
      have n4 : ¬ 9223372036854775807 < Q3.size + u.size := by omega
      have H15 : Hid (∀ V, Hid (VbS w B a b c d e n V) → _) := fun V hV => VbS.call (HMO.out V) hV
      rw [hQ0, hQ1, hQ2, hQ3, hQ4] at HNY
      go_upto_region 8 with fail
      generalize (⟨#[118]⟩ : ByteArray) ++ a ++ ⟨#[46]⟩ ++ b ++ ⟨#[46]⟩ ++ c = NX0 at *
      go_region_held3 (fun w' => w'.cell? ⟨B, 0, none⟩ = some (.string a) ∧ w'.cell? ⟨B, 1, none⟩ = some (.string b) ∧ w'.cell? ⟨B, 2, none⟩ = some (.string c) ∧ w'.cell? ⟨B, 3, none⟩ = some (.string d) ∧ w'.cell? ⟨B, 4, none⟩ = some (.string e) ∧ w'.cell? ⟨B, 5, none⟩ = some (.int .i64 n) ∧ Hid (VbS w B a b c d e n w'))
        (first | exact hS1 | exact VbS.full (Hid.out (by repeat (first | exact hS1.2.2.2.2.2.2 | exact HS0 | apply VbS.drew | apply VbS.drewN))))
        (first
          | (go_at_call 15; with_reducible refine (H15.out _ (by repeat (first | exact hS1.2.2.2.2.2.2 | exact HS0 | apply VbS.drew | apply VbS.drewN))).mono ?_; rintro _ v1 ⟨rfl, hS1⟩))
      have HBV := hidM hS1.2.2.2.2.2.2.out.bel
      have HGV := hidM (HG0.out.below HBV.out)
      have hnx : Q4.size ≤ 1000 := by omega
      clear hS1 HS0 c0 c1 c2 c3 c4 c5 H15
      cases hbe : base.toList.isEmpty with
      | true =>
        have HNX := hidM (HN0.out hbe)
        clear HN0 HN1 HN2
        have HCN : Hid (∀ V, Calls Tryz.prog 16 #[.string r1, .string ⟨#[118, 48, 46, 48, 46, 48]⟩] V fun x w' => x = .returned (.int .i64 (-1)) ∧ Below V.heap.size V w') := fun V => by
          have hc := compare_any r1 ⟨#[118, 48, 46, 48, 46, 48]⟩ V (by omega) (by first | decide | omega)
          rw [HNX.out] at hc
          exact hc
        by_cases hlt : time < later
        · as_aux_lemma =>
          have HCL := hidM (HL.out hlt)
          clear HL
          go_wp2_with fail
          refine (HCL.out _).mono ?_
          rintro _ y0 ⟨rfl, hy0⟩
          have HBL := hidM (HBV.out.trans (hy0.mono HBV.out.size))
          have HGL := hidM (HGV.out.below hy0)
          clear hy0 HCL
          go_wp2_with fail
          refine (HAW.out _ HGL.out).mono ?_
          rintro _ y1 ⟨rfl, hy1⟩
          have HY1 := hidM (HBL.out.trans (hy1.mono HBL.out.size))
          clear hy1
          go_wp2_with fail
          refine (HCB.out _).mono ?_
          rintro _ y2 ⟨rfl, hy2⟩
          have HY2 := hidM (HY1.out.trans (hy2.mono HY1.out.size))
          clear hy2
          go_wp2_with fail
          refine (HCN.out _).mono ?_
          rintro _ y3 ⟨rfl, hy3⟩
          have HY3 := hidM (HY2.out.trans (hy3.mono HY2.out.size))
          clear hy3
          go_wp2_with fail
          refine (HCA.out _).mono ?_
          rintro _ y4 ⟨rfl, hy4⟩
          have HY4 := hidM (HY3.out.trans (hy4.mono HY3.out.size))
          clear hy4
          go_wp2
          go_ret
          exact ⟨rfl, HY4.out⟩
        · as_aux_lemma =>
          have HBL := HBV
          have HGL := HGV
          clear HL
          go_wp2_with fail
          refine (HAW.out _ HGL.out).mono ?_
          rintro _ y1 ⟨rfl, hy1⟩
          have HY1 := hidM (HBL.out.trans (hy1.mono HBL.out.size))
          clear hy1
          go_wp2_with fail
          refine (HCB.out _).mono ?_
          rintro _ y2 ⟨rfl, hy2⟩
          have HY2 := hidM (HY1.out.trans (hy2.mono HY1.out.size))
          clear hy2
          go_wp2_with fail
          refine (HCN.out _).mono ?_
          rintro _ y3 ⟨rfl, hy3⟩
          have HY3 := hidM (HY2.out.trans (hy3.mono HY2.out.size))
          clear hy3
          go_wp2_with fail
          refine (HCA.out _).mono ?_
          rintro _ y4 ⟨rfl, hy4⟩
          have HY4 := hidM (HY3.out.trans (hy4.mono HY3.out.size))
          clear hy4
          go_wp2
          go_ret
          exact ⟨rfl, HY4.out⟩
      | false =>
        have HNX : Hid (cmpS r1 Q4 = -1) := HNY.out hbe
        clear HN0 HN1 HN2 HNY
        have HCN : Hid (∀ V, Calls Tryz.prog 16 #[.string r1, .string Q4] V fun x w' => x = .returned (.int .i64 (-1)) ∧ Below V.heap.size V w') := fun V => by
          have hc := compare_any r1 Q4 V (by omega) (by first | decide | omega)
          rw [HNX.out] at hc
          exact hc
        by_cases hlt : time < later
        · as_aux_lemma =>
          have HCL := hidM (HL.out hlt)
          clear HL
          go_wp2_with fail
          refine (HCL.out _).mono ?_
          rintro _ y0 ⟨rfl, hy0⟩
          have HBL := hidM (HBV.out.trans (hy0.mono HBV.out.size))
          have HGL := hidM (HGV.out.below hy0)
          clear hy0 HCL
          go_wp2_with fail
          refine (HAW.out _ HGL.out).mono ?_
          rintro _ y1 ⟨rfl, hy1⟩
          have HY1 := hidM (HBL.out.trans (hy1.mono HBL.out.size))
          clear hy1
          go_wp2_with fail
          refine (HCB.out _).mono ?_
          rintro _ y2 ⟨rfl, hy2⟩
          have HY2 := hidM (HY1.out.trans (hy2.mono HY1.out.size))
          clear hy2
          go_wp2_with fail
          refine (HCN.out _).mono ?_
          rintro _ y3 ⟨rfl, hy3⟩
          have HY3 := hidM (HY2.out.trans (hy3.mono HY2.out.size))
          clear hy3
          go_wp2_with fail
          refine (HCA.out _).mono ?_
          rintro _ y4 ⟨rfl, hy4⟩
          have HY4 := hidM (HY3.out.trans (hy4.mono HY3.out.size))
          clear hy4
          go_wp2
          go_ret
          exact ⟨rfl, HY4.out⟩
        · as_aux_lemma =>
          have HBL := HBV
          have HGL := HGV
          clear HL
          go_wp2_with fail
          refine (HAW.out _ HGL.out).mono ?_
          rintro _ y1 ⟨rfl, hy1⟩
          have HY1 := hidM (HBL.out.trans (hy1.mono HBL.out.size))
          clear hy1
          go_wp2_with fail
          refine (HCB.out _).mono ?_
          rintro _ y2 ⟨rfl, hy2⟩
          have HY2 := hidM (HY1.out.trans (hy2.mono HY1.out.size))
          clear hy2
          go_wp2_with fail
          refine (HCN.out _).mono ?_
          rintro _ y3 ⟨rfl, hy3⟩
          have HY3 := hidM (HY2.out.trans (hy3.mono HY2.out.size))
          clear hy3
          go_wp2_with fail
          refine (HCA.out _).mono ?_
          rintro _ y4 ⟨rfl, hy4⟩
          have HY4 := hidM (HY3.out.trans (hy4.mono HY3.out.size))
          clear hy4
          go_wp2
          go_ret
          exact ⟨rfl, HY4.out⟩
    | false =>
      as_aux_lemma =>
      have HNY : Hid (base.toList.isEmpty = false → cmpS r1 (headB a b ++ c) = -1) := fun h => by have := HN1.out h; rw [hpe, if_neg Bool.false_ne_true] at this; exact this
      unfold headB at HNY
      have hnx : ((⟨#[118]⟩ : ByteArray) ++ a ++ ⟨#[46]⟩ ++ b ++ ⟨#[46]⟩ ++ c).size ≤ 700 := by simp only [ByteArray.size_append]; show 1 + a.size + 1 + b.size + 1 + c.size ≤ 700; omega
      go_upto_region 9 with fail
      generalize (⟨#[118]⟩ : ByteArray) ++ a ++ ⟨#[46]⟩ ++ b ++ ⟨#[46]⟩ ++ c = NX at *
      cases hbe : base.toList.isEmpty with
      | true =>
        have HNX := hidM (HN0.out hbe)
        clear HN0 HN1 HN2
        have HCN : Hid (∀ V, Calls Tryz.prog 16 #[.string r1, .string ⟨#[118, 48, 46, 48, 46, 48]⟩] V fun x w' => x = .returned (.int .i64 (-1)) ∧ Below V.heap.size V w') := fun V => by
          have hc := compare_any r1 ⟨#[118, 48, 46, 48, 46, 48]⟩ V (by omega) (by first | decide | omega)
          rw [HNX.out] at hc
          exact hc
        by_cases hlt : time < later
        · as_aux_lemma =>
          have HCL := hidM (HL.out hlt)
          clear HL
          go_wp2_with fail
          refine (HCL.out _).mono ?_
          rintro _ y0 ⟨rfl, hy0⟩
          have HBL := hidM (HB4.out.trans (hy0.mono HB4.out.size))
          have HGL := hidM (HG4.out.below hy0)
          clear hy0 HCL
          go_wp2_with fail
          refine (HAW.out _ HGL.out).mono ?_
          rintro _ y1 ⟨rfl, hy1⟩
          have HY1 := hidM (HBL.out.trans (hy1.mono HBL.out.size))
          clear hy1
          go_wp2_with fail
          refine (HCB.out _).mono ?_
          rintro _ y2 ⟨rfl, hy2⟩
          have HY2 := hidM (HY1.out.trans (hy2.mono HY1.out.size))
          clear hy2
          go_wp2_with fail
          refine (HCN.out _).mono ?_
          rintro _ y3 ⟨rfl, hy3⟩
          have HY3 := hidM (HY2.out.trans (hy3.mono HY2.out.size))
          clear hy3
          go_wp2_with fail
          refine (HCA.out _).mono ?_
          rintro _ y4 ⟨rfl, hy4⟩
          have HY4 := hidM (HY3.out.trans (hy4.mono HY3.out.size))
          clear hy4
          go_wp2
          go_ret
          exact ⟨rfl, HY4.out⟩
        · as_aux_lemma =>
          have HBL := HB4
          have HGL := HG4
          clear HL
          go_wp2_with fail
          refine (HAW.out _ HGL.out).mono ?_
          rintro _ y1 ⟨rfl, hy1⟩
          have HY1 := hidM (HBL.out.trans (hy1.mono HBL.out.size))
          clear hy1
          go_wp2_with fail
          refine (HCB.out _).mono ?_
          rintro _ y2 ⟨rfl, hy2⟩
          have HY2 := hidM (HY1.out.trans (hy2.mono HY1.out.size))
          clear hy2
          go_wp2_with fail
          refine (HCN.out _).mono ?_
          rintro _ y3 ⟨rfl, hy3⟩
          have HY3 := hidM (HY2.out.trans (hy3.mono HY2.out.size))
          clear hy3
          go_wp2_with fail
          refine (HCA.out _).mono ?_
          rintro _ y4 ⟨rfl, hy4⟩
          have HY4 := hidM (HY3.out.trans (hy4.mono HY3.out.size))
          clear hy4
          go_wp2
          go_ret
          exact ⟨rfl, HY4.out⟩
      | false =>
        have HNX : Hid (cmpS r1 NX = -1) := HNY.out hbe
        clear HN0 HN1 HN2 HNY
        have HCN : Hid (∀ V, Calls Tryz.prog 16 #[.string r1, .string NX] V fun x w' => x = .returned (.int .i64 (-1)) ∧ Below V.heap.size V w') := fun V => by
          have hc := compare_any r1 NX V (by omega) (by first | decide | omega)
          rw [HNX.out] at hc
          exact hc
        by_cases hlt : time < later
        · as_aux_lemma =>
          have HCL := hidM (HL.out hlt)
          clear HL
          go_wp2_with fail
          refine (HCL.out _).mono ?_
          rintro _ y0 ⟨rfl, hy0⟩
          have HBL := hidM (HB4.out.trans (hy0.mono HB4.out.size))
          have HGL := hidM (HG4.out.below hy0)
          clear hy0 HCL
          go_wp2_with fail
          refine (HAW.out _ HGL.out).mono ?_
          rintro _ y1 ⟨rfl, hy1⟩
          have HY1 := hidM (HBL.out.trans (hy1.mono HBL.out.size))
          clear hy1
          go_wp2_with fail
          refine (HCB.out _).mono ?_
          rintro _ y2 ⟨rfl, hy2⟩
          have HY2 := hidM (HY1.out.trans (hy2.mono HY1.out.size))
          clear hy2
          go_wp2_with fail
          refine (HCN.out _).mono ?_
          rintro _ y3 ⟨rfl, hy3⟩
          have HY3 := hidM (HY2.out.trans (hy3.mono HY2.out.size))
          clear hy3
          go_wp2_with fail
          refine (HCA.out _).mono ?_
          rintro _ y4 ⟨rfl, hy4⟩
          have HY4 := hidM (HY3.out.trans (hy4.mono HY3.out.size))
          clear hy4
          go_wp2
          go_ret
          exact ⟨rfl, HY4.out⟩
        · as_aux_lemma =>
          have HBL := HB4
          have HGL := HG4
          clear HL
          go_wp2_with fail
          refine (HAW.out _ HGL.out).mono ?_
          rintro _ y1 ⟨rfl, hy1⟩
          have HY1 := hidM (HBL.out.trans (hy1.mono HBL.out.size))
          clear hy1
          go_wp2_with fail
          refine (HCB.out _).mono ?_
          rintro _ y2 ⟨rfl, hy2⟩
          have HY2 := hidM (HY1.out.trans (hy2.mono HY1.out.size))
          clear hy2
          go_wp2_with fail
          refine (HCN.out _).mono ?_
          rintro _ y3 ⟨rfl, hy3⟩
          have HY3 := hidM (HY2.out.trans (hy3.mono HY2.out.size))
          clear hy3
          go_wp2_with fail
          refine (HCA.out _).mono ?_
          rintro _ y4 ⟨rfl, hy4⟩
          have HY4 := hidM (HY3.out.trans (hy4.mono HY3.out.size))
          clear hy4
          go_wp2
          go_ret
          exact ⟨rfl, HY4.out⟩
  · as_aux_lemma =>
    clear HFA HP HMO
    by_cases h1 : e1 = 0
    · subst h1
      by_cases h2 : e2 = 0
      · subst h2
        have g90 : (90 : Int) < (base.size : Int) := by
          have : ¬ base.size ≤ 90 := fun h => hbad ⟨rfl, rfl, h⟩
          omega
        clear hbad
        go_wp2_with fail
        refine (HAW.out _ HG2.out).mono ?_
        rintro _ w3 ⟨rfl, hb3⟩
        have HB3 := hidM (HB2.out.trans (hb3.mono HB2.out.size))
        go_wp2
        go_ret
        exact ⟨rfl, HB3.out⟩
      · have b2 : (e2 != 0) = true := by simp only [bne_iff_ne, ne_eq]; exact h2
        clear hbad
        go_wp2_with fail
        refine (HAW.out _ HG2.out).mono ?_
        rintro _ w3 ⟨rfl, hb3⟩
        have HB3 := hidM (HB2.out.trans (hb3.mono HB2.out.size))
        go_wp2
        go_ret
        exact ⟨rfl, HB3.out⟩
    · have b1 : (e1 != 0) = true := by simp only [bne_iff_ne, ne_eq]; exact h1
      clear hbad
      go_wp2_with fail
      refine (HAW.out _ HG2.out).mono ?_
      rintro _ w3 ⟨rfl, hb3⟩
      have HB3 := hidM (HB2.out.trans (hb3.mono HB2.out.size))
      go_wp2
      go_ret
      exact ⟨rfl, HB3.out⟩
end Go.Proofs.YtmhjdahmmdfbcaaGreatDoor
