/-
  The order of the versions that Make makes.
  The law PseudoBetween, walked.
  What Make makes above one base for one identifier, second by second: the bytes of its text, and its order.
  Taken over from another program: MfM.
  DERIVED: THE SHELF's CONTRACTS AT THIS DUMP, IN PLAIN WORDS (tools/lay-plain.mjs out of 'YtmhjdahmmdfbcaaGreatDoorShelM.lean', which tools/lay-shelf.mjs wrote): THE SAME DECLARATIONS UNDER THE SAME NAMES: 'import', 'namespace', 'open', 'def', 'theorem' AND NOTHING ELSE: no command of the shelf's: FOR A HAND-IN. Each laying: the table of numbers ('.._ren') and one theorem, a field a fact of the dump's own or the kernel's comparison; each contract: ONE APPLICATION.
  Taken over from another program: LexA.
  Taken over from another program: PthM.
  Taken over from another program: PthA.
  Taken over from another program: LexB.
  Taken over from another program: LexC.
  Taken over from another program: PthB.
  Taken over from another program: PthC.
  Taken over from another program: LexD.
-/
import Derived.Test.YtmhjdahmmdfbcaaGreatDoorPtC
import Derived.ProofKit
import Derived.Shelf.Strings.Builder1
import Derived.Shelf.Strings.Builder2
import Derived.Shelf.Small.Strs
import Derived.Shelf.Small.Wraps
import Derived.Shelf.Strings.BuilderF
import Derived.Shelf.Utf8.RuneCount
import Derived.Shelf.Strconv.Itoa0
import Derived.Shelf.Strconv.Itoa1
import Derived.Shelf.LaysM
import Derived.Shelf.Strconv.Itoa2
import Derived.Shelf.Strconv.Itoa3
import Derived.Shelf.Strconv.Clone
import Derived.Shelf.Strings.Search1
import Derived.Shelf.Strings.Search2
import Derived.Shelf.Strings.Search3
import Derived.Shelf.Strings.Cut
import Derived.Shelf.Strings.Count
import Derived.Shelf.Strings.Shaped
import Derived.Shelf.Strings.LastIndex
import Derived.Shelf.Strings.Prefix
import Derived.Shelf.Strings.Split
import Derived.Shelf.Strings.SplitShaped
import Derived.Shelf.Unicode.Decode
import Derived.Shelf.Strings.RuneCount
import Derived.Shelf.Strings.Explode
import Derived.Shelf.Bits.Mul64
import Derived.Shelf.Strings.Repeat
import Derived.Shelf.Unicode.DecodeSlow
import Derived.Shelf.Unicode.DecodeAny
import Derived.Ground.Names2Prog
import Derived.Shelf.Slices.Clone
import Derived.Shelf.Slices.SearchI
import Derived.Ground.SlgnProg
import Derived.Shelf.SlicesE.Clone
import Derived.Test.YtmhjdahmmdfbcaaGreatDoorProg
import Derived.Test.YtmhjdahmmdfbcaaGreatDoorShelf
import Derived.Test.YtmhjdahmmdfbcaaGreatDoorRows
import Derived.Test.YtmhjdahmmdfbcaaGreatDoorJShelP
import Derived.WalkKit
import Derived.WalkSpells
import Derived.WalkLawsBesides
import Derived.Laws.IdiomStrings
import Derived.Deep.QuietTactic
import Derived.BigQuiet
import Derived.Deep.RegionHeld3
import Derived.Deep.MidRow
import Derived.Deep.DeepCutAuto
import Derived.Lib.IndexMore
import Derived.Lib.IndexAny
import Derived.OwnWalk
import Derived.Laws.Tables
import Derived.Scope
import Derived.ScopeJumps
import Derived.Laws.ResultCell
import Derived.Lib.SplitLaws
import Derived.Laws.OwnMore
namespace Go.Proofs.YtmhjdahmmdfbcaaGreatDoor
open Go.RowKit

theorem cmp_less_app : ∀ (a b x y : List UInt8), a.length = b.length → Lib.compareBytes a b = -1 → Lib.compareBytes (a ++ x) (b ++ y) = -1
  | [], [], _,_,_, h => by cases h
  | [], _ :: _,_,_, hl, _ => by cases hl
  | _ :: _, [], _,_, hl, _ => by cases hl
  | c :: a, d :: b, x, y, hl, h => by
    show Lib.compareBytes (c :: (a ++ x)) (d :: (b ++ y)) = -1
    rw [cmp_cons] at h ⊢
    by_cases h1 : c.toNat < d.toNat
    · rw [if_pos h1]
    · rw [if_neg h1] at h ⊢
      by_cases h2 : d.toNat < c.toNat
      · rw [if_pos h2] at h; cases h
      · rw [if_neg h2] at h ⊢
        exact cmp_less_app a b x y (by simpa using hl) h
theorem lex_same (I : List ByteArray) (p q : ByteArray) : lexC (I ++ [p]) (I ++ [q]) = wordCmp p q := by
  induction I with
  | nil =>
    show (if wordCmp p q = 0 then 0 else wordCmp p q) = _
    split
    · rename_i h; rw [h]
    · rfl
  | cons a I ih =>
    show (if wordCmp a a = 0 then lexC (I ++ [p]) (I ++ [q]) else wordCmp a a) = _
    rw [if_pos (ord_word.same a), ih]
theorem seg_dig (st id : ByteArray) : digL (segL st id) = false := by
  unfold digL
  have : (segL st id).all digC = false := by
    rw [List.all_eq_false]
    exact ⟨45, by unfold segL; simp, by decide⟩
  rw [this]; rfl
theorem seg_order {st id st' id' : ByteArray} (hl : st.size = st'.size) (h : Lib.compareBytes st.data.toList st'.data.toList = -1) : wordCmp (strOf (segL st id)) (strOf (segL st' id')) = -1 := by
  unfold wordCmp
  rw [strOf_data, strOf_data, seg_dig, seg_dig]
  show Lib.compareBytes (segL st id) (segL st' id') = -1
  exact cmp_less_app _ _ _ _ (by rw [size_len, size_len]; exact hl) h
theorem pre_segs {p q st id st' id' : ByteArray} {F : List UInt8} {t t' : Int} (hs : SegOk st id t) (hs' : SegOk st' id' t') (hF : F = [] ∨ ∃ G, F = G ++ [46]) (hp : p.data.toList = F ++ segL st id) (hq : q.data.toList = F ++ segL st' id')
    (h : Lib.compareBytes st.data.toList st'.data.toList = -1) : preC p q = -1 := by
  have w3 := (seg_word hs).2.2
  have w3' := (seg_word hs').2.2
  have hpe : p.data.toList.isEmpty = false := by rw [hp]; unfold segL; cases F <;> cases st.data.toList <;> rfl
  have hqe : q.data.toList.isEmpty = false := by rw [hq]; unfold segL; cases F <;> cases st'.data.toList <;> rfl
  rw [preC_eq, hpe, hqe, if_neg Bool.false_ne_true, if_neg Bool.false_ne_true, parts_eq, parts_eq, hp, hq]
  have hw := seg_order (id := id) (id' := id') (by rw [hs.size, hs'.size]) h
  rcases hF with rfl | ⟨G, rfl⟩
  · rw [List.nil_append, List.nil_append, cutL_one w3, cutL_one w3']
    exact (lex_same [] _ _).trans hw
  · rw [List.append_assoc, List.append_assoc, List.singleton_append, List.singleton_append, cutL_join, cutL_join, cutL_one w3, cutL_one w3', List.map_append, List.map_append]
    exact (lex_same _ _ _).trans hw
theorem sec_order {t t' : Int} {st st' : ByteArray} (h : Sec t st 0) (h' : Sec t' st' 0) (hlt : t < t') : Lib.compareBytes st.data.toList st'.data.toList = -1 := by
  rcases h with ⟨_, T, y, m, d, hh, mi, s, rfl, hd, rfl⟩ | ⟨h, _⟩
  · rcases h' with ⟨_, T', y', m', d', hh', mi', s', rfl, hd', rfl⟩ | ⟨h', _⟩
    · have h1 := (stamp_order hd hd').1
      rw [Lib.toList_data, Lib.toList_data, less_cmp, decide_eq_decide] at h1
      exact h1.2 (by omega)
    · cases h'
  · cases h
theorem cmp_pre_only {a b : ByteArray} {u v : Ver} (ha : parseR a = some u) (hb : parseR b = some v) (h1 : u.major = v.major) (h2 : u.minor = v.minor) (h3 : u.patch = v.patch) (h : preC u.pre v.pre = -1) : cmpS a b = -1 := by
  unfold cmpS
  rw [ha, hb]
  show orL [numC u.major v.major, numC u.minor v.minor, numC u.patch v.patch, preC u.pre v.pre] = -1
  rw [h1, h2, h3, orL_four, if_pos (ord_num.same _), if_pos (ord_num.same _), if_pos (ord_num.same _)]
  exact h

/-- of two made above one base the later second's stands behind -/
theorem make_later {base : ByteArray} {v : Ver} {st id st' id' : ByteArray} {t t' : Int} (h : parseR base = some v) (hs : Sec t st 0) (hs' : Sec t' st' 0) (hr : revB id = true) (hr' : revB id' = true) (hlt : t < t')
    (hz : (wriV (makeV v (st ++ ⟨#[45]⟩ ++ id))).size ≤ 100) (hz' : (wriV (makeV v (st' ++ ⟨#[45]⟩ ++ id'))).size ≤ 100) :
    cmpS (wriV (makeV v (st ++ ⟨#[45]⟩ ++ id))) (wriV (makeV v (st' ++ ⟨#[45]⟩ ++ id'))) = -1 := by
  have k := hs.seg hr
  have k' := hs'.seg hr'
  obtain ⟨-, -, F, hF, hc⟩ := make_right h k
  obtain ⟨-, -, F', hF', hc'⟩ := make_right h k'
  have hp := (make_told h k hz).1
  have hp' := (make_told h k' hz').1
  have hEq : F = F' ∧ ∃ G, F = G ++ [46] := by
    rcases hc with ⟨he, rfl⟩ | ⟨he, rfl⟩
    · rcases hc' with ⟨_, rfl⟩ | ⟨he', _⟩
      · exact ⟨rfl, [48], rfl⟩
      · rw [he] at he'; cases he'
    · rcases hc' with ⟨he', _⟩ | ⟨_, rfl⟩
      · rw [he] at he'; cases he'
      · exact ⟨rfl, v.pre.data.toList ++ [46, 48], by simp⟩
  obtain ⟨rfl, hG⟩ := hEq
  refine cmp_pre_only hp hp' ?_ ?_ ?_ (pre_segs k k' (Or.inr hG) hF hF' (sec_order hs hs' hlt))
  · show (makeV v _).major = (makeV v _).major
    unfold makeV; split <;> rfl
  · show (makeV v _).minor = (makeV v _).minor
    unfold makeV; split <;> rfl
  · show (makeV v _).patch = (makeV v _).patch
    unfold makeV; split <;> rfl

/-- without a base -/
theorem none_later {st id st' id' : ByteArray} {t t' : Int} (hs : Sec t st 0) (hs' : Sec t' st' 0) (hr : revB id = true) (hr' : revB id' = true) (hlt : t < t')
    (hz : (wriV (preV ((parseR ⟨#[118, 48]⟩).getD noVer) (st ++ ⟨#[45]⟩ ++ id))).size ≤ 100) (hz' : (wriV (preV ((parseR ⟨#[118, 48]⟩).getD noVer) (st' ++ ⟨#[45]⟩ ++ id'))).size ≤ 100) :
    cmpS (wriV (preV ((parseR ⟨#[118, 48]⟩).getD noVer) (st ++ ⟨#[45]⟩ ++ id))) (wriV (preV ((parseR ⟨#[118, 48]⟩).getD noVer) (st' ++ ⟨#[45]⟩ ++ id'))) = -1 := by
  have e : (⟨#[118, 48]⟩ : ByteArray) = (⟨#[118]⟩ : ByteArray) ++ nought := by decide +kernel
  have k := hs.seg hr
  have k' := hs'.seg hr'
  rw [e] at hz hz' ⊢
  have hn : numL nought.data.toList = true := by decide +kernel
  have hp := ((none_told hn (by decide) k).2 hz).1
  have hp' := ((none_told hn (by decide) k').2 hz').1
  exact cmp_pre_only hp hp' rfl rfl rfl (pre_segs k k' (F := []) (Or.inl rfl) (seg_list st id) (seg_list st' id') (sec_order hs hs' hlt))
end Go.Proofs.YtmhjdahmmdfbcaaGreatDoor
namespace Go.Proofs.YtmhjdahmmdfbcaaGreatDoor
open Go.RowKit

end Go.Proofs.YtmhjdahmmdfbcaaGreatDoor
namespace Go.Proofs.YtmhjdahmmdfbcaaGreatDoor
open Go.RowKit

theorem cutL_mem {c b : UInt8} : ∀ {l : List UInt8}, b ∈ l → b = c ∨ ∃ x ∈ cutL c l, b ∈ x
  | a :: l, h => by
    by_cases hab : b = a
    · subst hab
      by_cases hc : b = c
      · exact .inl hc
      · refine .inr ?_
        rw [cutL, if_neg hc]
        split
        · exact ⟨_, List.mem_cons_self, List.mem_cons_self⟩
        · exact ⟨_, List.mem_cons_self, List.mem_cons_self⟩
    · have hl : b ∈ l := (List.mem_cons.1 h).resolve_left hab
      rcases cutL_mem (c := c) hl with e | ⟨x, hx, hb⟩
      · exact .inl e
      · refine .inr ?_
        rw [cutL]
        split
        · exact ⟨x, List.mem_cons_of_mem _ hx, hb⟩
        · split
          · rename_i e
            rw [e] at hx; cases hx
          · rename_i p ps e
            rw [e] at hx
            rcases List.mem_cons.1 hx with rfl | hx
            · exact ⟨_, List.mem_cons_self, List.mem_cons_of_mem _ hb⟩
            · exact ⟨x, List.mem_cons_of_mem _ hx, hb⟩
theorem cutR_mem {c b : UInt8} {l : List UInt8} (h : b ∈ l) : b ∈ (cutR c l).1 ∨ b = c ∨ ((cutR c l).2.2 = true ∧ b ∈ (cutR c l).2.1) := by
  unfold cutR
  cases e : splitC c l with
  | none => exact .inl h
  | some pq =>
    obtain ⟨p, q⟩ := pq
    rw [(split_some e).2.1] at h
    rcases List.mem_append.1 h with h | h
    · exact .inl h
    · rcases List.mem_cons.1 h with h | h
      · exact .inr (.inl h)
      · exact .inr (.inr ⟨rfl, h⟩)
def verC1 (c : UInt8) : Bool := wordC c || c == 46 || c == 43
theorem parts_word {s : ByteArray} {f : List UInt8 → Bool} (hf : ∀ l, f l = true → ∀ c ∈ l, wordC c = true) (h : ((partsB s).all fun x => f x.data.toList) = true) {b : UInt8} (hb : b ∈ s.data.toList) : verC1 b = true := by
  rcases cutL_mem (c := 46) hb with rfl | ⟨x, hx, hbx⟩
  · decide
  · rw [parts_eq, List.all_map, List.all_eq_true] at h
    have := hf _ (h x hx) b hbx
    unfold verC1
    rw [this]; rfl
theorem pre_word {l : List UInt8} (h : preL l = true) : ∀ c ∈ l, wordC c = true := by
  unfold preL wordL at h
  simp only [Bool.and_eq_true, List.all_eq_true] at h
  exact h.1.1
theorem word_word {l : List UInt8} (h : wordL l = true) : ∀ c ∈ l, wordC c = true := by
  unfold wordL at h
  simp only [Bool.and_eq_true, List.all_eq_true] at h
  exact h.1
theorem num_word {l : List UInt8} (h : numL l = true) : ∀ c ∈ l, wordC c = true := fun c hc => by
  unfold numL digL at h
  simp only [Bool.and_eq_true, List.all_eq_true] at h
  unfold wordC
  rw [h.1.1 c hc]; rfl
/-- a version's bytes -/
theorem ver_bytes {s : ByteArray} {v : Ver} (h : parseR s = some v) : ∃ r, s.data.toList = 118 :: r ∧ ∀ c ∈ r, verC1 c = true := by
  unfold parseR at h
  split at h
  · rename_i hc
    simp only [Bool.and_eq_true, decide_eq_true_eq] at hc
    obtain ⟨hz, hok⟩ := hc
    unfold okC at hok
    simp only [Bool.and_eq_true, decide_eq_true_eq, Bool.not_eq_true', Bool.and_eq_false_imp, Bool.not_eq_false'] at hok
    obtain ⟨⟨⟨⟨⟨hmk, -⟩, -⟩, hpre⟩, hbld⟩, hnum⟩ := hok
    have hmk' : (vCut s.data.toList).2 = true := hmk
    cases hl : s.data.toList with
    | nil => rw [hl] at hmk'; cases hmk'
    | cons a r =>
      rw [hl] at hmk'
      by_cases h118 : a = 118
      · subst h118
        have hv : (vCut s.data.toList).1 = r := by rw [hl]; simp [vCut]
        refine ⟨r, rfl, fun c hc => ?_⟩
        have e1 : (cutsOf s).build = strOf (cutR 43 r).2.1 := by unfold cutsOf; simp only [hv]
        have e2 : (cutsOf s).pre = strOf (cutR 45 (cutR 43 r).1).2.1 := by unfold cutsOf; simp only [hv]
        have e3 : (cutsOf s).nums = strOf (cutR 45 (cutR 43 r).1).1 := by unfold cutsOf; simp only [hv]
        have e4 : (cutsOf s).hasBuild = (cutR 43 r).2.2 := by unfold cutsOf; simp only [hv]
        have e5 : (cutsOf s).hasPre = (cutR 45 (cutR 43 r).1).2.2 := by unfold cutsOf; simp only [hv]
        rcases cutR_mem (c := 43) hc with h1 | rfl | ⟨h1, h2⟩
        · rcases cutR_mem (c := 45) h1 with h3 | rfl | ⟨h3, h4⟩
          · exact parts_word (s := (cutsOf s).nums) (fun l hl => num_word hl) hnum (by rw [e3, strOf_data]; exact h3)
          · decide
          · exact parts_word (s := (cutsOf s).pre) (fun l hl => pre_word hl) (hpre (by rw [e5]; exact h3)) (by rw [e2, strOf_data]; exact h4)
        · decide
        · exact parts_word (s := (cutsOf s).build) (fun l hl => word_word hl) (hbld (by rw [e4]; exact h1)) (by rw [e1, strOf_data]; exact h2)
      · simp [vCut, h118] at hmk'
  · cases h
theorem told_some {s : ByteArray} {b id : ByteArray} {t : Int} (h : told s = ⟨b, t, id, 0⟩) : ∃ v, parseR s = some v := by
  unfold told at h
  cases e : parseR s with
  | some v => exact ⟨v, rfl⟩
  | none => rw [e] at h; simp [noTold] at h

/-- Make of v0 above a base, for an identifier -/
theorem rq_all (base : ByteArray) (id : ByteArray) (hb : base.size ≤ 9223372036854775807) : ∃ (R : Int → ByteArray × Int) (S : Int → ByteArray × Int),
    (∀ t V, GT V → Calls Tryz.prog 8 #[.string ⟨#[118, 48]⟩, .string base, .int .i64 t, .string id] V fun x w' => x = .returned (.tuple #[.string (R t).1, .int .i64 (R t).2]) ∧ Below V.heap.size V w') ∧
    (∀ t V, GT V → Calls Tryz.prog 24 #[.int .i64 t] V fun x w' => x = .returned (.tuple #[.string (S t).1, .int .i64 (S t).2]) ∧ Below V.heap.size V w') ∧
    (∀ t, (S t).1.size ≤ 14) ∧
    (∀ t, (R t).2 = 0 → (R t).1.size ≤ 100 ∧ (∃ r, (R t).1.data.toList = 118 :: r ∧ ∀ c ∈ r, verC1 c = true) ∧ ∃ b i, told (R t).1 = ⟨b, t, i, 0⟩) ∧
    (∀ t t', (R t).2 = 0 → (R t').2 = 0 → Op.bytesLess (S t).1.toList (S t').1.toList = true → cmpS (R t).1 (R t').1 = -1) := by
  have hsec : ∃ S : Int → ByteArray × Int, ∀ t, Sec t (S t).1 (S t).2 := by
    have : ∀ t, ∃ p : ByteArray × Int, Sec t p.1 p.2 := fun t => by
      obtain ⟨st, er, h⟩ := sec_ex t
      exact ⟨(st, er), h⟩
    exact ⟨fun t => Classical.choose (this t), fun t => Classical.choose_spec (this t)⟩
  obtain ⟨S, hS⟩ := hsec
  have less : ∀ t t', (S t).2 = 0 → (S t').2 = 0 → Op.bytesLess (S t).1.toList (S t').1.toList = true → t < t' := fun t t' h h' hl => by
    have h1 := hS t
    have h2 := hS t'
    rw [h] at h1
    rw [h'] at h2
    generalize (S t).1 = s1 at *
    generalize (S t').1 = s2 at *
    rcases h1 with ⟨_, T, y, m, d, hh, mi, s, rfl, hd, rfl⟩ | ⟨h, _⟩
    · rcases h2 with ⟨_, T', y', m', d', hh', mi', s', rfl, hd', rfl⟩ | ⟨h', _⟩
      · have h1 := (stamp_order hd hd').1
        rw [hl] at h1
        have := of_decide_eq_true h1.symm
        omega
      · cases h'
    · cases h
  cases he : base.toList.isEmpty with
  | true =>
    obtain rfl := isEmpty_eq he
    refine ⟨fun t => makeN ⟨#[118, 48]⟩ (S t).1 id (S t).2, S, fun t V hV => make_none _ t id _ _ V hV (by decide) (hS t).stp.1 (hS t).stp.2, fun t V hV => (hS t).stp.1 V hV, fun t => (hS t).stp.2, fun t h0 => ?_, fun t t' h0 h0' hl => ?_⟩
    · obtain ⟨he0, hr, hok, h1, h2⟩ := makeN_zero h0
      obtain ⟨n, hn1, hn, hnz⟩ := (okN_iff _).1 hok
      have hsg := hS t
      rw [he0] at hsg
      have ht := ((none_told hn hnz (hsg.seg hr)).2 (by rw [← hn1]; exact h2)).2
      rw [← hn1, ← h1] at ht
      obtain ⟨v, hv⟩ := told_some ht
      exact ⟨by rw [h1]; exact h2, ver_bytes hv, _,_, ht⟩
    · obtain ⟨he0, hr, -, h1, h2⟩ := makeN_zero h0
      obtain ⟨he0', hr', -, h1', h2'⟩ := makeN_zero h0'
      have hlt := less t t' he0 he0' hl
      have s1 := hS t
      rw [he0] at s1
      have s2 := hS t'
      rw [he0'] at s2
      show cmpS (makeN _ _ _ _).1 (makeN _ _ _ _).1 = -1
      rw [h1, h1']
      exact none_later s1 s2 hr hr' hlt h2 h2'
  | false =>
    refine ⟨fun t => makeR base (S t).1 id (S t).2, S, fun t V hV => make_base _ base t id _ _ V hV hb he (hS t).stp.1 (hS t).stp.2, fun t V hV => (hS t).stp.1 V hV, fun t => (hS t).stp.2, fun t h0 => ?_, fun t t' h0 h0' hl => ?_⟩
    · obtain ⟨he0, hr, v, hv, h1, h2⟩ := makeR_zero h0
      have hsg := hS t
      rw [he0] at hsg
      obtain ⟨b, ht, -⟩ := (make_told hv (hsg.seg hr) h2).2
      rw [← h1] at ht
      obtain ⟨v', hv'⟩ := told_some ht
      exact ⟨by rw [h1]; exact h2, ver_bytes hv', _,_, ht⟩
    · obtain ⟨he0, hr, v, hv, h1, h2⟩ := makeR_zero h0
      obtain ⟨he0', hr', v', hv', h1', h2'⟩ := makeR_zero h0'
      obtain rfl : v = v' := Option.some.inj (hv.symm.trans hv')
      have hlt := less t t' he0 he0' hl
      have s1 := hS t
      rw [he0] at s1
      have s2 := hS t'
      rw [he0'] at s2
      show cmpS (makeR _ _ _ _).1 (makeR _ _ _ _).1 = -1
      rw [h1, h1']
      exact make_later hv s1 s2 hr hr' hlt h2 h2'

def rqN : ByteArray := ⟨#[118, 48, 46, 48, 46, 48, 45, 50, 48, 48, 54, 48, 49, 48, 50, 49, 53, 48, 52, 48, 53, 45, 97, 98, 99, 100, 101, 102, 97, 98, 99, 100, 101, 102]⟩
theorem rq_made : makeN ⟨#[118, 48]⟩ pS pI 0 = (rqN, 0) := by decide +kernel
theorem rq_awake (w : World) (hG : GT w) : Calls Tryz.prog 8 #[.string ⟨#[118, 48]⟩, .string ⟨#[]⟩, .int .i64 1136214245, .string pI] w fun x w' => x = .returned (.tuple #[.string rqN, .int .i64 0]) ∧ Below w.heap.size w w' := by
  have h := make_none ⟨#[118, 48]⟩ 1136214245 pI pS 0 w hG (by decide) pw_stamp (by decide)
  rw [rq_made] at h
  exact h
end Go.Proofs.YtmhjdahmmdfbcaaGreatDoor
namespace Go.Proofs.YtmhjdahmmdfbcaaGreatDoor.M
open Go.RowKit
def remB (l : List UInt8) : Bool := l.take 2 == [47, 47]
def blkB (c : UInt8) : Bool := c == 32 || c == 9 || c == 13
def wEnd : List UInt8 → Bool
  | [] => true
  | c :: r => c == 10 || blkB c || c == 40 || c == 41 || c == 34 || c == 96 || remB (c :: r)
def wordN : List UInt8 → Nat
  | [] => 0
  | c :: r => if wEnd (c :: r) then 0 else wordN r + 1
def skipL : Bool → List UInt8 → List UInt8
  | _, [] => []
  | true, c :: r => if c = 10 then c :: r else skipL true r
  | false, c :: r => if remB (c :: r) then skipL true r else if blkB c then skipL false r else c :: r
def mntL (c : UInt8) : Option UInt8 := if c = 34 ∨ c = 92 then some c else if c = 110 then some 10 else if c = 116 then some 9 else none
def rawL : List UInt8 → Option Nat
  | [] => none
  | c :: r => if c = 96 then some 0 else if c = 10 then none else (rawL r).map (· + 1)
def quoL : List UInt8 → Option (List UInt8 × List UInt8)
  | [] => none
  | c :: r => if c = 34 then some ([], r) else if c = 10 then none else if c = 92 then
      (match r with
       | [] => none
       | d :: r' => match mntL d with
         | none => none
         | some e => (quoL r').map fun x => (e :: x.1, x.2))
    else (quoL r).map fun x => (c :: x.1, x.2)
abbrev Tk := Nat × List UInt8 × List UInt8
def tokS : List UInt8 → Tk
  | [] => (1, [], [])
  | c :: r => if c = 10 then (2, [], r) else if c = 40 then (3, [], r) else if c = 41 then (4, [], r)
    else if c = 34 then (match quoL r with | some (s, t) => (5, s, t) | none => (6, [], []))
    else if c = 96 then (match rawL r with | some n => (5, r.take n, r.drop (n + 1)) | none => (6, [], []))
    else (5, c :: r.take (wordN r), r.drop (wordN r))
def tokL (l : List UInt8) : Tk := tokS (skipL false l)
theorem skip_suf : ∀ (b : Bool) (l : List UInt8), ∃ n, n ≤ l.length ∧ skipL b l = l.drop n
  | true, [] => ⟨0, by simp, by simp [skipL]⟩
  | false, [] => ⟨0, by simp, by simp [skipL]⟩
  | true, c :: r => by
    rw [skipL]; split
    · exact ⟨0, by simp, rfl⟩
    · obtain ⟨n, h, e⟩ := skip_suf true r; exact ⟨n + 1, by simp; omega, by simpa using e⟩
  | false, c :: r => by
    rw [skipL]; split
    · obtain ⟨n, h, e⟩ := skip_suf true r; exact ⟨n + 1, by simp; omega, by simpa using e⟩
    · split
      · obtain ⟨n, h, e⟩ := skip_suf false r; exact ⟨n + 1, by simp; omega, by simpa using e⟩
      · exact ⟨0, by simp, rfl⟩
theorem raw_le : ∀ (l : List UInt8) n, rawL l = some n → n < l.length
  | [], n, h => by simp [rawL] at h
  | c :: r, n, h => by
    rw [rawL] at h
    split at h
    · simp at h; subst h; simp
    · split at h
      · simp at h
      · cases hr : rawL r with
        | none => simp [hr] at h
        | some m => simp [hr] at h; have := raw_le r m hr; simp; omega
theorem quo_suf : ∀ (n : Nat) (l s t : List UInt8), l.length ≤ n → quoL l = some (s, t) → ∃ m, m ≤ l.length ∧ 0 < m ∧ t = l.drop m
  | 0, [], s, t, _, h => by simp [quoL] at h
  | n + 1, [], s, t, _, h => by simp [quoL] at h
  | n + 1, c :: r, s, t, hl, h => by
    rw [quoL.eq_def] at h
    simp only at h
    split at h
    · simp at h; exact ⟨1, by simp, by omega, by simp [h.2]⟩
    · split at h
      · simp at h
      · split at h
        · cases r with
          | nil => simp at h
          | cons d r' =>
            simp only at h
            cases hm : mntL d with
            | none => simp [hm] at h
            | some e =>
              simp only [hm] at h
              cases hq : quoL r' with
              | none => simp [hq] at h
              | some x =>
                simp [hq] at h
                obtain ⟨m, h1, h2, h3⟩ := quo_suf n r' x.1 x.2 (by simp at hl; omega) hq
                exact ⟨m + 2, by simp; omega, by omega, by simp [← h.2, h3]⟩
        · cases hq : quoL r with
          | none => simp [hq] at h
          | some x =>
            simp [hq] at h
            obtain ⟨m, h1, h2, h3⟩ := quo_suf n r x.1 x.2 (by simp at hl; omega) hq
            exact ⟨m + 1, by simp; omega, by omega, by simp [← h.2, h3]⟩
theorem word_le : ∀ l : List UInt8, wordN l ≤ l.length
  | [] => by simp [wordN]
  | c :: r => by rw [wordN]; split <;> simp; have := word_le r; omega
theorem tokS_suf (l : List UInt8) : (tokS l).1 = 6 ∨ ∃ m, m ≤ l.length ∧ ((tokS l).1 = 1 ∨ 0 < m) ∧ (tokS l).2.2 = l.drop m := by
  cases l with
  | nil => exact .inr ⟨0, by simp, by simp [tokS], by simp [tokS]⟩
  | cons c r =>
    rw [tokS]
    split
    · exact .inr ⟨1, by simp, by simp, by simp⟩
    · split
      · exact .inr ⟨1, by simp, by simp, by simp⟩
      · split
        · exact .inr ⟨1, by simp, by simp, by simp⟩
        · split
          · cases hq : quoL r with
            | none => simp
            | some x =>
              obtain ⟨m, h1, h2, h3⟩ := quo_suf _ r x.1 x.2 (Nat.le_refl _) hq
              exact .inr ⟨m + 1, by simp; omega, by simp, by simp [h3]⟩
          · split
            · cases hq : rawL r with
              | none => simp
              | some n =>
                have := raw_le r n hq
                exact .inr ⟨n + 2, by simp; omega, by simp, by simp⟩
            · have := word_le r
              exact .inr ⟨wordN r + 1, by simp; omega, by simp, by simp⟩
theorem tok_suf (l : List UInt8) : (tokL l).1 = 6 ∨ ∃ m, m ≤ l.length ∧ ((tokL l).1 = 1 ∨ 0 < m) ∧ (tokL l).2.2 = l.drop m := by
  obtain ⟨n, h1, h2⟩ := skip_suf false l
  unfold tokL
  rw [h2]
  rcases tokS_suf (l.drop n) with h | ⟨m, h3, h4, h5⟩
  · exact .inl h
  · exact .inr ⟨n + m, by simp at h3; omega, by omega, by rw [h5, List.drop_drop]⟩
theorem tok_kind (l : List UInt8) : 1 ≤ (tokL l).1 ∧ (tokL l).1 ≤ 6 := by
  unfold tokL
  generalize skipL false l = k
  cases k with
  | nil => simp [tokS]
  | cons c r =>
    rw [tokS]
    repeat' split
    all_goals simp
abbrev Row := List (List UInt8) × Nat × Bool × List UInt8
def rowG : Nat → List UInt8 → List (List UInt8) → Nat → Option Row
  | 0, _,_,_ => none
  | f + 1, l, ws, b =>
    if (tokL l).1 = 1 then some (ws, b, true, (tokL l).2.2)
    else if (tokL l).1 = 2 then some (ws, b, false, (tokL l).2.2)
    else if (tokL l).1 = 6 ∨ b ≠ 0 then none
    else if (tokL l).1 = 5 then rowG f (tokL l).2.2 (ws ++ [(tokL l).2.1]) b
    else rowG f (tokL l).2.2 ws (tokL l).1
theorem tok_less {l : List UInt8} (h1 : (tokL l).1 ≠ 1) (h6 : (tokL l).1 ≠ 6) : (tokL l).2.2.length < l.length := by
  rcases tok_suf l with h | ⟨m, h, h', e⟩
  · exact absurd h h6
  · rw [e, List.length_drop]
    rcases h' with h' | h'
    · exact absurd h' h1
    · omega
def rowL (l : List UInt8) : Option Row := rowG (l.length + 1) l [] 0
theorem row_suf : ∀ (f : Nat) (l : List UInt8) ws b r, l.length < f → rowG f l ws b = some r → ∃ m, m ≤ l.length ∧ (r.2.2.1 = true ∨ 0 < m) ∧ r.2.2.2 = l.drop m
  | 0, l, _,_,_, h, _ => absurd h (by omega)
  | f + 1, l, ws, b, r, hf, h => by
    rw [rowG] at h
    split at h
    · rename_i h1
      simp at h
      subst h
      rcases tok_suf l with h | ⟨m, h2, h3, h4⟩
      · omega
      · exact ⟨m, h2, .inl rfl, h4⟩
    · split at h
      · rename_i h1 h2
        simp at h
        subst h
        rcases tok_suf l with h | ⟨m, h2, h3, h4⟩
        · omega
        · exact ⟨m, h2, by omega, h4⟩
      · split at h
        · simp at h
        · rename_i h1 h2 h6
          have hl := tok_less h1 (by omega)
          have hk : ∃ m, m ≤ l.length ∧ 0 < m ∧ (tokL l).2.2 = l.drop m := by
            rcases tok_suf l with h | ⟨m, h2, h3, h4⟩
            · omega
            · exact ⟨m, h2, by omega, h4⟩
          obtain ⟨m, m1, m2, m3⟩ := hk
          split at h
          all_goals
            obtain ⟨n, n1, n2, n3⟩ := row_suf f _ _ _ r (by omega) h
            refine ⟨m + n, ?_, .inr (by omega), ?_⟩
            · rw [m3] at n1; simp at n1; omega
            · rw [n3, m3, List.drop_drop]
abbrev Ln := List UInt8 × List (List UInt8) × Nat
def takeD (blk : List UInt8) (ws : List (List UInt8)) (b at_ : Nat) : Option (List UInt8 × List Ln) :=
  if b = 3 then (match ws with | [x] => if blk = [] ∧ x ≠ [] then some (x, []) else none | _ => none)
  else if b = 4 then (if blk ≠ [] ∧ ws = [] then some ([], []) else none)
  else match ws with
    | [] => some (blk, [])
    | x :: r => if blk ≠ [] then some (blk, [(blk, x :: r, at_)]) else if x = [] then none else some (blk, [(x, r, at_)])
abbrev Par := List Ln × Nat × Nat
def parG : Nat → List UInt8 → List UInt8 → List Ln → Nat → Par
  | 0, _,_,_,_ => ([], 0, 0)
  | f + 1, l, blk, out, k => match rowL l with
    | none => ([], k, 3)
    | some (ws, b, last, t) => match takeD blk ws b k with
      | none => ([], k, 3)
      | some (blk', x) => if last then (if blk' = [] then (out ++ x, 0, 0) else ([], k, 3)) else parG f t blk' (out ++ x) (k + 1)
def parL (l : List UInt8) : Par := parG (l.length + 1) l [] [] 1
end Go.Proofs.YtmhjdahmmdfbcaaGreatDoor.M
namespace Go.Proofs
open Go.Shelf
def Tryz.laysNm216_ren : Go.Shelf.Ren := ⟨fun | 16 => 86 | n => n, fun | 24 => 47 | 9 => 9 | 4 => 4 | n => n, fun | n => n⟩
theorem Tryz.laysNm216 : Go.Proofs.Lays2.n16 Tryz.prog Tryz.laysNm216_ren := {
  mixed := by kernel_rfl
  f16 := Tryz.func86.trans (congrArg some (by kernel_rfl))
  t4 := Tryz.underlying4
  a4 := Tryz.isAgg4
  z4 := Tryz.sizeOf4
  v4 := Tryz.zeroValue4
  t9 := Tryz.underlying9
  a9 := Tryz.isAgg9
  z9 := Tryz.sizeOf9
  v9 := Tryz.zeroValue9
  t24 := Tryz.underlying47
  a24 := Tryz.isAgg47
  z24 := Tryz.sizeOf47
  v24 := Tryz.zeroValue47
  i9 := by kernel_rfl }
open Go.RowKit Go.Lib in
/-- slices.Clone at []string: "Clone returns a copy of the slice. The elements are copied using assignment, so this is a shallow clone. The result may have additional unused capacity. The result preserves the nilness of s.": OF A SLICE THAT IS NOT nil IT RETURNS A SLICE THAT IS NOT nil, OF THE SAME ELEMENTS, IN MEMORY OF THE CALL's OWN: in the how-to's words (6f): 'w'.ownsRow B e 1 v' n cells': v' begins at the head of a row among the blocks from B on (B: the heap's size at the call), not frozen, whose first cells are the elements · 'Below B w w'': below B all is as it was. The capacity is whatever the run-time gives. 'zs': what the cells behind the slice's address hold; 'zs.take n': its elements. (LAID: no walk: one application.) -/
theorem Tryz.slices_Clone_string (b off n c : Nat) (zs : List ByteArray) (w : World) (hz : n ≤ zs.length) (hbig : n * 16 ≤ 140737488355328) (hc : ∀ j, j < zs.length → w.cell? ⟨b, off + j, none⟩ = some (.string (zs.getD j ByteArray.empty))) :
    Calls Tryz.prog 86 #[.slice (some ⟨b, off, none⟩) n c] w fun e w' => ∃ v', e = .returned v' ∧ w'.ownsRow w.heap.size 9 1 v' n ((zs.take n).map (Value.string)) ∧ v' ≠ .slice none 0 0 ∧ Below w.heap.size w w' := Any.slices_Clone_string Tryz.laysNm216 b off n c zs w hz hbig hc
open Go.RowKit Go.Lib in
/-- The same at a slice of length 0 that is not nil, WHATEVER ITS ADDRESS (no cell is asked for): a slice that is not nil and owns nothing comes back. (LAID: no walk: one application.) -/
theorem Tryz.slices_Clone_string_zero (a : Addr) (c : Nat) (w : World) :
    Calls Tryz.prog 86 #[.slice (some a) 0 c] w fun e w' => ∃ v', e = .returned v' ∧ w'.ownsRow w.heap.size 9 1 v' 0 [] ∧ v' ≠ .slice none 0 0 ∧ Below w.heap.size w w' := Any.slices_Clone_string_zero Tryz.laysNm216 a c w
end Go.Proofs
namespace Go.Proofs.YtmhjdahmmdfbcaaGreatDoor.M
open Go.RowKit
theorem hidM {p : Prop} (h : p) : Hid p := h
theorem ret_int {k : IntKind} {a b : Int} (h : a = b) : Ending.returned (.int k a) = .returned (.int k b) := by rw [h]
theorem ret_bool {a b : Bool} (h : a = b) : Ending.returned (.bool a) = .returned (.bool b) := by rw [h]
/-- Only block b has turned. -/
structure Only (b : Nat) (w w' : World) : Prop where
  os : w'.os = w.os
  tape : w'.tape = w.tape
  output : w'.output = w.output
  size : w'.heap.size = w.heap.size
  block : ∀ k, k ≠ b → w'.heap[k]? = w.heap[k]?
theorem Only.refl (b : Nat) (w : World) : Only b w w := ⟨rfl, rfl, rfl, rfl, fun _ _ => rfl⟩
theorem Only.trans {b : Nat} {u v w : World} (h : Only b u v) (k : Only b v w) : Only b u w :=
  ⟨k.os.trans h.os, k.tape.trans h.tape, k.output.trans h.output, k.size.trans h.size, fun n hn => (k.block n hn).trans (h.block n hn)⟩
theorem Only.drewN {b : Nat} {w w' : World} (h : Only b w w') (n : Nat) : Only b w (w'.drewN n) := ⟨h.os, h.tape, h.output, h.size, h.block⟩
theorem Only.setCell {b : Nat} {w w' : World} (h : Only b w w') (o : Nat) (v : Value) : Only b w (w'.setCell ⟨b, o, none⟩ v) :=
  ⟨h.os, h.tape, h.output, by rw [← h.size]; simp [World.setCell], fun k hk => (Below.heap_setCell w' ⟨b, o, none⟩ v k hk).trans (h.block k hk)⟩
theorem Only.below {b B : Nat} {w w' : World} (h : Only b w w') (hB : B ≤ b) : Below B w w' :=
  ⟨h.os, h.tape, h.output, by rw [h.size]; exact Nat.le_refl _, fun k hk => h.block k (by omega)⟩
/-- A lexer's box: the text, and how many bytes are taken. -/
def RBox (w : World) (b : Nat) (s : ByteArray) (t : Nat) : Prop := w.heap[b]? = some (.cells #[.string s, .int .i64 (t : Int)] 82 (0, 0))
theorem RBox.text {w : World} {b : Nat} {s : ByteArray} {t : Nat} (h : RBox w b s t) : w.cell? ⟨b, 0, none⟩ = some (.string s) := by
  rw [cell_of_row w b _ _ 82 (0, 0) h]; rfl
theorem RBox.taken {w : World} {b : Nat} {s : ByteArray} {t : Nat} (h : RBox w b s t) : w.cell? ⟨b, 1, none⟩ = some (.int .i64 (t : Int)) := by
  rw [cell_of_row w b _ _ 82 (0, 0) h]; rfl
theorem RBox.frozen {w : World} {b : Nat} {s : ByteArray} {t : Nat} (h : RBox w b s t) (j : Nat) : w.frozen? ⟨b, j, none⟩ = false := frozen_of_row w b j _ 82 h
theorem RBox.set {w : World} {b : Nat} {s : ByteArray} {t : Nat} (h : RBox w b s t) (m : Nat) : RBox (w.setCell ⟨b, 1, none⟩ (.int .i64 (m : Int))) b s m := by
  unfold RBox
  rw [heap_setCell_same w b _ _ 82 _ h]
  rfl
theorem RBox.same {w w' : World} {b : Nat} {s : ByteArray} {t : Nat} (h : RBox w b s t) (hh : w'.heap[b]? = w.heap[b]?) : RBox w' b s t := by
  unfold RBox; rw [hh]; exact h
theorem RBox.lt {w : World} {b : Nat} {s : ByteArray} {t : Nat} (h : RBox w b s t) : b < w.heap.size := by
  unfold RBox at h
  exact (Array.getElem?_eq_some_iff.1 h).1
theorem RBox.drewN {w : World} {b : Nat} {s : ByteArray} {t : Nat} (h : RBox w b s t) (n : Nat) : RBox (w.drewN n) b s t := h
theorem RBox.below {w w' : World} {B b : Nat} {s : ByteArray} {t : Nat} (h : RBox w b s t) (hb : Below B w w') (hB : b < B) : RBox w' b s t := h.same (hb.block b hB)
/-- what stands behind the first t bytes -/
def restL (s : ByteArray) (t : Nat) : List UInt8 := s.data.toList.drop t
/-- the byte that comes next; -1: none -/
def headI : List UInt8 → Int
  | [] => -1
  | c :: _ => (c.toNat : Int)
theorem rest_nil {s : ByteArray} {t : Nat} (h : restL s t = []) (ht : t ≤ s.size) : t = s.size := by
  have : s.data.toList.length ≤ t := by simpa [restL] using h
  rw [Array.length_toList] at this
  exact Nat.le_antisymm ht this
theorem rest_cons {s : ByteArray} {t : Nat} {c : UInt8} {r : List UInt8} (h : restL s t = c :: r) : ∃ hl : t < s.size, s[t] = c ∧ restL s (t + 1) = r := by
  unfold restL at h ⊢
  have hl : t < s.data.toList.length := by
    apply Classical.byContradiction; intro hn
    rw [List.drop_eq_nil_of_le (by omega)] at h; cases h
  rw [List.drop_eq_getElem_cons hl] at h
  simp only [List.cons.injEq] at h
  rw [Array.length_toList] at hl
  exact ⟨hl, h.1, h.2⟩
theorem rest_len (s : ByteArray) (t : Nat) : (restL s t).length = s.size - t := by
  unfold restL
  rw [List.length_drop, Array.length_toList]; rfl
theorem Only.quiet {b : Nat} {w : World} (n : Nat) : Only b w (w.drewN n) := ⟨rfl, rfl, rfl, rfl, fun _ _ => rfl⟩
set_option maxHeartbeats 400000 in
theorem look_any (b : Nat) (s : ByteArray) (t : Nat) (w : World) (h : RBox w b s t) (_hs : s.size ≤ 1000000) (ht : t ≤ s.size) :
    Calls Tryz.prog 111 #[.pointer (some ⟨b, 0, none⟩)] w fun e w' => e = .returned (.int .i64 (headI (restL s t))) ∧ ∃ n, w' = w.drewN n := by
  have h1 := h.text
  have h2 := h.taken
  cases hr : restL s t with
  | nil =>
    have := rest_nil hr ht
    subst this
    go_enter Tryz.func111, Tryz.ntmps111
    go_wp2
    go_quiet (fail)
    go_wp2
    go_ret
    exact ⟨rfl, _, rfl⟩
  | cons c r =>
    obtain ⟨hl, hc, _⟩ := rest_cons hr
    have e0 : ((t : Int) == (s.size : Int)) = false := by simp; omega
    have k5 : s[t].toNat < 256 := s[t].toNat_lt
    go_enter Tryz.func111, Tryz.ntmps111
    go_wp2
    go_quiet (fail)
    go_wp2
    go_quiet (fail)
    go_wp2
    go_ret
    refine ⟨ret_int ?_,_, World.drewN_drewN _ _ _⟩
    simp only [headI, ← hc]
    generalize s[t].toNat = q at *
    unfold wrap64
    omega
set_option maxHeartbeats 400000 in
theorem take_any (b : Nat) (s : ByteArray) (t : Nat) (w : World) (h : RBox w b s t) (hs : s.size ≤ 1000000) (ht : t ≤ s.size) :
    Calls Tryz.prog 108 #[.pointer (some ⟨b, 0, none⟩)] w fun e w' => e = .returned (.int .i64 (headI (restL s t))) ∧ RBox w' b s (if t < s.size then t + 1 else t) ∧ Only b w w' := by
  have HL := hidM (look_any b s t w h hs ht)
  have HB := hidM h
  cases hr : restL s t with
  | nil =>
    have hn : ¬ t < s.size := by have := rest_nil hr ht; omega
    rw [hr] at HL
    rw [if_neg hn]
    clear h
    go_enter Tryz.func108, Tryz.ntmps108
    go_wp2_with fail
    refine HL.out.mono ?_
    rintro _ _ ⟨rfl, n, rfl⟩
    simp only [headI]
    go_wp2
    go_ret
    exact ⟨rfl, HB.out.drewN n, Only.quiet n⟩
  | cons c r =>
    obtain ⟨hl, hc, _⟩ := rest_cons hr
    rw [hr] at HL
    rw [if_pos hl]
    have k5 : c.toNat < 256 := c.toNat_lt
    have hne : ((c.toNat : Int) != -1) = true := by simp
    clear h
    go_enter Tryz.func108, Tryz.ntmps108
    go_wp2_with fail
    refine HL.out.mono ?_
    rintro _ _ ⟨rfl, n, rfl⟩
    simp only [headI]
    have h1 := (HB.out.drewN n).taken
    have h2 := (HB.out.drewN n).frozen 1
    go_wp2
    go_ret
    exact ⟨rfl, (HB.out.drewN n).set (t + 1), (Only.quiet n).setCell _ _⟩
theorem rem_prefix (s : ByteArray) (t : Nat) : Lib.hasPrefix (s.extract t s.size).data.toList [47, 47] = remB (restL s t) := by
  have h : (s.extract t s.size).data.toList = restL s t := by
    rw [Lib.extract_data]
    unfold restL
    rw [List.take_of_length_le]
    rw [List.length_drop, Array.length_toList]
    exact Nat.le_refl _
  rw [h, ← Lib.hasPrefix_of_take]
  unfold remB
  by_cases hl : 2 ≤ (restL s t).length
  · simp [hl]
  · have : (restL s t).take 2 ≠ [47, 47] := by
      intro h2
      have := congrArg List.length h2
      simp at this
      omega
    simp [hl, this]
set_option maxHeartbeats 400000 in
theorem remark_any (b : Nat) (s : ByteArray) (t : Nat) (w : World) (h : RBox w b s t) (ht : t ≤ s.size) :
    Calls Tryz.prog 107 #[.pointer (some ⟨b, 0, none⟩)] w fun e w' => e = .returned (.bool (remB (restL s t))) ∧ ∃ n, w' = w.drewN n := by
  have h1 := h.text
  have h2 := h.taken
  have HP := hidM (fun V => Tryz.strings_HasPrefix (s.extract t s.size) ⟨#[47, 47]⟩ V)
  have HR := rem_prefix s t
  rw [show (⟨#[47, 47]⟩ : ByteArray).data.toList = [47, 47] from rfl, HR] at HP
  clear HR
  generalize remB (restL s t) = rb at *
  go_enter Tryz.func107, Tryz.ntmps107
  go_wp2
  go_quiet ((go_at_call 81; with_reducible exact Calls.quiet_of_same (HP.out _)))
  go_wp2
  go_ret
  exact ⟨rfl, _, rfl⟩
/-- is what comes next no more of a word? -/
theorem wEnd_head (l : List UInt8) : wEnd l = (headI l == -1 || headI l == 10 || headI l == 32 || headI l == 9 || headI l == 13 || headI l == 40 || headI l == 41 || headI l == 34 || headI l == 96 || remB l) := by
  cases l with
  | nil => rfl
  | cons c r =>
    have h : ∀ k : UInt8, ((c.toNat : Int) == (k.toNat : Int)) = (c == k) := fun k => by
      rw [Bool.eq_iff_iff]
      simp only [beq_iff_eq]
      constructor
      · intro h; exact UInt8.toNat_inj.1 (by omega)
      · intro h; rw [h]
    have h1 := h 10
    have h2 := h 32
    have h3 := h 9
    have h4 := h 13
    have h5 := h 40
    have h6 := h 41
    have h7 := h 34
    have h8 := h 96
    simp only [show ((10 : UInt8).toNat : Int) = 10 from rfl, show ((32 : UInt8).toNat : Int) = 32 from rfl, show ((9 : UInt8).toNat : Int) = 9 from rfl, show ((13 : UInt8).toNat : Int) = 13 from rfl, show ((40 : UInt8).toNat : Int) = 40 from rfl, show ((41 : UInt8).toNat : Int) = 41 from rfl, show ((34 : UInt8).toNat : Int) = 34 from rfl, show ((96 : UInt8).toNat : Int) = 96 from rfl] at h1 h2 h3 h4 h5 h6 h7 h8
    have h0 : ((c.toNat : Int) == -1) = false := by simp
    simp only [headI, wEnd, blkB, h0, h1, h2, h3, h4, h5, h6, h7, h8, Bool.false_or, Bool.or_assoc]
set_option maxHeartbeats 1000000 in
theorem wordEnds_any (b : Nat) (s : ByteArray) (t : Nat) (w : World) (h : RBox w b s t) (hs : s.size ≤ 1000000) (ht : t ≤ s.size) :
    Calls Tryz.prog 109 #[.pointer (some ⟨b, 0, none⟩)] w fun e w' => e = .returned (.bool (wEnd (restL s t))) ∧ ∃ n, w' = w.drewN n := by
  have HL := hidM (look_any b s t w h hs ht)
  have HR := hidM (fun n => remark_any b s t (w.drewN n) (h.drewN n) ht)
  have HE := hidM (wEnd_head (restL s t))
  generalize headI (restL s t) = k at *
  generalize remB (restL s t) = rb at *
  generalize wEnd (restL s t) = we at *
  clear h
  go_enter Tryz.func109, Tryz.ntmps109
  go_wp2_with fail
  refine HL.out.mono ?_
  rintro _ _ ⟨rfl, n, rfl⟩
  obtain ⟨a, ha⟩ : ∃ a : Bool, a = (k == -1 || k == 10 || k == 32 || k == 9 || k == 13 || k == 40 || k == 41 || k == 34 || k == 96) := ⟨_, rfl⟩
  have HE2 := HE.out
  rw [← ha] at HE2
  cases a with
  | true =>
    rw [Bool.true_or] at HE2
    subst HE2
    have hk : k = -1 ∨ k = 10 ∨ k = 32 ∨ k = 9 ∨ k = 13 ∨ k = 40 ∨ k = 41 ∨ k = 34 ∨ k = 96 := by simpa [or_assoc] using ha.symm
    clear ha HE
    rcases hk with rfl | rfl | rfl | rfl | rfl | rfl | rfl | rfl | rfl
    all_goals
      go_wp2_with fail
      go_ret
      exact ⟨rfl, _, rfl⟩
  | false =>
    rw [Bool.false_or] at HE2
    subst HE2
    have hk := ha.symm
    simp only [Bool.or_eq_false_iff] at hk
    obtain ⟨⟨⟨⟨⟨⟨⟨⟨b0, b1⟩, b2⟩, b3⟩, b4⟩, b5⟩, b6⟩, b7⟩, b8⟩ := hk
    clear ha HE
    go_wp2_with fail
    refine (HR.out n).mono ?_
    rintro _ _ ⟨rfl, m, rfl⟩
    go_wp2
    go_ret
    exact ⟨rfl, _, rfl⟩
/-- what a byte behind a backslash says; -1: nothing -/
def mntI (k : Int) : Int := if k = 34 ∨ k = 92 then k else if k = 110 then 10 else if k = 116 then 9 else -1
set_option maxHeartbeats 400000 in
theorem meant_any (k : Int) (w : World) : Calls Tryz.prog 112 #[.int .i64 k] w fun e w' => e = .returned (.int .i64 (mntI k)) ∧ w' = w := by
  unfold mntI
  by_cases h1 : k = 34
  · subst h1
    go_enter Tryz.func112, Tryz.ntmps112
    go_wp2
    go_ret
    exact ⟨rfl, rfl⟩
  · by_cases h2 : k = 92
    · subst h2
      go_enter Tryz.func112, Tryz.ntmps112
      go_wp2
      go_ret
      exact ⟨rfl, rfl⟩
    · by_cases h3 : k = 110
      · subst h3
        go_enter Tryz.func112, Tryz.ntmps112
        go_wp2
        go_ret
        exact ⟨rfl, rfl⟩
      · by_cases h4 : k = 116
        · subst h4
          go_enter Tryz.func112, Tryz.ntmps112
          go_wp2
          go_ret
          exact ⟨rfl, rfl⟩
        · rw [if_neg (by omega), if_neg h3, if_neg h4]
          have b1 : (k == 34) = false := by simpa using h1
          have b2 : (k == 92) = false := by simpa using h2
          have b3 : (k == 110) = false := by simpa using h3
          have b4 : (k == 116) = false := by simpa using h4
          go_enter Tryz.func112, Tryz.ntmps112
          go_wp2
          go_ret
          exact ⟨rfl, rfl⟩
end Go.Proofs.YtmhjdahmmdfbcaaGreatDoor.M
namespace Go.Proofs.YtmhjdahmmdfbcaaGreatDoor.M
open Go.RowKit
/-- the parts between the slashes -/
def partsL : List UInt8 → List (List UInt8)
  | [] => [[]]
  | c :: l => if c = 47 then [] :: partsL l else match partsL l with
    | h :: t => (c :: h) :: t
    | [] => [[c]]
theorem partsL_ne (l : List UInt8) : partsL l ≠ [] := by
  cases l with
  | nil => simp [partsL]
  | cons c l =>
    unfold partsL
    split
    · simp
    · split <;> simp
theorem partsL_cons (c : UInt8) (l : List UInt8) : partsL (c :: l) = if c = 47 then [] :: partsL l else match partsL l with
    | h :: t => (c :: h) :: t
    | [] => [[c]] := rfl
theorem partsL_app (a b : List UInt8) : partsL (a ++ 47 :: b) = partsL a ++ partsL b := by
  induction a with
  | nil => simp [partsL]
  | cons c a ih =>
    rw [List.cons_append, partsL_cons, partsL_cons c a]
    by_cases hc : c = 47
    · rw [if_pos hc, if_pos hc, ih]; rfl
    · rw [if_neg hc, if_neg hc, ih]
      cases hp : partsL a with
      | nil => exact absurd hp (partsL_ne a)
      | cons h t => rfl
theorem partsL_none (l : List UInt8) (h : (47 : UInt8) ∉ l) : partsL l = [l] := by
  induction l with
  | nil => rfl
  | cons c l ih =>
    unfold partsL
    rw [if_neg (fun e => h (by simp [e])), ih (fun e => h (List.mem_cons_of_mem _ e))]
theorem parts_mem (l : List UInt8) (c : UInt8) (h : c ∈ l) : c = 47 ∨ ∃ p ∈ partsL l, c ∈ p := by
  induction l with
  | nil => simp at h
  | cons d l ih =>
    rw [partsL_cons]
    by_cases hd : d = 47
    · rw [if_pos hd]
      rcases List.mem_cons.1 h with rfl | h
      · exact .inl hd
      · rcases ih h with h | ⟨p, hp, hc⟩
        · exact .inl h
        · exact .inr ⟨p, List.mem_cons_of_mem _ hp, hc⟩
    · rw [if_neg hd]
      cases hp : partsL l with
      | nil => exact absurd hp (partsL_ne l)
      | cons x t =>
        simp only
        rcases List.mem_cons.1 h with rfl | h
        · exact .inr ⟨c :: x, by simp, by simp⟩
        · rcases ih h with h | ⟨p, hq, hc⟩
          · exact .inl h
          · rw [hp] at hq
            rcases List.mem_cons.1 hq with rfl | hq
            · exact .inr ⟨d :: p, by simp, List.mem_cons_of_mem _ hc⟩
            · exact .inr ⟨p, by simp [hq], hc⟩
def fstB (c : UInt8) : Bool := (decide (97 ≤ c.toNat) && decide (c.toNat ≤ 122)) || (decide (48 ≤ c.toNat) && decide (c.toNat ≤ 57)) || c.toNat == 45 || c.toNat == 46
def plnB (c : UInt8) : Bool := fstB c || (decide (65 ≤ c.toNat) && decide (c.toNat ≤ 90)) || c.toNat == 95 || c.toNat == 126
/-- something, with no full stop at either end -/
def bndL (p : List UInt8) : Bool := !p.isEmpty && !(p.head? == some 46) && !(p.getLast? == some 46)
def fstP (p : List UInt8) : Bool := bndL p && p.all fstB && p.contains 46 && !(p.head? == some 45)
def othP (p : List UInt8) : Bool := bndL p && p.all plnB
/-- is it a module's path? -/
def pathL (l : List UInt8) : Bool := decide (l.length ≤ 200) && match partsL l with
  | [] => false
  | p :: ps => fstP p && ps.all othP
theorem fst_pln {c : UInt8} (h : fstB c = true) : plnB c = true := by unfold plnB; simp [h]
theorem fst_oth {p : List UInt8} (h : fstP p = true) : othP p = true := by
  unfold fstP at h
  unfold othP
  simp only [Bool.and_eq_true] at h ⊢
  exact ⟨h.1.1.1, by rw [List.all_eq_true]; intro c hc; exact fst_pln (List.all_eq_true.1 h.1.1.2 c hc)⟩
theorem path_parts {l : List UInt8} (h : pathL l = true) : l.length ≤ 200 ∧ ∀ p ∈ partsL l, othP p = true := by
  unfold pathL at h
  cases hq : partsL l with
  | nil => exact absurd hq (partsL_ne _)
  | cons x t =>
    rw [hq] at h
    simp only [Bool.and_eq_true, decide_eq_true_eq] at h
    refine ⟨h.1, fun p hp => ?_⟩
    rcases List.mem_cons.1 hp with rfl | hp
    · exact fst_oth h.2.1
    · exact List.all_eq_true.1 h.2.2 p hp
theorem path_bytes {l : List UInt8} (h : pathL l = true) : ∀ c ∈ l, c = 47 ∨ plnB c = true := by
  intro c hc
  rcases parts_mem l c hc with h1 | ⟨p, hp, hcp⟩
  · exact .inl h1
  · have := (path_parts h).2 p hp
    unfold othP at this
    simp only [Bool.and_eq_true] at this
    exact .inr (List.all_eq_true.1 this.2 c hcp)
end Go.Proofs.YtmhjdahmmdfbcaaGreatDoor.M
namespace Go.Proofs.YtmhjdahmmdfbcaaGreatDoor.M
open Go.RowKit
theorem fstB_of (c : UInt8) : fstB c = ((decide (97 ≤ c.toNat) && decide (c.toNat ≤ 122)) || (decide (48 ≤ c.toNat) && decide (c.toNat ≤ 57)) || c.toNat == 45 || c.toNat == 46) := rfl
set_option maxHeartbeats 1000000 in
set_option maxRecDepth 100000 in
theorem firstByte_any (c : UInt8) (w : World) : Calls Tryz.prog 79 #[.int .u8 (c.toNat : Int)] w fun e w' => e = .returned (.bool (fstB c)) ∧ w' = w := by
  rw [fstB_of]
  have hn := c.toNat_lt
  generalize c.toNat = n at *
  rcases (show (0 ≤ n ∧ n ≤ 44) ∨ (45 ≤ n ∧ n ≤ 45) ∨ (46 ≤ n ∧ n ≤ 46) ∨ (47 ≤ n ∧ n ≤ 47) ∨ (48 ≤ n ∧ n ≤ 57) ∨ (58 ≤ n ∧ n ≤ 96) ∨ (97 ≤ n ∧ n ≤ 122) ∨ (123 ≤ n ∧ n ≤ 255) by omega) with h | h | h | h | h | h | h | h
  · obtain ⟨h1, h2⟩ := h
    have b0 : decide ((97 : Int) ≤ (n : Int)) = false := by simp; omega
    have b1 : decide ((n : Int) ≤ 122) = true := by simp; omega
    have b2 : decide ((48 : Int) ≤ (n : Int)) = false := by simp; omega
    have b3 : decide ((n : Int) ≤ 57) = true := by simp; omega
    have q0 : ((n : Int) == 45) = false := by simp; omega
    have q1 : ((n : Int) == 46) = false := by simp; omega
    have HR : Hid (((decide (97 ≤ n) && decide (n ≤ 122)) || (decide (48 ≤ n) && decide (n ≤ 57)) || n == 45 || n == 46) = false) := by
      unfold Hid; rw [Bool.eq_iff_iff]; simp; omega
    clear h1 h2 hn
    go_enter Tryz.func79, Tryz.ntmps79
    go_wp2
    go_ret
    exact ⟨by rw [HR.out]; rfl, rfl⟩
  · obtain ⟨h1, h2⟩ := h
    have b0 : decide ((97 : Int) ≤ (n : Int)) = false := by simp; omega
    have b1 : decide ((n : Int) ≤ 122) = true := by simp; omega
    have b2 : decide ((48 : Int) ≤ (n : Int)) = false := by simp; omega
    have b3 : decide ((n : Int) ≤ 57) = true := by simp; omega
    have q0 : ((n : Int) == 45) = true := by simp; omega
    have q1 : ((n : Int) == 46) = false := by simp; omega
    have HR : Hid (((decide (97 ≤ n) && decide (n ≤ 122)) || (decide (48 ≤ n) && decide (n ≤ 57)) || n == 45 || n == 46) = true) := by
      unfold Hid; rw [Bool.eq_iff_iff]; simp; omega
    clear h1 h2 hn
    go_enter Tryz.func79, Tryz.ntmps79
    go_wp2
    go_ret
    exact ⟨by rw [HR.out]; rfl, rfl⟩
  · obtain ⟨h1, h2⟩ := h
    have b0 : decide ((97 : Int) ≤ (n : Int)) = false := by simp; omega
    have b1 : decide ((n : Int) ≤ 122) = true := by simp; omega
    have b2 : decide ((48 : Int) ≤ (n : Int)) = false := by simp; omega
    have b3 : decide ((n : Int) ≤ 57) = true := by simp; omega
    have q0 : ((n : Int) == 45) = false := by simp; omega
    have q1 : ((n : Int) == 46) = true := by simp; omega
    have HR : Hid (((decide (97 ≤ n) && decide (n ≤ 122)) || (decide (48 ≤ n) && decide (n ≤ 57)) || n == 45 || n == 46) = true) := by
      unfold Hid; rw [Bool.eq_iff_iff]; simp; omega
    clear h1 h2 hn
    go_enter Tryz.func79, Tryz.ntmps79
    go_wp2
    go_ret
    exact ⟨by rw [HR.out]; rfl, rfl⟩
  · obtain ⟨h1, h2⟩ := h
    have b0 : decide ((97 : Int) ≤ (n : Int)) = false := by simp; omega
    have b1 : decide ((n : Int) ≤ 122) = true := by simp; omega
    have b2 : decide ((48 : Int) ≤ (n : Int)) = false := by simp; omega
    have b3 : decide ((n : Int) ≤ 57) = true := by simp; omega
    have q0 : ((n : Int) == 45) = false := by simp; omega
    have q1 : ((n : Int) == 46) = false := by simp; omega
    have HR : Hid (((decide (97 ≤ n) && decide (n ≤ 122)) || (decide (48 ≤ n) && decide (n ≤ 57)) || n == 45 || n == 46) = false) := by
      unfold Hid; rw [Bool.eq_iff_iff]; simp; omega
    clear h1 h2 hn
    go_enter Tryz.func79, Tryz.ntmps79
    go_wp2
    go_ret
    exact ⟨by rw [HR.out]; rfl, rfl⟩
  · obtain ⟨h1, h2⟩ := h
    have b0 : decide ((97 : Int) ≤ (n : Int)) = false := by simp; omega
    have b1 : decide ((n : Int) ≤ 122) = true := by simp; omega
    have b2 : decide ((48 : Int) ≤ (n : Int)) = true := by simp; omega
    have b3 : decide ((n : Int) ≤ 57) = true := by simp; omega
    have q0 : ((n : Int) == 45) = false := by simp; omega
    have q1 : ((n : Int) == 46) = false := by simp; omega
    have HR : Hid (((decide (97 ≤ n) && decide (n ≤ 122)) || (decide (48 ≤ n) && decide (n ≤ 57)) || n == 45 || n == 46) = true) := by
      unfold Hid; rw [Bool.eq_iff_iff]; simp; omega
    clear h1 h2 hn
    go_enter Tryz.func79, Tryz.ntmps79
    go_wp2
    go_ret
    exact ⟨by rw [HR.out]; rfl, rfl⟩
  · obtain ⟨h1, h2⟩ := h
    have b0 : decide ((97 : Int) ≤ (n : Int)) = false := by simp; omega
    have b1 : decide ((n : Int) ≤ 122) = true := by simp; omega
    have b2 : decide ((48 : Int) ≤ (n : Int)) = true := by simp; omega
    have b3 : decide ((n : Int) ≤ 57) = false := by simp; omega
    have q0 : ((n : Int) == 45) = false := by simp; omega
    have q1 : ((n : Int) == 46) = false := by simp; omega
    have HR : Hid (((decide (97 ≤ n) && decide (n ≤ 122)) || (decide (48 ≤ n) && decide (n ≤ 57)) || n == 45 || n == 46) = false) := by
      unfold Hid; rw [Bool.eq_iff_iff]; simp; omega
    clear h1 h2 hn
    go_enter Tryz.func79, Tryz.ntmps79
    go_wp2
    go_ret
    exact ⟨by rw [HR.out]; rfl, rfl⟩
  · obtain ⟨h1, h2⟩ := h
    have b0 : decide ((97 : Int) ≤ (n : Int)) = true := by simp; omega
    have b1 : decide ((n : Int) ≤ 122) = true := by simp; omega
    have b2 : decide ((48 : Int) ≤ (n : Int)) = true := by simp; omega
    have b3 : decide ((n : Int) ≤ 57) = false := by simp; omega
    have q0 : ((n : Int) == 45) = false := by simp; omega
    have q1 : ((n : Int) == 46) = false := by simp; omega
    have HR : Hid (((decide (97 ≤ n) && decide (n ≤ 122)) || (decide (48 ≤ n) && decide (n ≤ 57)) || n == 45 || n == 46) = true) := by
      unfold Hid; rw [Bool.eq_iff_iff]; simp; omega
    clear h1 h2 hn
    go_enter Tryz.func79, Tryz.ntmps79
    go_wp2
    go_ret
    exact ⟨by rw [HR.out]; rfl, rfl⟩
  · obtain ⟨h1, h2⟩ := h
    have b0 : decide ((97 : Int) ≤ (n : Int)) = true := by simp; omega
    have b1 : decide ((n : Int) ≤ 122) = false := by simp; omega
    have b2 : decide ((48 : Int) ≤ (n : Int)) = true := by simp; omega
    have b3 : decide ((n : Int) ≤ 57) = false := by simp; omega
    have q0 : ((n : Int) == 45) = false := by simp; omega
    have q1 : ((n : Int) == 46) = false := by simp; omega
    have HR : Hid (((decide (97 ≤ n) && decide (n ≤ 122)) || (decide (48 ≤ n) && decide (n ≤ 57)) || n == 45 || n == 46) = false) := by
      unfold Hid; rw [Bool.eq_iff_iff]; simp; omega
    clear h1 h2 hn
    go_enter Tryz.func79, Tryz.ntmps79
    go_wp2
    go_ret
    exact ⟨by rw [HR.out]; rfl, rfl⟩
theorem plnB_of (c : UInt8) : plnB c = (fstB c || (decide (65 ≤ c.toNat) && decide (c.toNat ≤ 90)) || c.toNat == 95 || c.toNat == 126) := rfl
set_option maxHeartbeats 1000000 in
set_option maxRecDepth 100000 in
theorem plainByte_any (c : UInt8) (w : World) : Calls Tryz.prog 55 #[.int .u8 (c.toNat : Int)] w fun e w' => e = .returned (.bool (plnB c)) ∧ w' = w := by
  rw [plnB_of]
  have hn := c.toNat_lt
  have HF := hidM (firstByte_any c w)
  generalize fstB c = B at *
  generalize c.toNat = n at *
  cases B with
  | true =>
    go_enter Tryz.func55, Tryz.ntmps55
    go_wp2_with (go_at_call 79; with_reducible refine HF.out.mono ?_; rintro _ _ ⟨rfl, rfl⟩)
    go_ret
    exact ⟨rfl, rfl⟩
  | false =>
    rcases (show (0 ≤ n ∧ n ≤ 64) ∨ (65 ≤ n ∧ n ≤ 90) ∨ (91 ≤ n ∧ n ≤ 94) ∨ (95 ≤ n ∧ n ≤ 95) ∨ (96 ≤ n ∧ n ≤ 125) ∨ (126 ≤ n ∧ n ≤ 126) ∨ (127 ≤ n ∧ n ≤ 255) by omega) with h | h | h | h | h | h | h
    · obtain ⟨h1, h2⟩ := h
      have b0 : decide ((65 : Int) ≤ (n : Int)) = false := by simp; omega
      have b1 : decide ((n : Int) ≤ 90) = true := by simp; omega
      have q0 : ((n : Int) == 95) = false := by simp; omega
      have q1 : ((n : Int) == 126) = false := by simp; omega
      have HR : Hid ((false || (decide (65 ≤ n) && decide (n ≤ 90)) || n == 95 || n == 126) = false) := by
        unfold Hid; rw [Bool.eq_iff_iff]; simp; omega
      clear h1 h2 hn
      go_enter Tryz.func55, Tryz.ntmps55
      go_wp2_with (go_at_call 79; with_reducible refine HF.out.mono ?_; rintro _ _ ⟨rfl, rfl⟩)
      go_ret
      exact ⟨by rw [HR.out]; rfl, rfl⟩
    · obtain ⟨h1, h2⟩ := h
      have b0 : decide ((65 : Int) ≤ (n : Int)) = true := by simp; omega
      have b1 : decide ((n : Int) ≤ 90) = true := by simp; omega
      have q0 : ((n : Int) == 95) = false := by simp; omega
      have q1 : ((n : Int) == 126) = false := by simp; omega
      have HR : Hid ((false || (decide (65 ≤ n) && decide (n ≤ 90)) || n == 95 || n == 126) = true) := by
        unfold Hid; rw [Bool.eq_iff_iff]; simp; omega
      clear h1 h2 hn
      go_enter Tryz.func55, Tryz.ntmps55
      go_wp2_with (go_at_call 79; with_reducible refine HF.out.mono ?_; rintro _ _ ⟨rfl, rfl⟩)
      go_ret
      exact ⟨by rw [HR.out]; rfl, rfl⟩
    · obtain ⟨h1, h2⟩ := h
      have b0 : decide ((65 : Int) ≤ (n : Int)) = true := by simp; omega
      have b1 : decide ((n : Int) ≤ 90) = false := by simp; omega
      have q0 : ((n : Int) == 95) = false := by simp; omega
      have q1 : ((n : Int) == 126) = false := by simp; omega
      have HR : Hid ((false || (decide (65 ≤ n) && decide (n ≤ 90)) || n == 95 || n == 126) = false) := by
        unfold Hid; rw [Bool.eq_iff_iff]; simp; omega
      clear h1 h2 hn
      go_enter Tryz.func55, Tryz.ntmps55
      go_wp2_with (go_at_call 79; with_reducible refine HF.out.mono ?_; rintro _ _ ⟨rfl, rfl⟩)
      go_ret
      exact ⟨by rw [HR.out]; rfl, rfl⟩
    · obtain ⟨h1, h2⟩ := h
      have b0 : decide ((65 : Int) ≤ (n : Int)) = true := by simp; omega
      have b1 : decide ((n : Int) ≤ 90) = false := by simp; omega
      have q0 : ((n : Int) == 95) = true := by simp; omega
      have q1 : ((n : Int) == 126) = false := by simp; omega
      have HR : Hid ((false || (decide (65 ≤ n) && decide (n ≤ 90)) || n == 95 || n == 126) = true) := by
        unfold Hid; rw [Bool.eq_iff_iff]; simp; omega
      clear h1 h2 hn
      go_enter Tryz.func55, Tryz.ntmps55
      go_wp2_with (go_at_call 79; with_reducible refine HF.out.mono ?_; rintro _ _ ⟨rfl, rfl⟩)
      go_ret
      exact ⟨by rw [HR.out]; rfl, rfl⟩
    · obtain ⟨h1, h2⟩ := h
      have b0 : decide ((65 : Int) ≤ (n : Int)) = true := by simp; omega
      have b1 : decide ((n : Int) ≤ 90) = false := by simp; omega
      have q0 : ((n : Int) == 95) = false := by simp; omega
      have q1 : ((n : Int) == 126) = false := by simp; omega
      have HR : Hid ((false || (decide (65 ≤ n) && decide (n ≤ 90)) || n == 95 || n == 126) = false) := by
        unfold Hid; rw [Bool.eq_iff_iff]; simp; omega
      clear h1 h2 hn
      go_enter Tryz.func55, Tryz.ntmps55
      go_wp2_with (go_at_call 79; with_reducible refine HF.out.mono ?_; rintro _ _ ⟨rfl, rfl⟩)
      go_ret
      exact ⟨by rw [HR.out]; rfl, rfl⟩
    · obtain ⟨h1, h2⟩ := h
      have b0 : decide ((65 : Int) ≤ (n : Int)) = true := by simp; omega
      have b1 : decide ((n : Int) ≤ 90) = false := by simp; omega
      have q0 : ((n : Int) == 95) = false := by simp; omega
      have q1 : ((n : Int) == 126) = true := by simp; omega
      have HR : Hid ((false || (decide (65 ≤ n) && decide (n ≤ 90)) || n == 95 || n == 126) = true) := by
        unfold Hid; rw [Bool.eq_iff_iff]; simp; omega
      clear h1 h2 hn
      go_enter Tryz.func55, Tryz.ntmps55
      go_wp2_with (go_at_call 79; with_reducible refine HF.out.mono ?_; rintro _ _ ⟨rfl, rfl⟩)
      go_ret
      exact ⟨by rw [HR.out]; rfl, rfl⟩
    · obtain ⟨h1, h2⟩ := h
      have b0 : decide ((65 : Int) ≤ (n : Int)) = true := by simp; omega
      have b1 : decide ((n : Int) ≤ 90) = false := by simp; omega
      have q0 : ((n : Int) == 95) = false := by simp; omega
      have q1 : ((n : Int) == 126) = false := by simp; omega
      have HR : Hid ((false || (decide (65 ≤ n) && decide (n ≤ 90)) || n == 95 || n == 126) = false) := by
        unfold Hid; rw [Bool.eq_iff_iff]; simp; omega
      clear h1 h2 hn
      go_enter Tryz.func55, Tryz.ntmps55
      go_wp2_with (go_at_call 79; with_reducible refine HF.out.mono ?_; rintro _ _ ⟨rfl, rfl⟩)
      go_ret
      exact ⟨by rw [HR.out]; rfl, rfl⟩
theorem pre_dot (l : List UInt8) : Lib.hasPrefix l [46] = (l.head? == some 46) := by
  cases l with
  | nil => rfl
  | cons c r =>
    show ((46 : UInt8) == c && true) = (some c == some 46)
    rw [show ((46 : UInt8) == c) = (c == 46) from BEq.comm, Bool.and_true]
    rfl
theorem suf_dot (l : List UInt8) : Lib.hasSuffix l [46] = (l.getLast? == some 46) := by
  unfold Lib.hasSuffix
  rw [Bool.eq_iff_iff, List.isSuffixOf_iff_suffix, beq_iff_eq, List.getLast?_eq_some_iff]
  constructor
  · rintro ⟨t, ht⟩; exact ⟨t, ht.symm⟩
  · rintro ⟨t, ht⟩; exact ⟨t, ht.symm⟩
set_option maxHeartbeats 1000000 in
theorem bounded_any (s : ByteArray) (w : World) (hs : s.size ≤ 200) : Calls Tryz.prog 53 #[.string s] w fun e w' => e = .returned (.bool (bndL s.data.toList)) ∧ w' = w := by
  have HP : Hid (Calls Tryz.prog 81 #[.string s, .string ⟨#[46]⟩] w fun e w' => e = .returned (.bool (s.data.toList.head? == some 46)) ∧ w' = w) := by
    have := Tryz.strings_HasPrefix s ⟨#[46]⟩ w
    rw [show (⟨#[46]⟩ : ByteArray).data.toList = [46] from rfl, pre_dot] at this
    exact this
  have HS : Hid (Calls Tryz.prog 82 #[.string s, .string ⟨#[46]⟩] w fun e w' => e = .returned (.bool (s.data.toList.getLast? == some 46)) ∧ w' = w) := by
    have := Tryz.strings_HasSuffix s ⟨#[46]⟩ w (by omega)
    rw [show (⟨#[46]⟩ : ByteArray).data.toList = [46] from rfl, suf_dot] at this
    exact this
  have HR : Hid (bndL s.data.toList = (!s.toList.isEmpty && !(s.data.toList.head? == some 46) && !(s.data.toList.getLast? == some 46))) := by rw [Lib.toList_data]; rfl
  generalize (s.data.toList.head? == some 46) = A at *
  generalize (s.data.toList.getLast? == some 46) = B at *
  cases he : s.toList.isEmpty
  · cases A
    · cases B
      all_goals
        go_enter Tryz.func53, Tryz.ntmps53
        go_wp2_with (first
          | (go_at_call 81; with_reducible refine HP.out.mono ?_; rintro _ _ ⟨rfl, rfl⟩)
          | (go_at_call 82; with_reducible refine HS.out.mono ?_; rintro _ _ ⟨rfl, rfl⟩))
        go_ret
        exact ⟨by rw [HR.out, he]; rfl, rfl⟩
    · go_enter Tryz.func53, Tryz.ntmps53
      go_wp2_with (go_at_call 81; with_reducible refine HP.out.mono ?_; rintro _ _ ⟨rfl, rfl⟩)
      go_ret
      exact ⟨by rw [HR.out, he]; rfl, rfl⟩
  · go_enter Tryz.func53, Tryz.ntmps53
    go_wp2
    go_ret
    exact ⟨by rw [HR.out, he]; rfl, rfl⟩
theorem ba_at (s : ByteArray) (k : Nat) (h : k < s.size) : s.data.toList[k]? = some s[k] := by
  rw [List.getElem?_eq_getElem (by rw [Array.length_toList]; exact h)]
  rfl
set_option maxHeartbeats 1000000 in
theorem each_44 (s : ByteArray) (w : World) (hs : s.size ≤ 200) :
    Calls Tryz.prog 54 #[.string s, .func (.func 79) #[] #[]] w fun e w' => e = .returned (.bool (s.data.toList.all fstB)) ∧ w' = w := by
  go_enter Tryz.func54, Tryz.ntmps54
  go_wp2
  go_loopw [5, 8, 9, 10, 11, 12, 13, 14, 15, 16, 17] (fun _ v8 _ _ _ _ _ _ _ _ _ wr => ∃ k : Nat, k ≤ s.size ∧ v8 = .int .i64 (k : Int) ∧ (s.data.toList.take k).all fstB = true ∧ wr = w) (fun _ v8 _ _ _ _ _ _ _ _ _ _ => s.size - (intOf v8).toNat)
  case atStart => exact ⟨0, Nat.zero_le _, rfl, rfl, rfl⟩
  case round =>
    obtain ⟨k, hk, rfl, hd, rfl⟩ := hrel
    have HD := hidM hd
    clear hd
    by_cases hlt : k < s.size
    · have kk : (k : Int) < (s.size : Int) := by omega
      have HC := hidM (firstByte_any s[k] wr)
      have HT : Hid ((s.data.toList.take (k + 1)).all fstB = fstB s[k]) := by
        unfold Hid
        rw [List.take_add_one, List.all_append, HD.out, ba_at s k hlt]
        simp
      have HN : Hid (fstB s[k] = false → s.data.toList.all fstB = false) := by
        intro h
        rw [List.all_eq_false]
        exact ⟨s[k], List.mem_of_getElem? (ba_at s k hlt), by simp [h]⟩
      generalize fstB s[k] = B at *
      cases B with
      | true =>
        go_wp2_with fail
        refine HC.out.mono ?_
        rintro _ _ ⟨rfl, rfl⟩
        go_wp2_with fail
        go_roundw
        case rel => exact ⟨k + 1, by omega, by go_num, HT.out, trivial⟩
        case measure => (show s.size - ((k : Int) + 1).toNat < s.size - ((k : Int)).toNat); omega
      | false =>
        have HN2 := hidM (HN.out rfl)
        clear HN
        go_wp2_with fail
        refine HC.out.mono ?_
        rintro _ _ ⟨rfl, rfl⟩
        go_wp2_with fail
        go_ret
        exact ⟨by rw [HN2.out]; rfl, rfl⟩
    · obtain rfl : k = s.size := by omega
      have HF : Hid (s.data.toList.all fstB = true) := by
        have := HD.out
        rwa [List.take_of_length_le (by simp)] at this
      go_wp2
      go_ret
      exact ⟨by rw [HF.out]; rfl, rfl⟩
set_option maxHeartbeats 1000000 in
theorem each_31 (s : ByteArray) (w : World) (hs : s.size ≤ 200) :
    Calls Tryz.prog 54 #[.string s, .func (.func 55) #[] #[]] w fun e w' => e = .returned (.bool (s.data.toList.all plnB)) ∧ w' = w := by
  go_enter Tryz.func54, Tryz.ntmps54
  go_wp2
  go_loopw [5, 8, 9, 10, 11, 12, 13, 14, 15, 16, 17] (fun _ v8 _ _ _ _ _ _ _ _ _ wr => ∃ k : Nat, k ≤ s.size ∧ v8 = .int .i64 (k : Int) ∧ (s.data.toList.take k).all plnB = true ∧ wr = w) (fun _ v8 _ _ _ _ _ _ _ _ _ _ => s.size - (intOf v8).toNat)
  case atStart => exact ⟨0, Nat.zero_le _, rfl, rfl, rfl⟩
  case round =>
    obtain ⟨k, hk, rfl, hd, rfl⟩ := hrel
    have HD := hidM hd
    clear hd
    by_cases hlt : k < s.size
    · have kk : (k : Int) < (s.size : Int) := by omega
      have HC := hidM (plainByte_any s[k] wr)
      have HT : Hid ((s.data.toList.take (k + 1)).all plnB = plnB s[k]) := by
        unfold Hid
        rw [List.take_add_one, List.all_append, HD.out, ba_at s k hlt]
        simp
      have HN : Hid (plnB s[k] = false → s.data.toList.all plnB = false) := by
        intro h
        rw [List.all_eq_false]
        exact ⟨s[k], List.mem_of_getElem? (ba_at s k hlt), by simp [h]⟩
      generalize plnB s[k] = B at *
      cases B with
      | true =>
        go_wp2_with fail
        refine HC.out.mono ?_
        rintro _ _ ⟨rfl, rfl⟩
        go_wp2_with fail
        go_roundw
        case rel => exact ⟨k + 1, by omega, by go_num, HT.out, trivial⟩
        case measure => (show s.size - ((k : Int) + 1).toNat < s.size - ((k : Int)).toNat); omega
      | false =>
        have HN2 := hidM (HN.out rfl)
        clear HN
        go_wp2_with fail
        refine HC.out.mono ?_
        rintro _ _ ⟨rfl, rfl⟩
        go_wp2_with fail
        go_ret
        exact ⟨by rw [HN2.out]; rfl, rfl⟩
    · obtain rfl : k = s.size := by omega
      have HF : Hid (s.data.toList.all plnB = true) := by
        have := HD.out
        rwa [List.take_of_length_le (by simp)] at this
      go_wp2
      go_ret
      exact ⟨by rw [HF.out]; rfl, rfl⟩
end Go.Proofs.YtmhjdahmmdfbcaaGreatDoor.M
namespace Go.Proofs.YtmhjdahmmdfbcaaGreatDoor.M
open Go.RowKit
/-- As Q; by a goto to label l: J l. -/
def jumpN (J : Nat → Act → World → Prop) (Q : Exit → Act → World → Prop) : Exit → Act → World → Prop
  | .goto l, a, w => J l a w
  | e, a, w => Q e a w
theorem wp_scope_many {P : Program} {a : Act} {w : World} {Q : Exit → Act → World → Prop} {c : Code} (J : Nat → Act → World → Prop) (μ : Nat → Act → World → Nat)
    (first : c.wp P (jumpN (fun l a w => (findLabel c l).isSome = true ∧ J l a w) Q) a w)
    (pass : ∀ l rest a w, findLabel c l = some rest → J l a w → rest.wp P (jumpN (fun l' a' w' => (findLabel c l').isSome = true ∧ J l' a' w' ∧ μ l' a' w' < μ l a w) Q) a w) : (Code.scope c).wp P Q a w := by
  intro b k cs
  have hg : ∀ l rest, findLabel c l = some rest → gotoIn l (.inScope c :: k) = some (.code rest :: .inScope c :: k) := fun l rest hf => by simp [gotoIn, hf]
  have key : ∀ n l rest a w, findLabel c l = some rest → μ l a w = n → J l a w → ∃ e a' w', Q e a' w' ∧ Arrives P (lone (b.at a (.code rest :: .inScope c :: k)) cs w) b k cs e a' w' := by
    intro n
    induction n using Nat.strongRecOn with
    | _ n ih =>
      intro l rest a w hf hn hJ
      obtain ⟨e, a₁, w₁, hq, harr⟩ := pass l rest a w hf hJ b (.inScope c :: k) cs
      cases e with
      | normal => exact ⟨.normal, a₁, w₁, hq, Steps.trans harr (.one step_inScope)⟩
      | exit id => exact ⟨.exit id, a₁, w₁, hq, fun k' hk => harr k' (by simp [exitTo, hk])⟩
      | goto l' =>
        obtain ⟨hs, hJ', hlt⟩ := hq
        obtain ⟨rest', hf'⟩ := Option.isSome_iff_exists.1 hs
        obtain ⟨e₂, a₂, w₂, hq₂, harr₂⟩ := ih _ (by omega) l' rest' a₁ w₁ hf' rfl hJ'
        exact ⟨e₂, a₂, w₂, hq₂, .of_steps (harr _ (hg _ _ hf')) harr₂⟩
      | ret => exact ⟨_, a₁, w₁, hq, harr⟩
      | panic ch => exact ⟨_, a₁, w₁, hq, harr⟩
      | outgrown => exact ⟨_, a₁, w₁, hq, harr⟩
  obtain ⟨e, a₁, w₁, hq, harr⟩ := first b (.inScope c :: k) cs
  cases e with
  | normal => exact ⟨.normal, a₁, w₁, hq, .head step_scope (Steps.trans harr (.one step_inScope))⟩
  | exit id => exact ⟨.exit id, a₁, w₁, hq, fun k' hk => .head step_scope (harr k' (by simp [exitTo, hk]))⟩
  | goto l' =>
    obtain ⟨hs, hJ'⟩ := hq
    obtain ⟨rest', hf'⟩ := Option.isSome_iff_exists.1 hs
    obtain ⟨e₂, a₂, w₂, hq₂, harr₂⟩ := key _ l' rest' a₁ w₁ hf' rfl hJ'
    exact ⟨e₂, a₂, w₂, hq₂, .of_steps (.head step_scope (harr _ (hg _ _ hf'))) harr₂⟩
  | ret => exact ⟨_, a₁, w₁, hq, .of_steps (.one step_scope) harr⟩
  | panic ch => exact ⟨_, a₁, w₁, hq, .of_steps (.one step_scope) harr⟩
  | outgrown => exact ⟨_, a₁, w₁, hq, .of_steps (.one step_scope) harr⟩
/-- .. five labels, where the way falls through from label m (the first one) to label n. -/
theorem wp_scope_fall {P : Program} {a : Act} {w : World} {Q : Exit → Act → World → Prop} {c ym yn y1 y2 y3 : Code} (m n l1 l2 l3 : Nat) (J : Nat → Act → World → Prop) (μ : Nat → Act → World → Nat)
    (fm : findLabel c m = some (.seq .skip ym)) (fn : findLabel c n = some (.seq .skip yn)) (f1 : findLabel c l1 = some (.seq .skip y1)) (f2 : findLabel c l2 = some (.seq .skip y2)) (f3 : findLabel c l3 = some (.seq .skip y3))
    (hl : ∀ l a w, J l a w → l = m ∨ l = n ∨ l = l1 ∨ l = l2 ∨ l = l3)
    (hn : ∀ a w, J n a w → yn.wp P (jumpN (fun l' a' w' => J l' a' w' ∧ μ l' a' w' < μ n a w) Q) a w)
    (hm : (∀ a w M, J n a w → μ n a w ≤ M → yn.wp P (jumpN (fun l' a' w' => J l' a' w' ∧ μ l' a' w' < M) Q) a w) →
      ∀ a w, J m a w → ym.wp P (jumpN (fun l' a' w' => J l' a' w' ∧ μ l' a' w' < μ m a w) Q) a w)
    (h1 : ∀ a w, J l1 a w → y1.wp P (jumpN (fun l' a' w' => J l' a' w' ∧ μ l' a' w' < μ l1 a w) Q) a w)
    (h2 : ∀ a w, J l2 a w → y2.wp P (jumpN (fun l' a' w' => J l' a' w' ∧ μ l' a' w' < μ l2 a w) Q) a w)
    (h3 : ∀ a w, J l3 a w → y3.wp P (jumpN (fun l' a' w' => J l' a' w' ∧ μ l' a' w' < μ l3 a w) Q) a w)
    (first : (∀ a w, J m a w → ym.wp P (jumpN (fun l a w => (findLabel c l).isSome = true ∧ J l a w) Q) a w) → c.wp P (jumpN (fun l a w => (findLabel c l).isSome = true ∧ J l a w) Q) a w) : (Code.scope c).wp P Q a w := by
  have hs : ∀ l a w, J l a w → (findLabel c l).isSome = true := by
    intro l a w hJ
    rcases hl l a w hJ with rfl | rfl | rfl | rfl | rfl
    · rw [fm]; rfl
    · rw [fn]; rfl
    · rw [f1]; rfl
    · rw [f2]; rfl
    · rw [f3]; rfl
  have hn' : ∀ a w M, J n a w → μ n a w ≤ M → yn.wp P (jumpN (fun l' a' w' => J l' a' w' ∧ μ l' a' w' < M) Q) a w :=
    fun a w M hJ hM => wp_mono (hn a w hJ) (fun e a w h => by cases e <;> first | exact h | exact ⟨h.1, Nat.lt_of_lt_of_le h.2 hM⟩)
  have hm' := hm hn'
  have up : ∀ (M : Nat) e a w, jumpN (fun l' a' w' => J l' a' w' ∧ μ l' a' w' < M) Q e a w → jumpN (fun l' a' w' => (findLabel c l').isSome = true ∧ J l' a' w' ∧ μ l' a' w' < M) Q e a w :=
    fun M e a w h => by cases e <;> first | exact h | exact ⟨hs _ _ _ h.1, h.1, h.2⟩
  refine wp_scope_many J μ (first fun a w hJ => wp_mono (hm' a w hJ) (fun e a w h => by cases e <;> first | exact h | exact ⟨hs _ _ _ h.1, h.1⟩)) ?_
  intro l rest a w hf hJ
  rcases hl l a w hJ with rfl | rfl | rfl | rfl | rfl
  · rw [fm] at hf; cases hf; exact wp_seq (wp_skip (wp_mono (hm' a w hJ) (up _)))
  · rw [fn] at hf; cases hf; exact wp_seq (wp_skip (wp_mono (hn a w hJ) (up _)))
  · rw [f1] at hf; cases hf; exact wp_seq (wp_skip (wp_mono (h1 a w hJ) (up _)))
  · rw [f2] at hf; cases hf; exact wp_seq (wp_skip (wp_mono (h2 a w hJ) (up _)))
  · rw [f3] at hf; cases hf; exact wp_seq (wp_skip (wp_mono (h3 a w hJ) (up _)))
/-- Of the blocks below D only b has turned. -/
structure But (b D : Nat) (w w' : World) : Prop where
  os : w'.os = w.os
  tape : w'.tape = w.tape
  output : w'.output = w.output
  size : w.heap.size ≤ w'.heap.size
  block : ∀ k, k < D → k ≠ b → w'.heap[k]? = w.heap[k]?
theorem But.refl (b D : Nat) (w : World) : But b D w w := ⟨rfl, rfl, rfl, Nat.le_refl _, fun _ _ _ => rfl⟩
theorem But.trans {b D : Nat} {u v w : World} (h : But b D u v) (k : But b D v w) : But b D u w :=
  ⟨k.os.trans h.os, k.tape.trans h.tape, k.output.trans h.output, Nat.le_trans h.size k.size, fun n h1 h2 => (k.block n h1 h2).trans (h.block n h1 h2)⟩
theorem But.mono {b D B : Nat} {v w : World} (h : But b B v w) (hB : D ≤ B) : But b D v w :=
  ⟨h.os, h.tape, h.output, h.size, fun n h1 h2 => h.block n (by omega) h2⟩
theorem Only.but {b D : Nat} {v w : World} (h : Only b v w) : But b D v w := ⟨h.os, h.tape, h.output, by rw [h.size]; exact Nat.le_refl _, fun k _ hk => h.block k hk⟩
theorem But.of_below {b D B : Nat} {v w : World} (h : Below B v w) (hB : D ≤ B) : But b D v w := ⟨h.os, h.tape, h.output, h.size, fun k h1 _ => h.block k (by omega)⟩
theorem But.setRow {b D : Nat} {v w : World} {c : Array Value} (h : But b D v w) : But b D v (w.setRow D c) :=
  h.trans ⟨rfl, rfl, rfl, by simp, fun k h1 _ => setRow_other w D k c (by omega)⟩
theorem But.setCell {b D : Nat} {v w : World} (h : But b D v w) (o : Nat) (x : Value) : But b D v (w.setCell ⟨D, o, none⟩ x) :=
  h.trans ⟨rfl, rfl, rfl, by simp [World.setCell], fun k h1 _ => Below.heap_setCell w ⟨D, o, none⟩ x k (by simp; omega)⟩
/-- The lexer's box and the token's, within a call. -/
structure NX (b D : Nat) (s : ByteArray) (w0 w : World) (p : Nat) : Prop where
  box : RBox w b s p
  lim : p ≤ s.size
  cell : w.heap[D]? = some (.cells #[.int .i64 0, .string ⟨#[]⟩] 105 (0, 0))
  but : But b D w0 w
  own : b < D
theorem NX.only {b D : Nat} {s : ByteArray} {w0 w w' : World} {p p' : Nat} (h : NX b D s w0 w p) (hB : RBox w' b s p') (hp : p' ≤ s.size) (hO : Only b w w') : NX b D s w0 w' p' :=
  ⟨hB, hp, (hO.block D (by have := h.own; omega)).trans h.cell, h.but.trans hO.but, h.own⟩
theorem NX.lt {b D : Nat} {s : ByteArray} {w0 w : World} {p : Nat} (h : NX b D s w0 w p) : D < w.heap.size := (Array.getElem?_eq_some_iff.1 h.cell).1
theorem NX.below {b D B : Nat} {s : ByteArray} {w0 w w' : World} {p : Nat} (h : NX b D s w0 w p) (hb : Below B w w') (hB : D < B) : NX b D s w0 w' p :=
  ⟨h.box.below hb (by have := h.own; omega), h.lim, (hb.block D hB).trans h.cell, h.but.trans (But.of_below hb (by omega)), h.own⟩
theorem NX.quiet {b D : Nat} {s : ByteArray} {w0 w : World} {p : Nat} (h : NX b D s w0 w p) (n : Nat) : NX b D s w0 (w.drewN n) p :=
  h.only (h.box.drewN n) h.lim (Only.quiet n)
def frN (b D : Nat) (sv fv : Value) (a : Act) : Prop := ∃ u : Nat → Value, a = { tmps := #[.pointer (some ⟨b, 0, none⟩), u 1, .pointer (some ⟨D, 0, none⟩), sv, fv, u 5, u 6, u 7, u 8, u 9, u 10, u 11, u 12, u 13, u 14, u 15, u 16, u 17, u 18, u 19, u 20, u 21, u 22, u 23, u 24, u 25, u 26, u 27, u 28, u 29, u 30, u 31, u 32, u 33, u 34, u 35, u 36, u 37, u 38, u 39, u 40, u 41, u 42, u 43, u 44, u 45, u 46, u 47, u 48, u 49, u 50, u 51, u 52, u 53, u 54, u 55, u 56, u 57, u 58, u 59, u 60, u 61, u 62, u 63, u 64, u 65, u 66, u 67, u 68, u 69, u 70, u 71, u 72, u 73, u 74, u 75, u 76, u 77, u 78, u 79, u 80, u 81, u 82, u 83, u 84, u 85, u 86, u 87, u 88, u 89, u 90, u 91, u 92, u 93, u 94, u 95, u 96, u 97, u 98, u 99, u 100, u 101, u 102, u 103, u 104], defers := [] }
set_option maxRecDepth 100000 in
theorem list_105 (l : List Value) (h : l.length = 105) : l = [l.getD 0 undef, l.getD 1 undef, l.getD 2 undef, l.getD 3 undef, l.getD 4 undef, l.getD 5 undef, l.getD 6 undef, l.getD 7 undef, l.getD 8 undef, l.getD 9 undef, l.getD 10 undef, l.getD 11 undef, l.getD 12 undef, l.getD 13 undef, l.getD 14 undef, l.getD 15 undef, l.getD 16 undef, l.getD 17 undef, l.getD 18 undef, l.getD 19 undef, l.getD 20 undef, l.getD 21 undef, l.getD 22 undef, l.getD 23 undef, l.getD 24 undef, l.getD 25 undef, l.getD 26 undef, l.getD 27 undef, l.getD 28 undef, l.getD 29 undef, l.getD 30 undef, l.getD 31 undef, l.getD 32 undef, l.getD 33 undef, l.getD 34 undef, l.getD 35 undef, l.getD 36 undef, l.getD 37 undef, l.getD 38 undef, l.getD 39 undef, l.getD 40 undef, l.getD 41 undef, l.getD 42 undef, l.getD 43 undef, l.getD 44 undef, l.getD 45 undef, l.getD 46 undef, l.getD 47 undef, l.getD 48 undef, l.getD 49 undef, l.getD 50 undef, l.getD 51 undef, l.getD 52 undef, l.getD 53 undef, l.getD 54 undef, l.getD 55 undef, l.getD 56 undef, l.getD 57 undef, l.getD 58 undef, l.getD 59 undef, l.getD 60 undef, l.getD 61 undef, l.getD 62 undef, l.getD 63 undef, l.getD 64 undef, l.getD 65 undef, l.getD 66 undef, l.getD 67 undef, l.getD 68 undef, l.getD 69 undef, l.getD 70 undef, l.getD 71 undef, l.getD 72 undef, l.getD 73 undef, l.getD 74 undef, l.getD 75 undef, l.getD 76 undef, l.getD 77 undef, l.getD 78 undef, l.getD 79 undef, l.getD 80 undef, l.getD 81 undef, l.getD 82 undef, l.getD 83 undef, l.getD 84 undef, l.getD 85 undef, l.getD 86 undef, l.getD 87 undef, l.getD 88 undef, l.getD 89 undef, l.getD 90 undef, l.getD 91 undef, l.getD 92 undef, l.getD 93 undef, l.getD 94 undef, l.getD 95 undef, l.getD 96 undef, l.getD 97 undef, l.getD 98 undef, l.getD 99 undef, l.getD 100 undef, l.getD 101 undef, l.getD 102 undef, l.getD 103 undef, l.getD 104 undef] := by
  apply List.ext_getElem?
  intro i
  by_cases hi : i < 105
  · have h1 : l[i]? = some (l.getD i undef) := by rw [List.getD_eq_getElem?_getD, List.getElem?_eq_getElem (by omega)]; rfl
    rw [h1]
    have h2 : ∀ i, i < 105 → ([0, 1, 2, 3, 4, 5, 6, 7, 8, 9, 10, 11, 12, 13, 14, 15, 16, 17, 18, 19, 20, 21, 22, 23, 24, 25, 26, 27, 28, 29, 30, 31, 32, 33, 34, 35, 36, 37, 38, 39, 40, 41, 42, 43, 44, 45, 46, 47, 48, 49, 50, 51, 52, 53, 54, 55, 56, 57, 58, 59, 60, 61, 62, 63, 64, 65, 66, 67, 68, 69, 70, 71, 72, 73, 74, 75, 76, 77, 78, 79, 80, 81, 82, 83, 84, 85, 86, 87, 88, 89, 90, 91, 92, 93, 94, 95, 96, 97, 98, 99, 100, 101, 102, 103, 104] : List Nat)[i]? = some i := by decide
    have h3 : [l.getD 0 undef, l.getD 1 undef, l.getD 2 undef, l.getD 3 undef, l.getD 4 undef, l.getD 5 undef, l.getD 6 undef, l.getD 7 undef, l.getD 8 undef, l.getD 9 undef, l.getD 10 undef, l.getD 11 undef, l.getD 12 undef, l.getD 13 undef, l.getD 14 undef, l.getD 15 undef, l.getD 16 undef, l.getD 17 undef, l.getD 18 undef, l.getD 19 undef, l.getD 20 undef, l.getD 21 undef, l.getD 22 undef, l.getD 23 undef, l.getD 24 undef, l.getD 25 undef, l.getD 26 undef, l.getD 27 undef, l.getD 28 undef, l.getD 29 undef, l.getD 30 undef, l.getD 31 undef, l.getD 32 undef, l.getD 33 undef, l.getD 34 undef, l.getD 35 undef, l.getD 36 undef, l.getD 37 undef, l.getD 38 undef, l.getD 39 undef, l.getD 40 undef, l.getD 41 undef, l.getD 42 undef, l.getD 43 undef, l.getD 44 undef, l.getD 45 undef, l.getD 46 undef, l.getD 47 undef, l.getD 48 undef, l.getD 49 undef, l.getD 50 undef, l.getD 51 undef, l.getD 52 undef, l.getD 53 undef, l.getD 54 undef, l.getD 55 undef, l.getD 56 undef, l.getD 57 undef, l.getD 58 undef, l.getD 59 undef, l.getD 60 undef, l.getD 61 undef, l.getD 62 undef, l.getD 63 undef, l.getD 64 undef, l.getD 65 undef, l.getD 66 undef, l.getD 67 undef, l.getD 68 undef, l.getD 69 undef, l.getD 70 undef, l.getD 71 undef, l.getD 72 undef, l.getD 73 undef, l.getD 74 undef, l.getD 75 undef, l.getD 76 undef, l.getD 77 undef, l.getD 78 undef, l.getD 79 undef, l.getD 80 undef, l.getD 81 undef, l.getD 82 undef, l.getD 83 undef, l.getD 84 undef, l.getD 85 undef, l.getD 86 undef, l.getD 87 undef, l.getD 88 undef, l.getD 89 undef, l.getD 90 undef, l.getD 91 undef, l.getD 92 undef, l.getD 93 undef, l.getD 94 undef, l.getD 95 undef, l.getD 96 undef, l.getD 97 undef, l.getD 98 undef, l.getD 99 undef, l.getD 100 undef, l.getD 101 undef, l.getD 102 undef, l.getD 103 undef, l.getD 104 undef] = ([0, 1, 2, 3, 4, 5, 6, 7, 8, 9, 10, 11, 12, 13, 14, 15, 16, 17, 18, 19, 20, 21, 22, 23, 24, 25, 26, 27, 28, 29, 30, 31, 32, 33, 34, 35, 36, 37, 38, 39, 40, 41, 42, 43, 44, 45, 46, 47, 48, 49, 50, 51, 52, 53, 54, 55, 56, 57, 58, 59, 60, 61, 62, 63, 64, 65, 66, 67, 68, 69, 70, 71, 72, 73, 74, 75, 76, 77, 78, 79, 80, 81, 82, 83, 84, 85, 86, 87, 88, 89, 90, 91, 92, 93, 94, 95, 96, 97, 98, 99, 100, 101, 102, 103, 104] : List Nat).map (fun k => l.getD k undef) := rfl
    rw [h3, List.getElem?_map, h2 i hi]
    rfl
  · rw [List.getElem?_eq_none (by omega), List.getElem?_eq_none (by simp; omega)]
theorem frN_mk {b D : Nat} {sv fv : Value} {a : Act} (hs : a.tmps.toList.length = 105) (h0 : a.tmps.toList.getD 0 undef = .pointer (some ⟨b, 0, none⟩)) (h2 : a.tmps.toList.getD 2 undef = .pointer (some ⟨D, 0, none⟩))
    (h3 : a.tmps.toList.getD 3 undef = sv) (h4 : a.tmps.toList.getD 4 undef = fv) (hd : a.defers = []) : frN b D sv fv a := by
  refine ⟨fun i => a.tmps.toList.getD i undef, ?_⟩
  have h := list_105 _ hs
  rw [h0, h2, h3, h4] at h
  obtain ⟨t, d⟩ := a
  obtain ⟨l⟩ := t
  simp only at hd h
  rw [hd]
  congr 2
/-- bytes in a row -/
def bytesV (l : List UInt8) : List Value := l.map fun (c : UInt8) => .int .u8 (c.toNat : Int)
theorem bytesV_app (a b : List UInt8) : bytesV (a ++ b) = bytesV a ++ bytesV b := by simp [bytesV]
theorem bytesV_at (l : List UInt8) (j : Nat) (hj : j < l.length) : (bytesV l)[j]? = some (.int .u8 ((l[j].toNat : Nat) : Int)) := by simp [bytesV, hj]
/-- The value v owns just the bytes l, in memory from 'base' on. -/
def OwnB (w : World) (base : Nat) (v : Value) (l : List UInt8) : Prop := w.ownsRow base 5 1 v l.length (bytesV l)
set_option maxRecDepth 100000 in
theorem conv_own {w : World} {base : Nat} {v : Value} {l : List UInt8} (h : OwnB w base v l) :
    (convert 71 9 v).run Tryz.prog w = .ok (.string ⟨l.toArray⟩) w := by
  rcases h.2 with ⟨rfl, hn⟩ | ⟨g, cap, cur, rfl, hb, hg, hnc, hcm, hcs, htake⟩
  · have : l = [] := List.eq_nil_of_length_eq_zero hn
    subst this
    rw [run_convert_bytes_string w 71 9 5 none 0 0 Tryz.underlying71 Tryz.underlying5 Tryz.underlying9]
    rfl
  · refine run_convert_bytes_back w 71 9 5 _ cap l Tryz.underlying71 Tryz.underlying5 Tryz.underlying9 ?_
    intro j hj
    have := World.ownsRow.cells (g := g) h rfl j _ (bytesV_at l j hj)
    exact this
theorem cell_new_one (w : World) (v : Value) : ∀ j u, [v][j]? = some u → (w.alloc (.cells #[v] 5)).cell? ((⟨w.heap.size, 0, none⟩ : Addr).add j) = some u := by
  intro j u hj
  match j, hj with
  | 0, hj => simp at hj; subst hj; simp [Addr.add]
theorem own_push {w1 : World} {B : Nat} {v' : Value} {P : List UInt8} {c : UInt8} (h : w1.ownsRow B 5 1 v' (P.length + 1) (bytesV P ++ [.int .u8 (c.toNat : Int)])) : OwnB w1 B v' (P ++ [c]) := by
  unfold OwnB
  rw [bytesV_app]
  simpa [bytesV] using h
theorem below_push {w wr w1 : World} {B : Nat} {v : Value} {P : List UInt8} {o : Obj} (hown : OwnB wr B v P) (hb : Below B w wr) (hB : B ≤ wr.heap.size) (hg : (wr.alloc o).grownBy w1 v.ownBlock) : Below B w w1 :=
  (hb.alloc hB o).grown hg (by simp; omega) (fun k hk => (World.ownsRow.lt hown k hk).1)
def jumpL (b D : Nat) (s : ByteArray) (S : List UInt8) (w0 : World) (l : Nat) (a : Act) (w : World) : Prop :=
  match l with
  | 0 => ∃ fv, frN b D (.slice none 0 0) fv a ∧ ∃ p, NX b D s w0 w p ∧ skipL false (restL s p) = S
  | 1 => ∃ fv, frN b D (.slice none 0 0) fv a ∧ ∃ p, NX b D s w0 w p ∧ skipL true (restL s p) = S
  | 2 => ∃ sv fv, frN b D sv fv a ∧ ∃ p r acc, NX b D s w0 w p ∧ S = 34 :: r ∧ OwnB w (D + 1) sv acc ∧ acc.length ≤ p ∧ quoL r = (quoL (restL s p)).map fun x => (acc ++ x.1, x.2)
  | 3 => ∃ f : Nat, frN b D (.slice none 0 0) (.int .i64 (f : Int)) a ∧ ∃ p r, NX b D s w0 w p ∧ S = 96 :: r ∧ restL s f = S ∧ f + 1 ≤ p ∧ rawL r = (rawL (restL s p)).map (· + (p - f - 1))
  | 4 => ∃ f : Nat, frN b D (.slice none 0 0) (.int .i64 (f : Int)) a ∧ ∃ p c r, NX b D s w0 w p ∧ S = c :: r ∧ restL s f = S ∧ f + 1 ≤ p ∧ wordN r = (p - f - 1) + wordN (restL s p) ∧ tokS S = (5, c :: r.take (wordN r), r.drop (wordN r))
  | _ => False
def posOf (b : Nat) (w : World) : Nat := match w.cell? ⟨b, 1, none⟩ with
  | some (.int _ q) => q.toNat
  | _ => 0
theorem posOf_box {b : Nat} {w : World} {s : ByteArray} {t : Nat} (h : RBox w b s t) : posOf b w = t := by
  unfold posOf
  rw [h.taken]
  rfl
def muL (b : Nat) (s : ByteArray) (l : Nat) (_a : Act) (w : World) : Nat :=
  4 * (s.size - posOf b w) + (if l = 0 then (if remB (restL s (posOf b w)) then 3 else 1) else if l = 1 then 2 else 0)
theorem muL_box {b : Nat} {w : World} {s : ByteArray} {t l : Nat} {a : Act} (h : RBox w b s t) : muL b s l a w = 4 * (s.size - t) + (if l = 0 then (if remB (restL s t) then 3 else 1) else if l = 1 then 2 else 0) := by
  unfold muL; rw [posOf_box h]
def NextPost (b : Nat) (s : ByteArray) (t : Nat) (w : World) (e : Ending) (w' : World) : Prop :=
  ∃ p', e = .returned (.agg #[.int .i64 ((tokL (restL s t)).1 : Int), .string ⟨(tokL (restL s t)).2.1.toArray⟩]) ∧ RBox w' b s p' ∧ p' ≤ s.size ∧ But b w.heap.size w w' ∧ ((tokL (restL s t)).1 ≠ 6 → restL s p' = (tokL (restL s t)).2.2)
theorem size66 : (Tryz.prog.info? 105).map (·.size) = some 2 := by kernel_rfl
theorem zero66 (w : World) : (zeroValue 105).run Tryz.prog w = .ok (.agg #[.int .i64 0, .string ⟨#[]⟩]) w := by kernel_rfl
theorem ones66 (m : Int) (a : ByteArray) : (#[.int .i64 m, .string a] : Array Value).all (·.oneCell') = true := by simp [Value.oneCell']
theorem rem_skip {l : List UInt8} (h : remB l = true) : skipL true l = skipL false l := by
  cases l with
  | nil => simp [remB] at h
  | cons c r =>
    have hc : c ≠ 10 := by rintro rfl; cases r <;> simp [remB] at h
    rw [skipL, skipL, if_neg hc, if_pos h]
theorem ext_bytes (s : ByteArray) (f p : Nat) : s.extract f p = ⟨((restL s f).take (p - f)).toArray⟩ := by
  have h : (s.extract f p).data.toList = (restL s f).take (p - f) := by rw [Lib.extract_data]; rfl
  rw [← h]
theorem byte_of {c : UInt8} {n : Nat} (h : (c.toNat : Int) = (n : Int)) (hn : n < 256) : c = UInt8.ofNat n := by
  apply UInt8.toNat_inj.1
  simp
  omega
theorem own_only {w w' : World} {B b : Nat} {v : Value} {P : List UInt8} (h : OwnB w B v P) (hO : Only b w w') (hb : b < B) : OwnB w' B v P := by
  obtain ⟨hl, h2⟩ := h
  refine ⟨hl, ?_⟩
  rcases h2 with h2 | ⟨g, cap, cur, rfl, hB, hg, hr⟩
  · exact .inl h2
  · exact .inr ⟨g, cap, cur, rfl, hB, (hO.block g (by omega)).trans hg, hr⟩
theorem info5x : (Tryz.prog.info? 5).map (fun i => (i.zero, i.size, i.bytes)) = some (some (.int .u8 0), 1, 1) := by kernel_rfl
theorem mnt_eq (d : UInt8) : mntI (d.toNat : Int) = match mntL d with | none => -1 | some e => (e.toNat : Int) := by
  unfold mntI mntL
  by_cases h1 : d = 34
  · subst h1; rfl
  · by_cases h2 : d = 92
    · subst h2; rfl
    · by_cases h3 : d = 110
      · subst h3; rfl
      · by_cases h4 : d = 116
        · subst h4; rfl
        · have e1 : ¬ ((d.toNat : Int) = 34 ∨ (d.toNat : Int) = 92) := by
            rintro (h | h)
            · exact h1 (byte_of (n := 34) h (by decide))
            · exact h2 (byte_of (n := 92) h (by decide))
          have e2 : ¬ (d.toNat : Int) = 110 := fun h => h3 (byte_of (n := 110) h (by decide))
          have e3 : ¬ (d.toNat : Int) = 116 := fun h => h4 (byte_of (n := 116) h (by decide))
          simp [e1, e2, e3, h1, h2, h3, h4]
theorem mnt_none {d : UInt8} (h : mntL d = none) : mntI (d.toNat : Int) = -1 := by rw [mnt_eq, h]
theorem mnt_some {d e : UInt8} (h : mntL d = some e) : mntI (d.toNat : Int) = (e.toNat : Int) := by rw [mnt_eq, h]
theorem u8_wrap (e : UInt8) : IntKind.u8.wrap (e.toNat : Int) = (e.toNat : Int) := by
  have := e.toNat_lt
  simp [IntKind.wrap, IntKind.bits, IntKind.signed]
  try omega
theorem box2_set {w : World} {g : Nat} {x y a0 a1 : Value} {ty : TypeId} (h : w.heap[g]? = some (.cells #[a0, a1] ty (0, 0))) : ((w.setCell ⟨g, 0, none⟩ x).setCell ⟨g, 1, none⟩ y).heap[g]? = some (.cells #[x, y] ty (0, 0)) := by
  have h1 := heap_setCell_same w g 0 _ ty x h
  rw [heap_setCell_same _ g 1 _ ty y h1]
  rfl
theorem jumpL_is {b D : Nat} {s : ByteArray} {S : List UInt8} {w0 : World} (l : Nat) (a : Act) (w : World) (h : jumpL b D s S w0 l a w) : l = 0 ∨ l = 4 ∨ l = 1 ∨ l = 3 ∨ l = 2 := by
  match l, h with
  | 0, _ => simp
  | 1, _ => simp
  | 2, _ => simp
  | 3, _ => simp
  | 4, _ => simp
set_option maxHeartbeats 400000 in
theorem clone_any (s : ByteArray) (w : World) (hlim : s.size ≤ 281474976710656) :
    Calls Tryz.prog 110 #[.string s] w fun e w' => e = .returned (.string s) ∧ Below w.heap.size w w' := by
  go_enter Tryz.func110, Tryz.ntmps110
  go_wp2_with fail
  refine (Tryz.stringslite_Clone s w hlim).mono ?_
  rintro _ w' ⟨rfl, hb⟩
  go_wp2
  go_ret
  exact ⟨rfl, hb⟩
set_option maxHeartbeats 8000000 in
set_option maxRecDepth 100000 in
theorem next_any (b : Nat) (s : ByteArray) (t : Nat) (w : World) (h : RBox w b s t) (hs : s.size ≤ 1000000) (ht : t ≤ s.size) :
    Calls Tryz.prog 83 #[.pointer (some ⟨b, 0, none⟩)] w fun e w' => NextPost b s t w e w' := by
  obtain ⟨S, hS⟩ : ∃ S, S = skipL false (restL s t) := ⟨_, rfl⟩
  have HS := hidM hS
  have HFIN : Hid (∀ k says rest p' (V : World), tokS S = (k, says, rest) → RBox V b s p' → p' ≤ s.size → But b w.heap.size w V → (k ≠ 6 → restL s p' = rest) → NextPost b s t w (.returned (.agg #[.int .i64 (k : Int), .string ⟨says.toArray⟩])) V) := by
    intro k says rest p' V h1 h2 h3 h4 h5
    have h6 : tokL (restL s t) = (k, says, rest) := by unfold tokL; rw [← hS]; exact h1
    unfold NextPost
    rw [h6]
    exact ⟨p', rfl, h2, h3, h4, h5⟩
  have HROW : Hid (∀ p' (V : World), NX b w.heap.size s w V p' → ∀ c, RBox (V.setRow w.heap.size c) b s p' ∧ But b w.heap.size w (V.setRow w.heap.size c)) :=
    fun p' V hN c => ⟨hN.box.same (setRow_other V _ b c (by have := hN.own; omega)), hN.but.setRow⟩
  have HA0 : Hid (NX b w.heap.size s w (w.alloc (.cells #[.int .i64 0, .string ⟨#[]⟩] 105)) t) :=
    ⟨h.same (heap_alloc_old w _ h.lt), ht, heap_alloc_new w _, But.of_below ((Below.refl _ w).alloc (Nat.le_refl _) _) (Nat.le_refl _), h.lt⟩
  have hz := zero66
  clear h hS ht
  go_enter Tryz.func83, Tryz.ntmps83
  go_wp2
  refine wp_scope_fall 0 4 1 3 2 (jumpL b w.heap.size s S w) (muL b s) rfl rfl rfl rfl rfl jumpL_is ?_ ?_ ?_ ?_ ?_ ?_
  · -- in a word
    intro a w1 hJ
    clear HA0
    obtain ⟨f, ⟨u, rfl⟩, p, c, r, hN, hSc, hSf, hfp, hwn, htk⟩ := hJ
    have HN := hidM hN
    have HT := hidM htk
    have HM : Hid (∀ a, muL b s 4 a w1 = 4 * (s.size - p)) := fun a => by rw [muL_box hN.box]; simp
    have HSC := hidM hSc
    have HSF := hidM hSf
    have HWN := hidM hwn
    have hlim := hN.lim
    have HW := hidM (wordEnds_any b s p w1 hN.box hs hN.lim)
    clear htk hSc hSf hwn
    generalize hwe : wEnd (restL s p) = we at *
    have HWE := hidM hwe
    clear hwe
    cases we with
    | true =>
      have h0 : wordN (restL s p) = 0 := by
        have := HWE.out
        cases hr : restL s p with
        | nil => rfl
        | cons d q => rw [hr] at this; rw [wordN, if_pos this]
      have HNr : Hid (wordN r = p - f - 1) := by have := HWN.out; rw [h0] at this; exact this
      clear h0 HWE HWN hN
      go_wp2_with fail
      refine HW.out.mono ?_
      rintro _ _ ⟨rfl, n, rfl⟩
      have HN2 := hidM (HN.out.quiet n)
      have c0 := HN2.out.box.text
      have c1 := HN2.out.box.taken
      have hfp' : f ≤ p := by omega
      obtain ⟨X, hX⟩ : ∃ X, X = s.extract f p := ⟨_, rfl⟩
      have hXs : X.size ≤ 281474976710656 := by rw [hX, ByteArray.size_extract]; omega
      have HCL := hidM (fun V => clone_any X V hXs)
      have HXE : Hid (X = ⟨(c :: r.take (wordN r)).toArray⟩) := by
        unfold Hid
        rw [hX, ext_bytes, HSF.out, HSC.out, HNr.out, show p - f = (p - f - 1) + 1 by omega]
        rfl
      have HRE : Hid (restL s p = r.drop (wordN r)) := by
        unfold Hid
        rw [HNr.out]
        have h1 := HSF.out
        rw [HSC.out] at h1
        obtain ⟨_,_, h2⟩ := rest_cons h1
        rw [← h2]
        unfold restL
        rw [List.drop_drop]
        congr 1
        omega
      have he : s.extract f p = X := hX.symm
      clear hX HW HNr
      generalize w1.drewN n = w2 at *
      go_upto_region 20 with fail
      go_region_with (go_at_call 110; refine (HCL.out _).mono ?_; rintro _ w4 ⟨rfl, hb4⟩; have HN4 := hidM (NX.below (w := w2.drew) (HN2.out.quiet 1) hb4 (NX.lt (HN2.out.quiet 1))); have d0 : w4.cell? ⟨w.heap.size, 0, none⟩ = some (.int .i64 0) := (by rw [cell_of_row _ _ _ _ 105 (0, 0) HN4.out.cell]; rfl); have d1 : w4.cell? ⟨w.heap.size, 1, none⟩ = some (.string ⟨#[]⟩) := (by rw [cell_of_row _ _ _ _ 105 (0, 0) HN4.out.cell]; rfl); have f0 : w4.frozen? ⟨w.heap.size, 0, none⟩ = false := (by simp [World.frozen?, HN4.out.cell]); have f1 : w4.frozen? ⟨w.heap.size, 1, none⟩ = false := (by simp [World.frozen?, HN4.out.cell]))
      all_goals (
        go_wp2
        simp only [jumpN]
        have h1 := HFIN.out 5 (c :: r.take (wordN r)) (r.drop (wordN r)) p ((w4.setCell ⟨w.heap.size, 0, none⟩ (.int .i64 5)).setCell ⟨w.heap.size, 1, none⟩ (.string X)) HT.out
          (HN4.out.box.same ((Below.heap_setCell _ _ _ b (by have := HN4.out.own; simp; omega)).trans (Below.heap_setCell _ _ _ b (by have := HN4.out.own; simp; omega)))) hlim ((HN4.out.but.setCell _ _).setCell _ _) (fun _ => HRE.out)
        rw [← HXE.out] at h1
        exact bodyPost_ret (results_cell_row rfl _ _ w.heap.size 105 _ (0, 0) _ rfl (box2_set HN4.out.cell) Tryz.underlying105 rfl size66) rfl h1)
    | false =>
      have hl : p < s.size := by
        apply Classical.byContradiction; intro hn
        have : restL s p = [] := by
          apply List.eq_nil_of_length_eq_zero
          rw [rest_len]; omega
        have h2 := HWE.out
        rw [this] at h2
        cases h2
      have HTK := hidM (fun n => take_any b s p (w1.drewN n) (HN.out.quiet n).box hs hlim)
      have HW2 : Hid (wordN r = (p + 1 - f - 1) + wordN (restL s (p + 1))) := by
        unfold Hid
        have h1 := HWN.out
        cases hr : restL s p with
        | nil => have := rest_len s p; rw [hr] at this; simp at this; omega
        | cons d q =>
          obtain ⟨_,_, h2⟩ := rest_cons hr
          have h3 := HWE.out
          rw [hr] at h3
          rw [h1, hr, wordN, if_neg (by rw [h3]; simp), h2]
          omega
      clear HWE HWN hN
      go_wp2_with fail
      refine HW.out.mono ?_
      rintro _ _ ⟨rfl, n, rfl⟩
      go_wp2_with fail
      refine (HTK.out n).mono ?_
      rintro _ w2 ⟨rfl, hB2, hO2⟩
      rw [if_pos hl] at hB2
      have HN2 := hidM ((HN.out.quiet n).only hB2 (by omega) hO2)
      clear hB2 hO2 HTK HW
      go_wp2
      go_step3
      refine ⟨⟨f, frN_mk rfl rfl rfl rfl rfl rfl, p + 1, c, r, HN2.out, HSC.out, HSF.out, by omega, HW2.out, HT.out⟩, ?_⟩
      rw [HM.out, muL_box HN2.out.box]
      simp
      omega
  · -- between
    intro h4 a w1 hJ
    clear HA0
    obtain ⟨fv, ⟨u, rfl⟩, p, hN, hSk⟩ := hJ
    have HN := hidM hN
    have hlim := hN.lim
    have HM : Hid (∀ a, muL b s 0 a w1 = 4 * (s.size - p) + (if 0 = 0 then (if remB (restL s p) then 3 else 1) else if 0 = 1 then 2 else 0)) := fun a => muL_box hN.box
    have HSK := hidM hSk
    have c1 := hN.box.taken
    have HRK := hidM (remark_any b s p w1 hN.box hN.lim)
    have HTK := hidM (fun n => take_any b s p (w1.drewN n) (hN.quiet n).box hs hN.lim)
    have H4 := hidM h4
    clear hN hSk h4
    cases hrm : remB (restL s p) with
    | true =>
      have HSK2 : Hid (skipL true (restL s p) = S) := by unfold Hid; rw [rem_skip hrm]; exact HSK.out
      rw [hrm] at HRK
      have HRM := hidM hrm
      clear hrm HTK HSK
      go_wp2_with fail
      refine HRK.out.mono ?_
      rintro _ _ ⟨rfl, n, rfl⟩
      have HN2 := hidM (HN.out.quiet n)
      go_wp2
      go_step3
      refine ⟨⟨_, frN_mk rfl rfl rfl rfl rfl rfl, p, HN2.out, HSK2.out⟩, ?_⟩
      rw [HM.out, muL_box HN2.out.box, HRM.out]
      simp
    | false =>
      rw [hrm] at HRK
      have HRM := hidM hrm
      clear hrm
      cases hr : restL s p with
      | nil =>
        have hl : ¬ p < s.size := by have := rest_nil hr hlim; omega
        have HR := hidM hr
        rw [hr] at HTK
        have HT : Hid (tokS S = (1, [], [])) := by unfold Hid; rw [← HSK.out, hr]; rfl
        simp only [headI] at HTK
        clear hr HSK
        go_wp2_with fail
        refine HRK.out.mono ?_
        rintro _ _ ⟨rfl, n, rfl⟩
        go_wp2_with fail
        refine (HTK.out n).mono ?_
        rintro _ w2 ⟨rfl, hB2, hO2⟩
        rw [if_neg hl] at hB2
        have HN2 := hidM ((HN.out.quiet n).only hB2 hlim hO2)
        clear hB2 hO2 HTK HRK
        have HC := hidM HN2.out.cell
        go_wp2_with (refine wpList_store_row rfl 105 (.tmp 2) (.tmp 16) rfl w.heap.size #[.int .i64 1, .string ⟨#[]⟩] rfl rfl 105 #[.int .i64 0, .string ⟨#[]⟩] HC.out size66 rfl (ones66 _ _) ?_)
        go_wp2
        simp only [jumpN]
        exact bodyPost_ret (results_cell_row rfl _ _ w.heap.size 105 _ (0, 0) _ rfl (setRow_heap _ _ _ _ 105 _ HC.out) Tryz.underlying105 rfl size66) rfl (HFIN.out 1 [] [] p _ HT.out (HROW.out _ _ HN2.out _).1 HN2.out.lim (HROW.out _ _ HN2.out _).2 (fun _ => HR.out))
      | cons c q =>
        obtain ⟨hl, _, hq⟩ := rest_cons hr
        have HQ := hidM hq
        rw [hr] at HTK HRM
        by_cases k1 : c = 10
        · subst k1
          have hk : headI (10 :: q) = 10 := rfl
          rw [hk] at HTK
          have HSS : Hid (S = 10 :: q) := by unfold Hid; rw [← HSK.out, hr, skipL, HRM.out]; simp [blkB]
          have HT : Hid (tokS S = (2, [], q)) := by unfold Hid; rw [HSS.out, tokS]; simp
          clear hr HSK hq hk
          go_wp2_with fail
          refine HRK.out.mono ?_
          rintro _ _ ⟨rfl, n, rfl⟩
          go_wp2_with fail
          refine (HTK.out n).mono ?_
          rintro _ w2 ⟨rfl, hB2, hO2⟩
          rw [if_pos hl] at hB2
          have HN2 := hidM ((HN.out.quiet n).only hB2 (by omega) hO2)
          clear hB2 hO2 HTK HRK
          have HC := hidM HN2.out.cell
          go_wp2_with (refine wpList_store_row rfl 105 (.tmp 2) (.tmp 19) rfl w.heap.size #[.int .i64 2, .string ⟨#[]⟩] rfl rfl 105 #[.int .i64 0, .string ⟨#[]⟩] HC.out size66 rfl (ones66 _ _) ?_)
          go_wp2
          simp only [jumpN]
          exact bodyPost_ret (results_cell_row rfl _ _ w.heap.size 105 _ (0, 0) _ rfl (setRow_heap _ _ _ _ 105 _ HC.out) Tryz.underlying105 rfl size66) rfl (HFIN.out 2 [] q (p + 1) _ HT.out (HROW.out _ _ HN2.out _).1 HN2.out.lim (HROW.out _ _ HN2.out _).2 (fun _ => HQ.out))
        by_cases k2 : c = 40
        · subst k2
          have hk : headI (40 :: q) = 40 := rfl
          rw [hk] at HTK
          have HSS : Hid (S = 40 :: q) := by unfold Hid; rw [← HSK.out, hr, skipL, HRM.out]; simp [blkB]
          have HT : Hid (tokS S = (3, [], q)) := by unfold Hid; rw [HSS.out, tokS]; simp
          clear hr HSK hq hk
          go_wp2_with fail
          refine HRK.out.mono ?_
          rintro _ _ ⟨rfl, n, rfl⟩
          go_wp2_with fail
          refine (HTK.out n).mono ?_
          rintro _ w2 ⟨rfl, hB2, hO2⟩
          rw [if_pos hl] at hB2
          have HN2 := hidM ((HN.out.quiet n).only hB2 (by omega) hO2)
          clear hB2 hO2 HTK HRK
          have HC := hidM HN2.out.cell
          go_wp2_with (refine wpList_store_row rfl 105 (.tmp 2) (.tmp 22) rfl w.heap.size #[.int .i64 3, .string ⟨#[]⟩] rfl rfl 105 #[.int .i64 0, .string ⟨#[]⟩] HC.out size66 rfl (ones66 _ _) ?_)
          go_wp2
          simp only [jumpN]
          exact bodyPost_ret (results_cell_row rfl _ _ w.heap.size 105 _ (0, 0) _ rfl (setRow_heap _ _ _ _ 105 _ HC.out) Tryz.underlying105 rfl size66) rfl (HFIN.out 3 [] q (p + 1) _ HT.out (HROW.out _ _ HN2.out _).1 HN2.out.lim (HROW.out _ _ HN2.out _).2 (fun _ => HQ.out))
        by_cases k3 : c = 41
        · subst k3
          have hk : headI (41 :: q) = 41 := rfl
          rw [hk] at HTK
          have HSS : Hid (S = 41 :: q) := by unfold Hid; rw [← HSK.out, hr, skipL, HRM.out]; simp [blkB]
          have HT : Hid (tokS S = (4, [], q)) := by unfold Hid; rw [HSS.out, tokS]; simp
          clear hr HSK hq hk
          go_wp2_with fail
          refine HRK.out.mono ?_
          rintro _ _ ⟨rfl, n, rfl⟩
          go_wp2_with fail
          refine (HTK.out n).mono ?_
          rintro _ w2 ⟨rfl, hB2, hO2⟩
          rw [if_pos hl] at hB2
          have HN2 := hidM ((HN.out.quiet n).only hB2 (by omega) hO2)
          clear hB2 hO2 HTK HRK
          have HC := hidM HN2.out.cell
          go_wp2_with (refine wpList_store_row rfl 105 (.tmp 2) (.tmp 25) rfl w.heap.size #[.int .i64 4, .string ⟨#[]⟩] rfl rfl 105 #[.int .i64 0, .string ⟨#[]⟩] HC.out size66 rfl (ones66 _ _) ?_)
          go_wp2
          simp only [jumpN]
          exact bodyPost_ret (results_cell_row rfl _ _ w.heap.size 105 _ (0, 0) _ rfl (setRow_heap _ _ _ _ 105 _ HC.out) Tryz.underlying105 rfl size66) rfl (HFIN.out 4 [] q (p + 1) _ HT.out (HROW.out _ _ HN2.out _).1 HN2.out.lim (HROW.out _ _ HN2.out _).2 (fun _ => HQ.out))
        by_cases k4 : c = 32
        · subst k4
          have hk : headI (32 :: q) = 32 := rfl
          rw [hk] at HTK
          have HJ : Hid (skipL false (restL s (p + 1)) = S) := by unfold Hid; rw [hq, ← HSK.out, hr, skipL.eq_def false (32 :: q)]; simp only [HRM.out]; simp [blkB]
          clear hr HSK hq hk
          go_wp2_with fail
          refine HRK.out.mono ?_
          rintro _ _ ⟨rfl, n, rfl⟩
          go_wp2_with fail
          refine (HTK.out n).mono ?_
          rintro _ w2 ⟨rfl, hB2, hO2⟩
          rw [if_pos hl] at hB2
          have HN2 := hidM ((HN.out.quiet n).only hB2 (by omega) hO2)
          clear hB2 hO2 HTK HRK
          go_wp2
          go_step3
          refine ⟨⟨_, frN_mk rfl rfl rfl rfl rfl rfl, p + 1, HN2.out, HJ.out⟩, ?_⟩
          rw [HM.out, muL_box HN2.out.box]
          simp
          split <;> omega
        by_cases k5 : c = 9
        · subst k5
          have hk : headI (9 :: q) = 9 := rfl
          rw [hk] at HTK
          have HJ : Hid (skipL false (restL s (p + 1)) = S) := by unfold Hid; rw [hq, ← HSK.out, hr, skipL.eq_def false (9 :: q)]; simp only [HRM.out]; simp [blkB]
          clear hr HSK hq hk
          go_wp2_with fail
          refine HRK.out.mono ?_
          rintro _ _ ⟨rfl, n, rfl⟩
          go_wp2_with fail
          refine (HTK.out n).mono ?_
          rintro _ w2 ⟨rfl, hB2, hO2⟩
          rw [if_pos hl] at hB2
          have HN2 := hidM ((HN.out.quiet n).only hB2 (by omega) hO2)
          clear hB2 hO2 HTK HRK
          go_wp2
          go_step3
          refine ⟨⟨_, frN_mk rfl rfl rfl rfl rfl rfl, p + 1, HN2.out, HJ.out⟩, ?_⟩
          rw [HM.out, muL_box HN2.out.box]
          simp
          split <;> omega
        by_cases k6 : c = 13
        · subst k6
          have hk : headI (13 :: q) = 13 := rfl
          rw [hk] at HTK
          have HJ : Hid (skipL false (restL s (p + 1)) = S) := by unfold Hid; rw [hq, ← HSK.out, hr, skipL.eq_def false (13 :: q)]; simp only [HRM.out]; simp [blkB]
          clear hr HSK hq hk
          go_wp2_with fail
          refine HRK.out.mono ?_
          rintro _ _ ⟨rfl, n, rfl⟩
          go_wp2_with fail
          refine (HTK.out n).mono ?_
          rintro _ w2 ⟨rfl, hB2, hO2⟩
          rw [if_pos hl] at hB2
          have HN2 := hidM ((HN.out.quiet n).only hB2 (by omega) hO2)
          clear hB2 hO2 HTK HRK
          go_wp2
          go_step3
          refine ⟨⟨_, frN_mk rfl rfl rfl rfl rfl rfl, p + 1, HN2.out, HJ.out⟩, ?_⟩
          rw [HM.out, muL_box HN2.out.box]
          simp
          split <;> omega
        by_cases k7 : c = 34
        · subst k7
          have hk : headI (34 :: q) = 34 := rfl
          rw [hk] at HTK
          have HSS : Hid (S = 34 :: q) := by unfold Hid; rw [← HSK.out, hr, skipL, HRM.out]; simp [blkB]
          clear hr HSK hq hk
          go_wp2_with fail
          refine HRK.out.mono ?_
          rintro _ _ ⟨rfl, n, rfl⟩
          go_wp2_with fail
          refine (HTK.out n).mono ?_
          rintro _ w2 ⟨rfl, hB2, hO2⟩
          rw [if_pos hl] at hB2
          have HN2 := hidM ((HN.out.quiet n).only hB2 (by omega) hO2)
          clear hB2 hO2 HTK HRK
          go_wp2
          go_step3
          refine ⟨⟨_,_, frN_mk rfl rfl rfl rfl rfl rfl, p + 1, q, [], HN2.out, HSS.out, ⟨rfl, .inl ⟨rfl, rfl⟩⟩, by simp, by rw [HQ.out]; cases quoL q <;> simp⟩, ?_⟩
          rw [HM.out, muL_box HN2.out.box]
          simp
          split <;> omega
        by_cases k8 : c = 96
        · subst k8
          have hk : headI (96 :: q) = 96 := rfl
          rw [hk] at HTK
          have HSS : Hid (S = 96 :: q) := by unfold Hid; rw [← HSK.out, hr, skipL, HRM.out]; simp [blkB]
          have HRF : Hid (restL s p = S) := by unfold Hid; rw [HSS.out, hr]
          clear hr HSK hq hk
          go_wp2_with fail
          refine HRK.out.mono ?_
          rintro _ _ ⟨rfl, n, rfl⟩
          go_wp2_with fail
          refine (HTK.out n).mono ?_
          rintro _ w2 ⟨rfl, hB2, hO2⟩
          rw [if_pos hl] at hB2
          have HN2 := hidM ((HN.out.quiet n).only hB2 (by omega) hO2)
          clear hB2 hO2 HTK HRK
          go_wp2
          go_step3
          refine ⟨⟨p, frN_mk rfl rfl rfl rfl rfl rfl, p + 1, q, HN2.out, HSS.out, HRF.out, by omega, by rw [HQ.out, show p + 1 - p - 1 = 0 by omega]; cases rawL q <;> simp⟩, ?_⟩
          rw [HM.out, muL_box HN2.out.box]
          simp
          split <;> omega
        have hk : headI (c :: q) = (c.toNat : Int) := rfl
        rw [hk] at HTK
        have hbk : blkB c = false := by simp [blkB, k4, k5, k6]
        have HSS : Hid (S = c :: q) := by unfold Hid; rw [← HSK.out, hr, skipL, HRM.out, hbk]; simp
        have HRF : Hid (restL s p = S) := by unfold Hid; rw [HSS.out, hr]
        have HT : Hid (tokS S = (5, c :: q.take (wordN q), q.drop (wordN q))) := by unfold Hid; rw [HSS.out, tokS]; simp [k1, k2, k3, k7, k8]
        have b0 : ((c.toNat : Int) == -1) = false := by simp
        have b1 : ((c.toNat : Int) == 10) = false := beq_false_of_ne fun h => k1 (byte_of (n := 10) h (by decide))
        have b2 : ((c.toNat : Int) == 40) = false := beq_false_of_ne fun h => k2 (byte_of (n := 40) h (by decide))
        have b3 : ((c.toNat : Int) == 41) = false := beq_false_of_ne fun h => k3 (byte_of (n := 41) h (by decide))
        have b4 : ((c.toNat : Int) == 32) = false := beq_false_of_ne fun h => k4 (byte_of (n := 32) h (by decide))
        have b5 : ((c.toNat : Int) == 9) = false := beq_false_of_ne fun h => k5 (byte_of (n := 9) h (by decide))
        have b6 : ((c.toNat : Int) == 13) = false := beq_false_of_ne fun h => k6 (byte_of (n := 13) h (by decide))
        have b7 : ((c.toNat : Int) == 34) = false := beq_false_of_ne fun h => k7 (byte_of (n := 34) h (by decide))
        have b8 : ((c.toNat : Int) == 96) = false := beq_false_of_ne fun h => k8 (byte_of (n := 96) h (by decide))
        clear hr HSK hq hk hbk k1 k2 k3 k4 k5 k6 k7 k8
        go_wp2_with fail
        refine HRK.out.mono ?_
        rintro _ _ ⟨rfl, n, rfl⟩
        go_wp2_with fail
        refine (HTK.out n).mono ?_
        rintro _ w2 ⟨rfl, hB2, hO2⟩
        rw [if_pos hl] at hB2
        have HN2 := hidM ((HN.out.quiet n).only hB2 (by omega) hO2)
        clear hB2 hO2 HTK HRK
        go_wp2
        go_step3
        refine (by assumption : ∀ (a : Act) (w : World), _ → _) _ _ ?_
        refine H4.out _ _ _ ⟨p, frN_mk rfl rfl rfl rfl rfl rfl, p + 1, c, q, HN2.out, HSS.out, HRF.out, by omega, by rw [HQ.out]; omega, HT.out⟩ ?_
        rw [HM.out, muL_box HN2.out.box]
        simp
        split <;> omega
  · -- a remark
    intro a w1 hJ
    clear HA0
    obtain ⟨fv, ⟨u, rfl⟩, p, hN, hSk⟩ := hJ
    have HN := hidM hN
    have hlim := hN.lim
    have HM : Hid (∀ a, muL b s 1 a w1 = 4 * (s.size - p) + (if 1 = 0 then (if remB (restL s p) then 3 else 1) else if 1 = 1 then 2 else 0)) := fun a => muL_box hN.box
    have HSK := hidM hSk
    have HL := hidM (look_any b s p w1 hN.box hs hN.lim)
    clear hN hSk
    cases hr : restL s p with
    | nil =>
      rw [hr] at HL HSK HM
      have HSK2 : Hid (skipL false (restL s p) = S) := by unfold Hid; rw [hr]; exact HSK.out
      have HRM : Hid (remB (restL s p) = false) := by unfold Hid; rw [hr]; rfl
      clear hr HSK
      simp only [headI] at HL
      go_wp2_with fail
      refine HL.out.mono ?_
      rintro _ _ ⟨rfl, n, rfl⟩
      have HN2 := hidM (HN.out.quiet n)
      go_wp2
      go_step3
      refine ⟨⟨_, frN_mk rfl rfl rfl rfl rfl rfl, p, HN2.out, HSK2.out⟩, ?_⟩
      rw [HM.out, muL_box HN2.out.box, HRM.out]
      simp
    | cons c q =>
      obtain ⟨hl, _, hq⟩ := rest_cons hr
      have HQ := hidM hq
      by_cases hc : c = 10
      · subst hc
        rw [hr] at HL HSK
        have HRM : Hid (remB (restL s p) = false) := by unfold Hid; rw [hr]; cases q <;> simp [remB]
        have HSK2 : Hid (skipL false (restL s p) = S) := by
          unfold Hid; have h1 := HRM.out; rw [hr] at h1 ⊢; rw [← HSK.out, skipL, skipL, h1]; simp [blkB]
        clear hr HSK hq
        have hk : headI (10 :: q) = 10 := rfl
        rw [hk] at HL
        go_wp2_with fail
        refine HL.out.mono ?_
        rintro _ _ ⟨rfl, n, rfl⟩
        have HN2 := hidM (HN.out.quiet n)
        go_wp2
        go_step3
        refine ⟨⟨_, frN_mk rfl rfl rfl rfl rfl rfl, p, HN2.out, HSK2.out⟩, ?_⟩
        rw [HM.out, muL_box HN2.out.box, HRM.out]
        simp
      · have HSK2 : Hid (skipL true (restL s (p + 1)) = S) := by
          unfold Hid; rw [hq, ← HSK.out, hr, skipL, if_neg hc]
        have HTK := hidM (fun n => take_any b s p (w1.drewN n) (HN.out.quiet n).box hs hlim)
        rw [hr] at HL HTK
        have hk : headI (c :: q) = (c.toNat : Int) := rfl
        rw [hk] at HL HTK
        have b1 : ((c.toNat : Int) == 10) = false := by
          refine beq_false_of_ne fun h => hc ?_
          exact byte_of (n := 10) h (by decide)
        have b2 : ((c.toNat : Int) == -1) = false := by simp
        clear hr HSK hq hc hk
        go_wp2_with fail
        refine HL.out.mono ?_
        rintro _ _ ⟨rfl, n, rfl⟩
        go_wp2_with fail
        refine (HTK.out n).mono ?_
        rintro _ w2 ⟨rfl, hB2, hO2⟩
        rw [if_pos hl] at hB2
        have HN2 := hidM ((HN.out.quiet n).only hB2 (by omega) hO2)
        clear hB2 hO2 HTK HL
        go_wp2
        go_step3
        refine ⟨⟨_, frN_mk rfl rfl rfl rfl rfl rfl, p + 1, HN2.out, HSK2.out⟩, ?_⟩
        rw [HM.out, muL_box HN2.out.box]
        simp
        omega
  · -- as it is written
    intro a w1 hJ
    clear HA0
    obtain ⟨f, ⟨u, rfl⟩, p, r, hN, hSc, hSf, hfp, hraw⟩ := hJ
    have HN := hidM hN
    have hlim := hN.lim
    have HM : Hid (∀ a, muL b s 3 a w1 = 4 * (s.size - p) + (if 3 = 0 then (if remB (restL s p) then 3 else 1) else if 3 = 1 then 2 else 0)) := fun a => muL_box hN.box
    have HSC := hidM hSc
    have HSF := hidM hSf
    have HRW := hidM hraw
    have HTK := hidM (take_any b s p w1 hN.box hs hN.lim)
    have HT6 : Hid (rawL r = none → tokS S = (6, [], [])) := by intro h; rw [hSc, tokS]; simp [h]
    have HT5 : Hid (∀ n, rawL r = some n → tokS S = (5, r.take n, r.drop (n + 1))) := by intro n h; rw [hSc, tokS]; simp [h]
    clear hN hSc hSf hraw
    cases hr : restL s p with
    | nil =>
      have hl : ¬ p < s.size := by have := rest_nil hr hlim; omega
      rw [hr] at HTK HRW
      have HR0 := hidM (HT6.out (by rw [HRW.out]; rfl))
      simp only [headI] at HTK
      clear hr HRW
      go_wp2_with fail
      refine HTK.out.mono ?_
      rintro _ w2 ⟨rfl, hB2, hO2⟩
      rw [if_neg hl] at hB2
      have HN2 := hidM (HN.out.only hB2 hlim hO2)
      clear hB2 hO2 HTK
      have HC := hidM HN2.out.cell
      go_wp2_with (refine wpList_store_row rfl 105 (.tmp 2) (.tmp 81) rfl w.heap.size #[.int .i64 6, .string ⟨#[]⟩] rfl rfl 105 #[.int .i64 0, .string ⟨#[]⟩] HC.out size66 rfl (ones66 _ _) ?_)
      go_wp2
      simp only [jumpN]
      exact bodyPost_ret (results_cell_row rfl _ _ w.heap.size 105 _ (0, 0) _ rfl (setRow_heap _ _ _ _ 105 _ HC.out) Tryz.underlying105 rfl size66) rfl (HFIN.out 6 [] [] _ _ HR0.out (HROW.out _ _ HN2.out _).1 HN2.out.lim (HROW.out _ _ HN2.out _).2 (fun h => absurd rfl h))
    | cons c q =>
      obtain ⟨hl, _, hq⟩ := rest_cons hr
      have HQ := hidM hq
      rw [hr] at HTK HRW
      by_cases hc : c = 96
      · subst hc
        have hk : headI (96 :: q) = 96 := rfl
        rw [hk] at HTK
        have HRN : Hid (rawL r = some (p - f - 1)) := by unfold Hid; rw [HRW.out, rawL, if_pos rfl]; simp
        have HT := hidM (HT5.out _ HRN.out)
        obtain ⟨m, hm⟩ : ∃ m, m = f + 1 := ⟨_, rfl⟩
        obtain ⟨X, hX⟩ : ∃ X, X = s.extract m p := ⟨_, rfl⟩
        have hmf : (f : Int) + 1 = (m : Int) := by omega
        have hmp : m ≤ p := by omega
        have hXs : X.size ≤ 281474976710656 := by rw [hX, ByteArray.size_extract]; omega
        have HCL := hidM (fun V => clone_any X V hXs)
        have hRr : restL s (f + 1) = r := by
          have h1 := HSF.out
          rw [HSC.out] at h1
          exact (rest_cons h1).2.2
        have HXE : Hid (X = ⟨(r.take (p - f - 1)).toArray⟩) := by
          unfold Hid
          rw [hX, ext_bytes, hm, hRr]
          rfl
        have HRE : Hid (restL s (p + 1) = r.drop (p - f - 1 + 1)) := by
          unfold Hid
          rw [← hRr]
          unfold restL
          rw [List.drop_drop]
          congr 1
          omega
        have he : s.extract m p = X := hX.symm
        obtain ⟨p1, hp1⟩ : ∃ p1, p1 = p + 1 := ⟨_, rfl⟩
        have hpp : (p1 : Int) - 1 = (p : Int) := by omega
        rw [← hp1] at HRE
        have HP1 := hidM hp1
        have hp1l : p1 ≤ s.size := by omega
        have hm6 : m ≤ 1000000 := by omega
        have hp6 : p ≤ 1000000 := by omega
        have hw1 : IntKind.i64.wrap (m : Int) = (m : Int) := by rw [IntKind.wrap_i64]; omega
        have hw2 : IntKind.i64.wrap (p : Int) = (p : Int) := by rw [IntKind.wrap_i64]; omega
        have hw3 : wrap64 (m : Int) = (m : Int) := by unfold wrap64; omega
        have hw4 : wrap64 (p : Int) = (p : Int) := by unfold wrap64; omega
        clear hX hm hr HRW hq hRr
        go_wp2_with fail
        refine HTK.out.mono ?_
        rintro _ w2 ⟨rfl, hB2, hO2⟩
        rw [if_pos hl, ← hp1] at hB2
        clear hp1
        have HN2 := hidM (HN.out.only hB2 hp1l hO2)
        have c0 := hB2.text
        have c1 := hB2.taken
        clear hB2 hO2 HTK
        go_upto_region 27 with fail
        go_region_with (go_at_call 110; refine (HCL.out _).mono ?_; rintro _ w4 ⟨rfl, hb4⟩; have HN4 := hidM (NX.below (w := w2.drew) (HN2.out.quiet 1) hb4 (NX.lt (HN2.out.quiet 1))); have d0 : w4.cell? ⟨w.heap.size, 0, none⟩ = some (.int .i64 0) := (by rw [cell_of_row _ _ _ _ 105 (0, 0) HN4.out.cell]; rfl); have d1 : w4.cell? ⟨w.heap.size, 1, none⟩ = some (.string ⟨#[]⟩) := (by rw [cell_of_row _ _ _ _ 105 (0, 0) HN4.out.cell]; rfl); have f0 : w4.frozen? ⟨w.heap.size, 0, none⟩ = false := (by simp [World.frozen?, HN4.out.cell]); have f1 : w4.frozen? ⟨w.heap.size, 1, none⟩ = false := (by simp [World.frozen?, HN4.out.cell]))
        all_goals (
          go_wp2
          simp only [jumpN]
          have h1 := HFIN.out 5 (r.take (p - f - 1)) (r.drop (p - f - 1 + 1)) p1 ((w4.setCell ⟨w.heap.size, 0, none⟩ (.int .i64 5)).setCell ⟨w.heap.size, 1, none⟩ (.string X)) HT.out
            (HN4.out.box.same ((Below.heap_setCell _ _ _ b (by have := HN4.out.own; simp; omega)).trans (Below.heap_setCell _ _ _ b (by have := HN4.out.own; simp; omega)))) hp1l ((HN4.out.but.setCell _ _).setCell _ _) (fun _ => HRE.out)
          rw [← HXE.out] at h1
          exact bodyPost_ret (results_cell_row rfl _ _ w.heap.size 105 _ (0, 0) _ rfl (box2_set HN4.out.cell) Tryz.underlying105 rfl size66) rfl h1)
      · by_cases hc2 : c = 10
        · subst hc2
          have hk : headI (10 :: q) = 10 := rfl
          rw [hk] at HTK
          have HR0 := hidM (HT6.out (by rw [HRW.out, rawL, if_neg (by decide), if_pos rfl]; rfl))
          clear hr HRW hq hc hk
          go_wp2_with fail
          refine HTK.out.mono ?_
          rintro _ w2 ⟨rfl, hB2, hO2⟩
          rw [if_pos hl] at hB2
          have HN2 := hidM (HN.out.only hB2 (by omega) hO2)
          clear hB2 hO2 HTK
          have HC := hidM HN2.out.cell
          go_wp2_with (refine wpList_store_row rfl 105 (.tmp 2) (.tmp 81) rfl w.heap.size #[.int .i64 6, .string ⟨#[]⟩] rfl rfl 105 #[.int .i64 0, .string ⟨#[]⟩] HC.out size66 rfl (ones66 _ _) ?_)
          go_wp2
          simp only [jumpN]
          exact bodyPost_ret (results_cell_row rfl _ _ w.heap.size 105 _ (0, 0) _ rfl (setRow_heap _ _ _ _ 105 _ HC.out) Tryz.underlying105 rfl size66) rfl (HFIN.out 6 [] [] _ _ HR0.out (HROW.out _ _ HN2.out _).1 HN2.out.lim (HROW.out _ _ HN2.out _).2 (fun h => absurd rfl h))
        · have hk : headI (c :: q) = (c.toNat : Int) := rfl
          rw [hk] at HTK
          have b1 : ((c.toNat : Int) == 96) = false := by
            refine beq_false_of_ne fun h => hc ?_
            exact byte_of (n := 96) h (by decide)
          have b2 : ((c.toNat : Int) == 10) = false := by
            refine beq_false_of_ne fun h => hc2 ?_
            exact byte_of (n := 10) h (by decide)
          have b3 : ((c.toNat : Int) == -1) = false := by simp
          have HR2 : Hid (rawL r = (rawL (restL s (p + 1))).map (· + (p + 1 - f - 1))) := by
            unfold Hid
            rw [HRW.out, rawL, if_neg hc, if_neg hc2, hq, Option.map_map]
            congr 1
            funext n
            simp only [Function.comp]
            omega
          clear hr HRW hq hc hc2 hk
          go_wp2_with fail
          refine HTK.out.mono ?_
          rintro _ w2 ⟨rfl, hB2, hO2⟩
          rw [if_pos hl] at hB2
          have HN2 := hidM (HN.out.only hB2 (by omega) hO2)
          clear hB2 hO2 HTK
          go_wp2
          go_step3
          refine ⟨⟨f, frN_mk rfl rfl rfl rfl rfl rfl, p + 1, r, HN2.out, HSC.out, HSF.out, by omega, HR2.out⟩, ?_⟩
          rw [HM.out, muL_box HN2.out.box]
          simp
          omega
  · -- quoted
    intro a w1 hJ
    clear HA0
    obtain ⟨sv, fv, ⟨u, rfl⟩, p, r, acc, hN, hSc, hown, hacc, hquo⟩ := hJ
    have HN := hidM hN
    have hlim := hN.lim
    have HM : Hid (∀ a, muL b s 2 a w1 = 4 * (s.size - p) + (if 2 = 0 then (if remB (restL s p) then 3 else 1) else if 2 = 1 then 2 else 0)) := fun a => muL_box hN.box
    have HSC := hidM hSc
    have HO := hidM hown
    have HQU := hidM hquo
    have HTK := hidM (take_any b s p w1 hN.box hs hN.lim)
    have HT6 : Hid (quoL r = none → tokS S = (6, [], [])) := by intro h; rw [hSc, tokS]; simp [h]
    have HT5 : Hid (∀ x y, quoL r = some (x, y) → tokS S = (5, x, y)) := by intro x y h; rw [hSc, tokS]; simp [h]
    have HPUSH : Hid (∀ (V : World) (p' : Nat) (x : UInt8), NX b w.heap.size s w V p' → OwnB V (w.heap.size + 1) sv acc → ∀ o v' V', V'.ownsRow (w.heap.size + 1) 5 1 v' (acc.length + 1) (bytesV acc ++ [.int .u8 (x.toNat : Int)]) → (V.alloc o).grownBy V' sv.ownBlock → NX b w.heap.size s w V' p' ∧ OwnB V' (w.heap.size + 1) v' (acc ++ [x])) :=
      fun V p' x h1 h2 o v' V' h3 h4 => ⟨h1.below (below_push h2 (Below.refl _ V) h1.lt h4) (Nat.lt_succ_self _), own_push h3⟩
    clear hN hSc hown hquo
    obtain ⟨i0, hi, hz0, hz1, hz2⟩ := info_parts info5x
    cases hr : restL s p with
    | nil =>
      have hl : ¬ p < s.size := by have := rest_nil hr hlim; omega
      rw [hr] at HTK HQU
      have HR0 := hidM (HT6.out (by rw [HQU.out]; rfl))
      simp only [headI] at HTK
      clear hr HQU
      go_wp2_with fail
      refine HTK.out.mono ?_
      rintro _ w2 ⟨rfl, hB2, hO2⟩
      rw [if_neg hl] at hB2
      have HN2 := hidM (HN.out.only hB2 hlim hO2)
      clear hB2 hO2 HTK
      have HC := hidM HN2.out.cell
      go_wp2_with (refine wpList_store_row rfl 105 (.tmp 2) (.tmp 99) rfl w.heap.size #[.int .i64 6, .string ⟨#[]⟩] rfl rfl 105 #[.int .i64 0, .string ⟨#[]⟩] HC.out size66 rfl (ones66 _ _) ?_)
      go_wp2
      simp only [jumpN]
      exact bodyPost_ret (results_cell_row rfl _ _ w.heap.size 105 _ (0, 0) _ rfl (setRow_heap _ _ _ _ 105 _ HC.out) Tryz.underlying105 rfl size66) rfl (HFIN.out 6 [] [] _ _ HR0.out (HROW.out _ _ HN2.out _).1 HN2.out.lim (HROW.out _ _ HN2.out _).2 (fun h => absurd rfl h))
    | cons c q =>
      obtain ⟨hl, _, hq⟩ := rest_cons hr
      have HQ := hidM hq
      rw [hr] at HTK HQU
      by_cases hc : c = 34
      · subst hc
        have hk : headI (34 :: q) = 34 := rfl
        rw [hk] at HTK
        have HT := hidM (HT5.out acc q (by rw [HQU.out, quoL.eq_def]; simp))
        clear hr HQU hk
        go_wp2_with fail
        refine HTK.out.mono ?_
        rintro _ w2 ⟨rfl, hB2, hO2⟩
        rw [if_pos hl] at hB2
        have HN2 := hidM (HN.out.only hB2 (by omega) hO2)
        have HO2 : Hid (OwnB w2 (w.heap.size + 1) sv acc) := own_only HO.out hO2 (by have := HN.out.own; omega)
        have hcv := conv_own HO2.out
        clear hB2 hO2 HTK
        have HC := hidM HN2.out.cell
        go_wp2_with (refine wpList_store_row rfl 105 (.tmp 2) (.tmp 89) rfl w.heap.size #[.int .i64 5, .string ⟨acc.toArray⟩] rfl rfl 105 #[.int .i64 0, .string ⟨#[]⟩] HC.out size66 rfl (ones66 _ _) ?_)
        go_wp2
        simp only [jumpN]
        exact bodyPost_ret (results_cell_row rfl _ _ w.heap.size 105 _ (0, 0) _ rfl (setRow_heap _ _ _ _ 105 _ HC.out) Tryz.underlying105 rfl size66) rfl (HFIN.out 5 acc q (p + 1) _ HT.out (HROW.out _ _ HN2.out _).1 HN2.out.lim (HROW.out _ _ HN2.out _).2 (fun _ => HQ.out))
      · by_cases hc3 : c = 10
        · subst hc3
          have hk : headI (10 :: q) = 10 := rfl
          rw [hk] at HTK
          have HR0 := hidM (HT6.out (by rw [HQU.out, quoL.eq_def]; simp))
          clear hr HQU hq hc hk
          go_wp2_with fail
          refine HTK.out.mono ?_
          rintro _ w2 ⟨rfl, hB2, hO2⟩
          rw [if_pos hl] at hB2
          have HN2 := hidM (HN.out.only hB2 (by omega) hO2)
          clear hB2 hO2 HTK
          have HC := hidM HN2.out.cell
          go_wp2_with (refine wpList_store_row rfl 105 (.tmp 2) (.tmp 99) rfl w.heap.size #[.int .i64 6, .string ⟨#[]⟩] rfl rfl 105 #[.int .i64 0, .string ⟨#[]⟩] HC.out size66 rfl (ones66 _ _) ?_)
          go_wp2
          simp only [jumpN]
          exact bodyPost_ret (results_cell_row rfl _ _ w.heap.size 105 _ (0, 0) _ rfl (setRow_heap _ _ _ _ 105 _ HC.out) Tryz.underlying105 rfl size66) rfl (HFIN.out 6 [] [] _ _ HR0.out (HROW.out _ _ HN2.out _).1 HN2.out.lim (HROW.out _ _ HN2.out _).2 (fun h => absurd rfl h))
        · by_cases hc2 : c = 92
          · subst hc2
            have hk : headI (92 :: q) = 92 := rfl
            rw [hk] at HTK
            have HTK2 := hidM (fun V (hV : RBox V b s (p + 1)) => take_any b s (p + 1) V hV hs (by omega))
            rw [hq] at HTK2
            cases q with
            | nil =>
              have hl2 : ¬ p + 1 < s.size := by have := rest_nil hq (by omega); omega
              have HR0 := hidM (HT6.out (by rw [HQU.out, quoL.eq_def]; simp))
              simp only [headI] at HTK2
              have HMT := hidM (fun V => meant_any (-1) V)
              have hmi : mntI (-1) = -1 := by decide
              rw [hmi] at HMT
              clear hr HQU hq hc hk
              go_wp2_with fail
              refine HTK.out.mono ?_
              rintro _ w2 ⟨rfl, hB2, hO2⟩
              rw [if_pos hl] at hB2
              have HN1 := hidM (HN.out.only hB2 (by omega) hO2)
              clear hO2 HTK
              go_wp2_with fail
              refine (HTK2.out _ hB2).mono ?_
              rintro _ w3 ⟨rfl, hB3, hO3⟩
              rw [if_neg hl2] at hB3
              have HN2 := hidM (HN1.out.only hB3 (by omega) hO3)
              clear hB3 hO3 hB2 HTK2
              go_wp2_with fail
              refine (HMT.out _).mono ?_
              rintro _ w4 ⟨rfl, h4⟩
              rw [h4]
              clear h4 w4
              have HC := hidM HN2.out.cell
              go_wp2_with (refine wpList_store_row rfl 105 (.tmp 2) (.tmp 99) rfl w.heap.size #[.int .i64 6, .string ⟨#[]⟩] rfl rfl 105 #[.int .i64 0, .string ⟨#[]⟩] HC.out size66 rfl (ones66 _ _) ?_)
              go_wp2
              simp only [jumpN]
              exact bodyPost_ret (results_cell_row rfl _ _ w.heap.size 105 _ (0, 0) _ rfl (setRow_heap _ _ _ _ 105 _ HC.out) Tryz.underlying105 rfl size66) rfl (HFIN.out 6 [] [] _ _ HR0.out (HROW.out _ _ HN2.out _).1 HN2.out.lim (HROW.out _ _ HN2.out _).2 (fun h => absurd rfl h))
            | cons d q' =>
              obtain ⟨hl2, _, hq2⟩ := rest_cons hq
              have HQ2 := hidM hq2
              have hk2 : headI (d :: q') = (d.toNat : Int) := rfl
              rw [hk2] at HTK2
              have HMT := hidM (fun V => meant_any (d.toNat : Int) V)
              cases hm : mntL d with
              | none =>
                rw [mnt_none hm] at HMT
                have HR0 := hidM (HT6.out (by rw [HQU.out, quoL.eq_def]; simp [hm]))
                clear hr HQU hq hc hk hk2 hm hq2
                go_wp2_with fail
                refine HTK.out.mono ?_
                rintro _ w2 ⟨rfl, hB2, hO2⟩
                rw [if_pos hl] at hB2
                have HN1 := hidM (HN.out.only hB2 (by omega) hO2)
                clear hO2 HTK
                go_wp2_with fail
                refine (HTK2.out _ hB2).mono ?_
                rintro _ w3 ⟨rfl, hB3, hO3⟩
                rw [if_pos hl2] at hB3
                have HN2 := hidM (HN1.out.only hB3 (by omega) hO3)
                clear hB3 hO3 hB2 HTK2
                go_wp2_with fail
                refine (HMT.out _).mono ?_
                rintro _ w4 ⟨rfl, h4⟩
                rw [h4]
                clear h4 w4
                have HC := hidM HN2.out.cell
                go_wp2_with (refine wpList_store_row rfl 105 (.tmp 2) (.tmp 99) rfl w.heap.size #[.int .i64 6, .string ⟨#[]⟩] rfl rfl 105 #[.int .i64 0, .string ⟨#[]⟩] HC.out size66 rfl (ones66 _ _) ?_)
                go_wp2
                simp only [jumpN]
                exact bodyPost_ret (results_cell_row rfl _ _ w.heap.size 105 _ (0, 0) _ rfl (setRow_heap _ _ _ _ 105 _ HC.out) Tryz.underlying105 rfl size66) rfl (HFIN.out 6 [] [] _ _ HR0.out (HROW.out _ _ HN2.out _).1 HN2.out.lim (HROW.out _ _ HN2.out _).2 (fun h => absurd rfl h))
              | some e =>
                rw [mnt_some hm] at HMT
                have HQ3 : Hid (quoL r = (quoL (restL s (p + 2))).map fun x => ((acc ++ [e]) ++ x.1, x.2)) := by
                  unfold Hid
                  rw [HQU.out, quoL.eq_def]
                  simp [hm, hq2, Option.map_map, Function.comp_def]
                have b1 : ((e.toNat : Int) == -1) = false := by simp
                clear hr HQU hq hc hk hk2 hm hq2
                go_wp2_with fail
                refine HTK.out.mono ?_
                rintro _ w2 ⟨rfl, hB2, hO2⟩
                rw [if_pos hl] at hB2
                have HN1 := hidM (HN.out.only hB2 (by omega) hO2)
                have HO1 : Hid (OwnB w2 (w.heap.size + 1) sv acc) := own_only HO.out hO2 (by have := HN.out.own; omega)
                clear hO2 HTK
                go_wp2_with fail
                refine (HTK2.out _ hB2).mono ?_
                rintro _ w3 ⟨rfl, hB3, hO3⟩
                rw [if_pos hl2] at hB3
                have HN2 := hidM (HN1.out.only hB3 (by omega) hO3)
                have HO2 : Hid (OwnB w3 (w.heap.size + 1) sv acc) := own_only HO1.out hO3 (by have := HN.out.own; omega)
                clear hB3 hO3 hB2 HTK2
                go_wp2_with fail
                refine (HMT.out _).mono ?_
                rintro _ w4 ⟨rfl, h4⟩
                rw [h4]
                clear h4 w4
                have hsz := HN2.out.lt
                have hu : IntKind.u8.wrap (e.toNat : Int) = (e.toNat : Int) := u8_wrap e
                have hx8 : e.toNat < 256 := e.toNat_lt
                go_wp2_with (at_builtin; refine wpList_append_own _ rfl _ _ 71 rfl (w.heap.size + 1) 5 i0 (.int .u8 0) 1 1 Tryz.underlying71 hi hz0 hz1 hz2 rfl (by decide) _ _ _ rfl (World.ownsRow.alloc HO2.out _) ⟨w3.heap.size, 0, none⟩ 1 1 [.int .u8 (e.toNat : Int)] ?d0a rfl ?d1a ?d2a ?d3a ?d4a ?d5a ?_)
                case d0a => rfl
                case d1a => exact cell_new_one w3 _
                case d2a => intro u hu; simp at hu; subst hu; rfl
                case d3a => unfold maxLen; omega
                case d4a => omega
                case d5a => simp; omega
                intro v' w5 hown' hgrow _
                obtain ⟨hn5, ho5⟩ := HPUSH.out w3 _ e HN2.out HO2.out _ v' w5 hown' hgrow
                have HN5 := hidM hn5
                have HO5 := hidM ho5
                clear hown' hgrow hn5 ho5
                go_wp2
                go_step3
                refine ⟨⟨_,_, frN_mk rfl rfl rfl rfl rfl rfl, p + 2, r, acc ++ [e], HN5.out, HSC.out, HO5.out, by simp; omega, HQ3.out⟩, ?_⟩
                rw [HM.out, muL_box HN5.out.box]
                simp
                omega
          · have hk : headI (c :: q) = (c.toNat : Int) := rfl
            rw [hk] at HTK
            have b1 : ((c.toNat : Int) == 34) = false := by
              refine beq_false_of_ne fun h => hc ?_
              exact byte_of (n := 34) h (by decide)
            have b2 : ((c.toNat : Int) == 10) = false := by
              refine beq_false_of_ne fun h => hc3 ?_
              exact byte_of (n := 10) h (by decide)
            have b3 : ((c.toNat : Int) == 92) = false := by
              refine beq_false_of_ne fun h => hc2 ?_
              exact byte_of (n := 92) h (by decide)
            have b4 : ((c.toNat : Int) == -1) = false := by simp
            have HQ3 : Hid (quoL r = (quoL (restL s (p + 1))).map fun x => ((acc ++ [c]) ++ x.1, x.2)) := by
              unfold Hid
              rw [HQU.out, quoL.eq_def]
              simp [hc, hc2, hc3, hq, Option.map_map, Function.comp_def]
            clear hr HQU hq hc hc2 hc3 hk
            go_wp2_with fail
            refine HTK.out.mono ?_
            rintro _ w2 ⟨rfl, hB2, hO2⟩
            rw [if_pos hl] at hB2
            have HN2 := hidM (HN.out.only hB2 (by omega) hO2)
            have HO2 : Hid (OwnB w2 (w.heap.size + 1) sv acc) := own_only HO.out hO2 (by have := HN.out.own; omega)
            clear hB2 hO2 HTK
            have hsz := HN2.out.lt
            have hu : IntKind.u8.wrap (c.toNat : Int) = (c.toNat : Int) := u8_wrap c
            have hx8 : c.toNat < 256 := c.toNat_lt
            go_wp2_with (at_builtin; refine wpList_append_own _ rfl _ _ 71 rfl (w.heap.size + 1) 5 i0 (.int .u8 0) 1 1 Tryz.underlying71 hi hz0 hz1 hz2 rfl (by decide) _ _ _ rfl (World.ownsRow.alloc HO2.out _) ⟨w2.heap.size, 0, none⟩ 1 1 [.int .u8 (c.toNat : Int)] ?d0b rfl ?d1b ?d2b ?d3b ?d4b ?d5b ?_)
            case d0b => rfl
            case d1b => exact cell_new_one w2 _
            case d2b => intro u hu; simp at hu; subst hu; rfl
            case d3b => unfold maxLen; omega
            case d4b => omega
            case d5b => simp; omega
            intro v' w5 hown' hgrow _
            obtain ⟨hn5, ho5⟩ := HPUSH.out w2 _ c HN2.out HO2.out _ v' w5 hown' hgrow
            have HN5 := hidM hn5
            have HO5 := hidM ho5
            clear hown' hgrow hn5 ho5
            go_wp2
            go_step3
            refine ⟨⟨_,_, frN_mk rfl rfl rfl rfl rfl rfl, p + 1, r, acc ++ [c], HN5.out, HSC.out, HO5.out, by simp; omega, HQ3.out⟩, ?_⟩
            rw [HM.out, muL_box HN5.out.box]
            simp
            omega
  · -- the first pass
    intro hp
    go_wp2
    go_step3
    refine (by assumption : ∀ (a : Act) (w : World), _ → _) _ _ ?_
    exact hp _ _ ⟨_, frN_mk rfl rfl rfl rfl rfl rfl, _, HA0.out, HS.out.symm⟩
end Go.Proofs.YtmhjdahmmdfbcaaGreatDoor.M
namespace Go.Proofs.YtmhjdahmmdfbcaaGreatDoor.M
open Go.RowKit
/-- texts in a row -/
def strV (x : List UInt8) : Value := .string ⟨x.toArray⟩
/-- The value v owns just the texts ws, in memory from 'base' on. -/
def OwnW (w : World) (base : Nat) (v : Value) (ws : List (List UInt8)) : Prop := w.ownsRow base 9 1 v ws.length (ws.map strV)
theorem ownW_push {w1 : World} {B : Nat} {v' : Value} {P : List (List UInt8)} {c : List UInt8} (h : w1.ownsRow B 9 1 v' (P.length + 1) (P.map strV ++ [.string ⟨c.toArray⟩])) : OwnW w1 B v' (P ++ [c]) := by
  unfold OwnW
  rw [List.map_append]
  simpa [strV] using h
theorem ownW_below {w W : World} {B C : Nat} {v : Value} {P : List (List UInt8)} (h : OwnW w B v P) (hb : Below C w W) (hC : w.heap.size ≤ C) : OwnW W B v P := by
  obtain ⟨hl, h2⟩ := h
  refine ⟨hl, ?_⟩
  rcases h2 with h2 | ⟨g, cap, cur, rfl, hB, hg, hr⟩
  · exact .inl h2
  · exact .inr ⟨g, cap, cur, rfl, hB, (hb.block g (by have := (Array.getElem?_eq_some_iff.1 hg).1; omega)).trans hg, hr⟩
theorem ownW_but {w W : World} {B b : Nat} {v : Value} {P : List (List UInt8)} (h : OwnW w B v P) (hb : But b w.heap.size w W) (hC : b < B) : OwnW W B v P := by
  obtain ⟨hl, h2⟩ := h
  refine ⟨hl, ?_⟩
  rcases h2 with h2 | ⟨g, cap, cur, rfl, hB, hg, hr⟩
  · exact .inl h2
  · exact .inr ⟨g, cap, cur, rfl, hB, (hb.block g (Array.getElem?_eq_some_iff.1 hg).1 (by omega)).trans hg, hr⟩
theorem ownW_mono {w : World} {A B : Nat} {v : Value} {P : List (List UInt8)} (h : OwnW w B v P) (hA : A ≤ B) : OwnW w A v P := by
  obtain ⟨hl, h2⟩ := h
  refine ⟨hl, ?_⟩
  rcases h2 with h2 | ⟨g, cap, cur, rfl, hB, hr⟩
  · exact .inl h2
  · exact .inr ⟨g, cap, cur, rfl, by omega, hr⟩
theorem size49 : (Tryz.prog.info? 87).map (·.size) = some 3 := by kernel_rfl
theorem zero49 (w : World) : (zeroValue 87).run Tryz.prog w = .ok (.agg #[.slice none 0 0, .int .i64 0, .bool false]) w := by kernel_rfl
theorem ones49 (n : Option Addr) (l c : Nat) (m : Int) (b : Bool) : (#[.slice n l c, .int .i64 m, .bool b] : Array Value).all (·.oneCell') = true := by simp [Value.oneCell']
theorem OwnW.isSlice {w : World} {B : Nat} {v : Value} {P : List (List UInt8)} (h : OwnW w B v P) : ∃ n c, v = .slice n P.length c := by
  rcases h.2 with ⟨rfl, hn⟩ | ⟨g, cap, cur, rfl, _⟩
  · exact ⟨none, 0, by rw [hn]⟩
  · exact ⟨_,_, rfl⟩
theorem info9x : (Tryz.prog.info? 9).map (fun i => (i.zero, i.size, i.bytes)) = some (some (.string .empty), 1, 16) := by kernel_rfl
def rowB (v : Value) (k : Nat) (l : Bool) : Obj := .cells #[v, .int .i64 (k : Int), .bool l] 87 (0, 0)
/-- within a row: the lexer's box, the answer's, the row's own, and its words -/
structure RX (b D : Nat) (s : ByteArray) (w0 w : World) (p : Nat) (v : Value) (ws : List (List UInt8)) (k : Nat) : Prop where
  box : RBox w b s p
  lim : p ≤ s.size
  ans : w.heap[D]? = some (rowB (.slice none 0 0) 0 false)
  row : w.heap[D + 1]? = some (rowB v k false)
  own : OwnW w (D + 2) v ws
  but : But b D w0 w
  lt : b < D
theorem RX.size {b D : Nat} {s : ByteArray} {w0 w : World} {p : Nat} {v : Value} {ws : List (List UInt8)} {k : Nat} (h : RX b D s w0 w p v ws k) : D + 1 < w.heap.size := (Array.getElem?_eq_some_iff.1 h.row).1
theorem RX.step {b D : Nat} {s : ByteArray} {w0 w w' : World} {p p' : Nat} {v : Value} {ws : List (List UInt8)} {k : Nat} (h : RX b D s w0 w p v ws k) (hB : RBox w' b s p') (hp : p' ≤ s.size) (hb : But b w.heap.size w w') : RX b D s w0 w' p' v ws k :=
  ⟨hB, hp, (hb.block D (by have := h.size; omega) (by have := h.lt; omega)).trans h.ans, (hb.block _ h.size (by have := h.lt; omega)).trans h.row, ownW_but h.own hb (by have := h.lt; omega), h.but.trans (hb.mono (by have := h.size; omega)), h.lt⟩
theorem RX.below {b D : Nat} {s : ByteArray} {w0 w w' : World} {p : Nat} {v : Value} {ws : List (List UInt8)} {k : Nat} (h : RX b D s w0 w p v ws k) (hb : Below w.heap.size w w') : RX b D s w0 w' p v ws k :=
  h.step (h.box.below hb h.box.lt) h.lim (But.of_below hb (Nat.le_refl _))
def RowPost (b : Nat) (s : ByteArray) (t : Nat) (w : World) (e : Ending) (w' : World) : Prop :=
  match rowL (restL s t) with
  | none => ∃ p', e = .returned (.tuple #[.agg #[.slice none 0 0, .int .i64 0, .bool false], .bool false]) ∧ RBox w' b s p' ∧ p' ≤ s.size ∧ But b w.heap.size w w'
  | some (ws, k, last, rest) => ∃ v p', e = .returned (.tuple #[.agg #[v, .int .i64 (k : Int), .bool last], .bool true]) ∧ RBox w' b s p' ∧ p' ≤ s.size ∧ restL s p' = rest ∧ OwnW w' w.heap.size v ws ∧ But b w.heap.size w w'
theorem results_box2 {fn : Func} {p u : Tmp} {ty : TypeId} {P : Program} (h : fn.results = #[.cell p ty, .tmp u]) (tmps : Array Value) (w : World) (g : Nat) (cs : Array Value)
    (hp : tmps.getD p undef = .pointer (some ⟨g, 0, none⟩)) (hr : (loadVar ty ⟨g, 0, none⟩).run P w = .ok (.agg cs) w) :
    (results fn tmps).run P w = .ok (.tuple #[.agg cs, tmps.getD u undef]) w := by
  rw [results_cell_tmp h, hp]
  simp [asAddr, hr, Result.andThen]
theorem ownW_blocks {w W : World} {B : Nat} {v : Value} {P : List (List UInt8)} (h : OwnW w B v P) (hb : ∀ g, B ≤ g → W.heap[g]? = w.heap[g]?) : OwnW W B v P := by
  obtain ⟨hl, h2⟩ := h
  refine ⟨hl, ?_⟩
  rcases h2 with h2 | ⟨g, cap, cur, rfl, hB, hg, hr⟩
  · exact .inl h2
  · exact .inr ⟨g, cap, cur, rfl, hB, (hb g hB).trans hg, hr⟩
theorem RX.done {b D : Nat} {s : ByteArray} {w0 w : World} {p : Nat} {v : Value} {ws : List (List UInt8)} {k : Nat} (h : RX b D s w0 w p v ws k) (j : Nat) (x : Value) (c : Array Value) :
    RBox ((w.setCell ⟨D + 1, j, none⟩ x).setRow D c) b s p ∧ OwnW ((w.setCell ⟨D + 1, j, none⟩ x).setRow D c) D v ws ∧ But b D w0 ((w.setCell ⟨D + 1, j, none⟩ x).setRow D c) := by
  have hlt := h.lt
  refine ⟨h.box.same ((setRow_other _ D b c (by omega)).trans (Below.heap_setCell w ⟨D + 1, j, none⟩ x b (by simp; omega))), ?_, h.but.trans ⟨rfl, rfl, rfl, by simp [World.setCell], fun g h1 _ => (setRow_other _ D g c (by omega)).trans (Below.heap_setCell w ⟨D + 1, j, none⟩ x g (by simp; omega))⟩⟩
  exact ownW_mono (ownW_blocks h.own fun g hg => (setRow_other _ D g c (by omega)).trans (Below.heap_setCell w ⟨D + 1, j, none⟩ x g (by simp; omega))) (by omega)
theorem RX.fail {b D : Nat} {s : ByteArray} {w0 w : World} {p : Nat} {v : Value} {ws : List (List UInt8)} {k : Nat} (h : RX b D s w0 w p v ws k) (c : Array Value) :
    RBox (w.setRow D c) b s p ∧ But b D w0 (w.setRow D c) := by
  have hlt := h.lt
  exact ⟨h.box.same (setRow_other _ D b c (by omega)), h.but.setRow⟩
theorem RX.mark {b D : Nat} {s : ByteArray} {w0 w : World} {p : Nat} {v : Value} {ws : List (List UInt8)} {k : Nat} (h : RX b D s w0 w p v ws k) (K : Nat) : RX b D s w0 (w.setCell ⟨D + 1, 1, none⟩ (.int .i64 (K : Int))) p v ws K := by
  have hlt := h.lt
  refine ⟨h.box.same (Below.heap_setCell w _ _ b (by simp; omega)), h.lim, (Below.heap_setCell w _ _ D (by simp)).trans h.ans, ?_, ownW_blocks h.own fun g hg => Below.heap_setCell w _ _ g (by simp; omega), h.but.trans ⟨rfl, rfl, rfl, by simp [World.setCell], fun g h1 _ => Below.heap_setCell w _ _ g (by simp; omega)⟩, hlt⟩
  rw [heap_setCell_same _ _ _ _ 87 _ h.row]
  rfl
theorem belowW_push {w wr w1 : World} {B : Nat} {v : Value} {P : List (List UInt8)} {o : Obj} (hown : OwnW wr B v P) (hb : Below B w wr) (hB : B ≤ wr.heap.size) (hg : (wr.alloc o).grownBy w1 v.ownBlock) : Below B w w1 :=
  (hb.alloc hB o).grown hg (by simp; omega) (fun k hk => (World.ownsRow.lt hown k hk).1)
theorem cellW_new (w : World) (v : Value) : ∀ j u, [v][j]? = some u → (w.alloc (.cells #[v] 9)).cell? ((⟨w.heap.size, 0, none⟩ : Addr).add j) = some u := by
  intro j u hj
  match j, hj with
  | 0, hj => simp at hj; subst hj; simp [Addr.add]
/-- behind an append: the row's box as it was, and with the words that grew -/
theorem RX.grow {b D : Nat} {s : ByteArray} {w0 w w5 : World} {p : Nat} {v v' : Value} {ws : List (List UInt8)} {k : Nat} {x : List UInt8} {o : Obj} (h : RX b D s w0 w p v ws k) (h3 : w5.ownsRow (D + 2) 9 1 v' (ws.length + 1) (ws.map strV ++ [.string ⟨x.toArray⟩])) (h4 : (w.alloc o).grownBy w5 v.ownBlock) :
    w5.heap[D + 1]? = some (rowB v k false) ∧ RX b D s w0 (w5.setCell ⟨D + 1, 0, none⟩ v') p v' (ws ++ [x]) k := by
  have hlt := h.lt
  have hb := belowW_push h.own (Below.refl _ w) h.size h4
  have hr := (hb.block (D + 1) (by omega)).trans h.row
  refine ⟨hr, h.box.same ((Below.heap_setCell w5 _ _ b (by simp; omega)).trans (hb.block b (by omega))), h.lim, (Below.heap_setCell w5 _ _ D (by simp)).trans ((hb.block D (by omega)).trans h.ans), ?_, ownW_blocks (ownW_push h3) fun g hg => Below.heap_setCell w5 _ _ g (by simp; omega), h.but.trans ⟨hb.os, hb.tape, hb.output, by simp [World.setCell]; exact hb.size, fun g h1 _ => (Below.heap_setCell w5 _ _ g (by simp; omega)).trans (hb.block g (by omega))⟩, hlt⟩
  rw [heap_setCell_same _ _ _ _ 87 _ hr]
  rfl
theorem rowG_end {f : Nat} {l : List UInt8} {ws : List (List UInt8)} {k K : Nat} {says rest : List UInt8} (hf : l.length < f) (ht : tokL l = (K, says, rest)) (hK : K = 1 ∨ K = 2) : rowG f l ws k = some (ws, k, (K == 1), rest) := by
  cases f with
  | zero => omega
  | succ f =>
    rw [rowG, ht]
    rcases hK with rfl | rfl <;> simp
theorem rowG_bad {f : Nat} {l : List UInt8} {ws : List (List UInt8)} {k K : Nat} {says rest : List UInt8} (hf : l.length < f) (ht : tokL l = (K, says, rest)) (h1 : K ≠ 1) (h2 : K ≠ 2) (hK : K = 6 ∨ k ≠ 0) : rowG f l ws k = none := by
  cases f with
  | zero => omega
  | succ f =>
    rw [rowG, ht]
    simp only
    rw [if_neg h1, if_neg h2, if_pos hK]
theorem rowG_word {f : Nat} {l : List UInt8} {ws : List (List UInt8)} {says rest : List UInt8} (hf : l.length < f) (ht : tokL l = (5, says, rest)) : rowG f l ws 0 = rowG (f - 1) rest (ws ++ [says]) 0 ∧ rest.length < f - 1 := by
  cases f with
  | zero => omega
  | succ f =>
    have := tok_less (l := l) (by rw [ht]; simp) (by rw [ht]; simp)
    rw [ht] at this
    rw [rowG, ht]
    simp only at this ⊢
    exact ⟨by simp, by omega⟩
theorem rowG_mark {f : Nat} {l : List UInt8} {ws : List (List UInt8)} {K : Nat} {says rest : List UInt8} (hf : l.length < f) (ht : tokL l = (K, says, rest)) (hK : K = 3 ∨ K = 4) : rowG f l ws 0 = rowG (f - 1) rest ws K ∧ rest.length < f - 1 := by
  cases f with
  | zero => omega
  | succ f =>
    have := tok_less (l := l) (by rw [ht]; simp; omega) (by rw [ht]; simp; omega)
    rw [ht] at this
    rw [rowG, ht]
    simp only at this ⊢
    exact ⟨by rcases hK with rfl | rfl <;> simp, by omega⟩
theorem row_cells {V : World} {g : Nat} {v : Value} {k : Nat} {l : Bool} (h : V.heap[g]? = some (rowB v k l)) : V.cell? ⟨g, 0, none⟩ = some v ∧ V.cell? ⟨g, 1, none⟩ = some (.int .i64 (k : Int)) ∧ V.cell? ⟨g, 2, none⟩ = some (.bool l) ∧ ∀ j, V.frozen? ⟨g, j, none⟩ = false :=
  ⟨by rw [cell_of_row V g _ _ 87 (0, 0) h]; rfl, by rw [cell_of_row V g _ _ 87 (0, 0) h]; rfl, by rw [cell_of_row V g _ _ 87 (0, 0) h]; rfl, fun j => frozen_of_row V g j _ 87 h⟩
theorem tok_cells {V : World} {g : Nat} {k : Int} {x : ByteArray} (h : V.heap[g]? = some (.cells #[.int .i64 k, .string x] 105 (0, 0))) : V.cell? ⟨g, 0, none⟩ = some (.int .i64 k) ∧ V.cell? ⟨g, 1, none⟩ = some (.string x) :=
  ⟨by rw [cell_of_row V g _ _ 105 (0, 0) h]; rfl, by rw [cell_of_row V g _ _ 105 (0, 0) h]; rfl⟩
set_option maxHeartbeats 4000000 in
set_option maxRecDepth 100000 in
theorem row_any (b : Nat) (s : ByteArray) (t : Nat) (w : World) (h : RBox w b s t) (hs : s.size ≤ 1000000) (ht : t ≤ s.size) :
    Calls Tryz.prog 56 #[.pointer (some ⟨b, 0, none⟩)] w fun e w' => RowPost b s t w e w' := by
  obtain ⟨i0, hi, hz0, hz1, hz2⟩ := info_parts info9x
  have HA0 : Hid (RX b w.heap.size s w ((w.alloc (.cells #[.slice none 0 0, .int .i64 0, .bool false] 87)).alloc (.cells #[.slice none 0 0, .int .i64 0, .bool false] 87)) t (.slice none 0 0) [] 0) := by
    have hlt := h.lt
    have hb2 : Below w.heap.size w ((w.alloc (.cells #[.slice none 0 0, .int .i64 0, .bool false] 87)).alloc (.cells #[.slice none 0 0, .int .i64 0, .bool false] 87)) := ((Below.refl _ w).alloc (Nat.le_refl _) _).alloc (by simp) _
    refine ⟨h.below hb2 hlt, ht, ?_, ?_, ⟨rfl, .inl ⟨rfl, rfl⟩⟩, But.of_below hb2 (Nat.le_refl _), hlt⟩
    · rw [heap_alloc_old _ _ (by simp)]
      exact heap_alloc_new w _
    · have := heap_alloc_new (w.alloc (.cells #[.slice none 0 0, .int .i64 0, .bool false] 87)) (.cells #[.slice none 0 0, .int .i64 0, .bool false] 87)
      rw [show (w.alloc (Obj.cells #[.slice none 0 0, .int .i64 0, .bool false] 87)).heap.size = w.heap.size + 1 by simp] at this
      exact this
  have hz := zero49
  have hzt := zero66
  clear h
  go_enter Tryz.func56, Tryz.ntmps56
  go_wp2
  go_loopw [5, 6, 7, 8, 9, 10, 11, 12, 13, 14, 15, 16, 17, 18, 19, 20, 21, 22, 23, 24, 25, 26, 27, 28, 29, 30, 31, 32, 33, 34, 35, 36, 37, 38, 39, 40, 41, 42, 43, 44, 45] (fun _ _ _ _ _ _ _ _ _ _ _ _ _ _ _ _ _ _ _ _ _ _ _ _ _ _ _ _ _ _ _ _ _ _ _ _ _ _ _ _ _ wr => ∃ f p v ws k, RX b w.heap.size s w wr p v ws k ∧ (restL s p).length < f ∧ rowG f (restL s p) ws k = rowL (restL s t) ∧ ws.length ≤ p) (fun _ _ _ _ _ _ _ _ _ _ _ _ _ _ _ _ _ _ _ _ _ _ _ _ _ _ _ _ _ _ _ _ _ _ _ _ _ _ _ _ _ wr => s.size - posOf b wr)
  case atStart => exact ⟨_, t, _, [], 0, HA0.out, Nat.lt_succ_self _, rfl, by simp⟩
  case round =>
    obtain ⟨f, p, v, ws, k, hR, hf, hrow, hwl⟩ := hrel
    clear HA0
    have HR := hidM hR
    have HF := hidM hf
    have HRO := hidM hrow
    have hlim := hR.lim
    have HNX := hidM (next_any b s p wr hR.box hs hR.lim)
    obtain ⟨K, says, rest, hT⟩ : ∃ K says rest, tokL (restL s p) = (K, says, rest) := ⟨_,_,_, rfl⟩
    unfold NextPost at HNX
    rw [hT] at HNX
    have HTK := hidM hT
    have hK := tok_kind (restL s p)
    rw [hT] at hK
    simp only at hK HNX
    obtain ⟨KI, hKI⟩ : ∃ KI : Int, KI = (K : Int) := ⟨_, rfl⟩
    obtain ⟨X, hX⟩ : ∃ X : ByteArray, X = ⟨says.toArray⟩ := ⟨_, rfl⟩
    obtain ⟨kI, hkI⟩ : ∃ kI : Int, kI = (k : Int) := ⟨_, rfl⟩
    rw [← hKI, ← hX] at HNX
    have HX := hidM hX
    have HKI := hidM hKI
    have HkI := hidM hkI
    clear hR hf hrow hT hX hKI hkI
    go_upto_region 2 with fail
    go_wp2_with fail
    refine HNX.out.mono ?_
    rintro _ w2 ⟨p2, rfl, hB2, hp2, hb2, hrest⟩
    have HR2 := hidM (HR.out.step hB2 hp2 hb2)
    have HRS := hidM hrest
    have HN0 : Hid ((w2.alloc (.cells #[.int .i64 0, .string ⟨#[]⟩] 105)).heap[w2.heap.size]? = some (.cells #[.int .i64 0, .string ⟨#[]⟩] 105 (0, 0))) := heap_alloc_new w2 _
    clear hB2 hb2 hrest HNX
    go_upto_block 2 with (refine wpList_store_row rfl 105 (.tmp 5) (.tmp 7) rfl w2.heap.size #[.int .i64 KI, .string X] rfl rfl 105 #[.int .i64 0, .string ⟨#[]⟩] HN0.out size66 rfl (ones66 _ _) ?_)
    have HT3 : Hid (((w2.alloc (.cells #[.int .i64 0, .string ⟨#[]⟩] 105)).setRow w2.heap.size #[.int .i64 KI, .string X]).heap[w2.heap.size]? = some (.cells #[.int .i64 KI, .string X] 105 (0, 0))) := setRow_heap _ _ _ _ 105 _ HN0.out
    have HB3 : Hid (Below w2.heap.size w2 ((w2.alloc (.cells #[.int .i64 0, .string ⟨#[]⟩] 105)).setRow w2.heap.size #[.int .i64 KI, .string X])) :=
      ((Below.refl _ w2).alloc (Nat.le_refl _) _).trans ⟨rfl, rfl, rfl, by simp, fun k hk => setRow_other _ _ k _ (by omega)⟩
    have HR3 := hidM (HR2.out.below HB3.out)
    have hTD : w.heap.size + 1 < w2.heap.size := HR2.out.size
    generalize (w2.alloc (.cells #[.int .i64 0, .string ⟨#[]⟩] 105)).setRow w2.heap.size #[.int .i64 KI, .string X] = W3 at *
    generalize w2.heap.size = TT at *
    clear HR2 HB3 HN0
    obtain ⟨t0, t1⟩ := tok_cells HT3.out
    obtain ⟨r0, r1, r2, rf⟩ := row_cells HR3.out.row
    rw [← HkI.out] at r1
    have rf0 := rf 0
    have rf1 := rf 1
    have rf2 := rf 2
    have hne1 : TT ≠ w.heap.size + 1 := by omega
    have hne2 : w.heap.size + 1 ≠ TT := by omega
    clear rf
    by_cases hend : K = 1 ∨ K = 2
    · have HRW : Hid (rowL (restL s t) = some (ws, k, (K == 1), rest)) := by unfold Hid; rw [← HRO.out]; exact rowG_end HF.out HTK.out hend
      have HRS2 := hidM (HRS.out (by omega))
      obtain ⟨lb, hlb⟩ : ∃ lb : Bool, lb = (K == 1) := ⟨_, rfl⟩
      have hlb2 : (KI == 1) = lb := by rw [hlb, HKI.out, Bool.eq_iff_iff]; simp; omega
      rw [← hlb] at HRW
      have HAN : Hid ((W3.setCell ⟨w.heap.size + 1, 2, none⟩ (.bool lb)).heap[w.heap.size]? = some (rowB (.slice none 0 0) 0 false)) := by
        unfold Hid; rw [Below.heap_setCell _ _ _ _ (by simp)]; exact HR3.out.ans
      have hrow3 : (W3.setCell ⟨w.heap.size + 1, 2, none⟩ (.bool lb)).heap[w.heap.size + 1]? = some (rowB v k lb) := by
        rw [heap_setCell_same _ _ _ _ 87 _ HR3.out.row]; rfl
      obtain ⟨q0, q1, q2, _⟩ := row_cells hrow3
      rw [← HkI.out] at q1
      have hor : (KI == 2) = true ∨ ((KI == 2) = false ∧ (KI == 1) = true) := by
        rcases hend with h | h
        · right; constructor
          · rw [HKI.out, h]; rfl
          · rw [HKI.out, h]; rfl
        · left; rw [HKI.out, h]; rfl
      have HAGG := hidM (run_loadVar_row _ (w.heap.size + 1) 87 87 _ (0, 0) _ hrow3 Tryz.underlying87 rfl size49)
      clear hlb hrow3
      have HONE : Hid ((#[v, .int .i64 kI, .bool lb] : Array Value).all (·.oneCell') = true) := by
        obtain ⟨n, c, hv⟩ := HR3.out.own.isSlice
        rw [hv]
        exact ones49 _ _ _ _ _
      have HPOST : Hid (∀ e, e = .returned (.tuple #[.agg #[v, .int .i64 kI, .bool lb], .bool true]) → RowPost b s t w e ((W3.setCell ⟨w.heap.size + 1, 2, none⟩ (.bool lb)).setRow w.heap.size #[v, .int .i64 kI, .bool lb])) := by
        rintro e rfl
        unfold RowPost
        rw [HRW.out]
        obtain ⟨d1, d2, d3⟩ := HR3.out.done 2 (.bool lb) #[v, .int .i64 kI, .bool lb]
        exact ⟨v, p2, by rw [HkI.out], d1, hp2, HRS2.out, d2, d3⟩
      rcases hor with h1 | ⟨h1, h2⟩
      · go_wp2_with (refine wpList_store_row rfl 87 (.tmp 2) (.tmp 24) rfl w.heap.size #[v, .int .i64 kI, .bool lb] rfl rfl 87 #[.slice none 0 0, .int .i64 0, .bool false] HAN.out size49 rfl HONE.out ?_)
        exact bodyPost_ret (results_box2 rfl _ _ w.heap.size _ rfl (run_loadVar_row _ w.heap.size 87 87 _ (0, 0) _ (setRow_heap _ _ _ _ 87 _ HAN.out) Tryz.underlying87 rfl size49)) rfl (HPOST.out _ rfl)
      · have h3 : KI = 1 := by simpa using h2
        have h4 : lb = true := by rw [← hlb2, h2]
        subst h4
        subst h3
        go_wp2_with (refine wpList_store_row rfl 87 (.tmp 2) (.tmp 24) rfl w.heap.size #[v, .int .i64 kI, .bool true] rfl rfl 87 #[.slice none 0 0, .int .i64 0, .bool false] HAN.out size49 rfl HONE.out ?_)
        exact bodyPost_ret (results_box2 rfl _ _ w.heap.size _ rfl (run_loadVar_row _ w.heap.size 87 87 _ (0, 0) _ (setRow_heap _ _ _ _ 87 _ HAN.out) Tryz.underlying87 rfl size49)) rfl (HPOST.out _ rfl)
    · have n1 : (KI == 1) = false := by rw [HKI.out]; simp; omega
      have n2 : (KI == 2) = false := by rw [HKI.out]; simp; omega
      by_cases hbad : K = 6 ∨ k ≠ 0
      · have HRW : Hid (rowL (restL s t) = none) := by unfold Hid; rw [← HRO.out]; exact rowG_bad HF.out HTK.out (by omega) (by omega) hbad
        have HPOST : Hid (∀ e, e = .returned (.tuple #[.agg #[.slice none 0 0, .int .i64 0, .bool false], .bool false]) → RowPost b s t w e (W3.setRow w.heap.size #[.slice none 0 0, .int .i64 0, .bool false])) := by
          rintro e rfl
          unfold RowPost
          rw [HRW.out]
          obtain ⟨d1, d2⟩ := HR3.out.fail #[.slice none 0 0, .int .i64 0, .bool false]
          exact ⟨p2, rfl, d1, hp2, d2⟩
        have HAN := hidM HR3.out.ans
        have hor : (KI == 6) = true ∨ ((KI == 6) = false ∧ (kI != 0) = true) := by
          by_cases h : K = 6
          · left; rw [HKI.out, h]; rfl
          · right
            constructor
            · rw [HKI.out]; simp; omega
            · rw [HkI.out]; simp; omega
        rcases hor with h1 | ⟨h1, h2⟩
        all_goals (
          go_wp2_with (refine wpList_store_row rfl 87 (.tmp 2) (.tmp 34) rfl w.heap.size #[.slice none 0 0, .int .i64 0, .bool false] rfl rfl 87 #[.slice none 0 0, .int .i64 0, .bool false] HAN.out size49 rfl (ones49 _ _ _ _ _) ?_)
          exact bodyPost_ret (results_box2 rfl _ _ w.heap.size _ rfl (run_loadVar_row _ w.heap.size 87 87 _ (0, 0) _ (setRow_heap _ _ _ _ 87 _ HAN.out) Tryz.underlying87 rfl size49)) rfl (HPOST.out _ rfl))
      · have hk0 : k = 0 := by omega
        have hK6 : K ≠ 6 := by omega
        subst hk0
        have n6 : (KI == 6) = false := by rw [HKI.out]; simp; omega
        have hkz : kI = 0 := by rw [HkI.out]; rfl
        subst hkz
        have HRS2 := hidM (HRS.out hK6)
        have HLT : Hid (p < p2) := by
          have h1 := tok_less (l := restL s p) (by rw [HTK.out]; simp; omega) (by rw [HTK.out]; exact hK6)
          rw [HTK.out] at h1
          simp only at h1
          rw [← HRS2.out, rest_len, rest_len] at h1
          unfold Hid
          omega
        by_cases h5 : K = 5
        · subst h5
          obtain ⟨g1, g2⟩ := rowG_word (ws := ws) HF.out HTK.out
          have HG : Hid ((restL s p2).length < f - 1 ∧ rowG (f - 1) (restL s p2) (ws ++ [says]) 0 = rowL (restL s t)) := ⟨by rw [HRS2.out]; exact g2, by rw [HRS2.out, ← g1, HRO.out]⟩
          have hk5 : KI = 5 := by rw [HKI.out]; rfl
          subst hk5
          have HO3 := hidM HR3.out.own
          have hsz := HR3.out.size
          clear g1 g2 hend hbad hK6 n1 n2 n6
          go_wp2_with (at_builtin; refine wpList_append_own _ rfl _ _ 47 rfl (w.heap.size + 2) 9 i0 (.string .empty) 1 16 Tryz.underlying47 hi hz0 hz1 hz2 rfl (by decide) _ _ _ rfl (World.ownsRow.alloc HO3.out _) ⟨W3.heap.size, 0, none⟩ 1 1 [.string X] ?d0 rfl ?d1 ?d2 ?d3 ?d4 ?d5 ?_)
          case d0 => rfl
          case d1 => exact cellW_new W3 _
          case d2 => intro u hu; simp at hu; subst hu; rfl
          case d3 => unfold maxLen; omega
          case d4 => omega
          case d5 => simp; omega
          intro v' w5 hown' hgrow _
          rw [HX.out] at hown'
          obtain ⟨n', c', hv'⟩ := (ownW_push hown').isSlice
          generalize (ws ++ [says]).length = l' at hv'
          subst hv'
          obtain ⟨e1, e2⟩ := HR3.out.grow hown' hgrow
          obtain ⟨y0, _,_, yf⟩ := row_cells e1
          have yf0 := yf 0
          have HE := hidM e2
          clear e1 e2 yf hown' hgrow r0 r1 r2 rf0 rf1 rf2 t0 t1 HT3
          go_wp2
          go_roundw
          case rel => exact ⟨f - 1, p2, _, ws ++ [says], 0, HE.out, HG.out.1, HG.out.2, by have := HLT.out; simp; omega⟩
          case measure =>
            show s.size - posOf b _ < s.size - posOf b wr
            rw [posOf_box HE.out.box, posOf_box HR.out.box]
            have := HLT.out
            omega
        · have hK34 : K = 3 ∨ K = 4 := by omega
          obtain ⟨g1, g2⟩ := rowG_mark (ws := ws) HF.out HTK.out hK34
          have HG : Hid ((restL s p2).length < f - 1 ∧ rowG (f - 1) (restL s p2) ws K = rowL (restL s t)) := ⟨by rw [HRS2.out]; exact g2, by rw [HRS2.out, ← g1, HRO.out]⟩
          have n5 : (KI == 5) = false := by rw [HKI.out]; simp; omega
          have HE := hidM (HR3.out.mark K)
          rw [← HKI.out] at HE
          clear g1 g2 hend hbad hK6
          go_wp2
          go_roundw
          case rel => exact ⟨f - 1, p2, v, ws, K, HE.out, HG.out.1, HG.out.2, by have := HLT.out; omega⟩
          case measure =>
            show s.size - posOf b _ < s.size - posOf b wr
            rw [posOf_box HE.out.box, posOf_box HR.out.box]
            have := HLT.out
            omega
end Go.Proofs.YtmhjdahmmdfbcaaGreatDoor.M
namespace Go.Proofs.YtmhjdahmmdfbcaaGreatDoor.M
open Go.RowKit
theorem sl_len (s : ByteArray) : s.data.toList.length = s.size := by simp
theorem take_one (s : ByteArray) (k : Nat) (h : k < s.size) : s.data.toList.take (k + 1) = s.data.toList.take k ++ [s[k]] := by
  rw [List.take_succ_eq_append_getElem (by simpa using h)]; rfl
def k1 (i : Nat) : Nat := if i < 20 then 1518500249 else if i < 40 then 1859775393 else if i < 60 then 2400959708 else 3395469782
def h2 : List Nat := [1779033703, 3144134277, 1013904242, 2773480762, 1359893119, 2600822924, 528734635, 1541459225]
def splitC (c : UInt8) : List UInt8 → Option (List UInt8 × List UInt8)
  | [] => none
  | b :: l => if b = c then some ([], l) else (splitC c l).map fun x => (b :: x.1, x.2)
theorem split_none {c : UInt8} {l : List UInt8} (h : splitC c l = none) : Lib.indexByte l c = -1 ∧ c ∉ l := by
  induction l with
  | nil => exact ⟨rfl, by simp⟩
  | cons b l ih =>
    unfold splitC at h
    by_cases hb : b = c
    · rw [if_pos hb] at h; cases h
    · rw [if_neg hb, Option.map_eq_none_iff] at h
      have := ih h
      refine ⟨?_, by simp [this.2, Ne.symm hb]⟩
      unfold Lib.indexByte
      rw [if_neg (by simpa using hb), this.1]
      rfl
theorem split_some {c : UInt8} {l p q : List UInt8} (h : splitC c l = some (p, q)) : Lib.indexByte l c = (p.length : Int) ∧ l = p ++ c :: q ∧ c ∉ p := by
  induction l generalizing p with
  | nil => cases h
  | cons b l ih =>
    unfold splitC at h
    by_cases hb : b = c
    · rw [if_pos hb] at h
      obtain ⟨rfl, rfl⟩ := Prod.mk.inj (Option.some.inj h)
      refine ⟨?_, by rw [hb]; rfl, by simp⟩
      unfold Lib.indexByte
      rw [if_pos (by simpa using hb)]; rfl
    · rw [if_neg hb, Option.map_eq_some_iff] at h
      obtain ⟨⟨p', q'⟩, hx, he⟩ := h
      obtain ⟨rfl, rfl⟩ := Prod.mk.inj he
      obtain ⟨h1, h2, h3⟩ := ih hx
      refine ⟨?_, by rw [h2]; rfl, by simp [h3, Ne.symm hb]⟩
      unfold Lib.indexByte
      rw [if_neg (by simpa using hb), h1, if_neg (by simp)]
      simp
/-- what Cut answers at one byte -/
def cutR (c : UInt8) (l : List UInt8) : List UInt8 × List UInt8 × Bool :=
  match splitC c l with
  | none => (l, [], false)
  | some (p, q) => (p, q, true)
theorem ext_head (s : ByteArray) (k : Nat) : (s.extract 0 k).data.toList = s.data.toList.take k := by simp
theorem ext_tail (s : ByteArray) (k : Nat) : (s.extract k s.size).data.toList = s.data.toList.drop k := by
  rw [ByteArray.data_extract, Array.toList_extract, List.extract_eq_take_drop]
  rw [List.take_of_length_le]
  rw [List.length_drop]; simp
theorem ba_of {s : ByteArray} {l : List UInt8} (h : s.data.toList = l) : s = ⟨l.toArray⟩ := by
  subst h; rfl
set_option maxHeartbeats 1600000 in
theorem cut_in (s : ByteArray) (c : UInt8) (w : World) (hs : s.size ≤ 9223372036854775807) :
    Calls Tryz.prog 74 #[.string s, .string ⟨#[c]⟩] w fun e w' => e = .returned (.tuple #[.string ⟨(cutR c s.data.toList).1.toArray⟩, .string ⟨(cutR c s.data.toList).2.1.toArray⟩, .bool (cutR c s.data.toList).2.2]) ∧ ∃ m, w' = w.drewN m := by
  cases h : splitC c s.data.toList with
  | none =>
    have h1 := (split_none h).1
    have HR : Hid (cutR c s.data.toList = (s.data.toList, [], false)) := by unfold Hid cutR; rw [h]
    have HI : Hid (Calls Tryz.prog 102 #[.string s, .string ⟨#[c]⟩] w fun e w' => e = .returned (.int .i64 (-1)) ∧ w' = w) := by
      have := Tryz.stringslite_Index_one s c w
      rw [h1] at this
      exact this
    clear h h1
    go_enter Tryz.func74, Tryz.ntmps74
    go_wp2_with (go_at_call 102; with_reducible refine HI.out.mono ?_; rintro e w' ⟨rfl, rfl⟩)
    go_ret3
    exact ⟨by rw [HR.out]; rfl, 0, rfl⟩
  | some x =>
    obtain ⟨p, q⟩ := x
    obtain ⟨h1, h2, h3⟩ := split_some h
    have HR : Hid (cutR c s.data.toList = (p, q, true)) := by unfold Hid cutR; rw [h]
    have HI : Hid (Calls Tryz.prog 102 #[.string s, .string ⟨#[c]⟩] w fun e w' => e = .returned (.int .i64 (p.length : Int)) ∧ w' = w) := by
      have := Tryz.stringslite_Index_one s c w
      rw [h1] at this
      exact this
    have hl : p.length + 1 ≤ s.size := by
      have : s.data.toList.length = s.size := by simp
      rw [h2] at this; simp at this; omega
    have HP : Hid (s.extract 0 p.length = ⟨p.toArray⟩) := ba_of (by rw [ext_head, h2, List.take_left])
    have HQ : Hid (s.extract (p.length + 1) s.size = ⟨q.toArray⟩) := ba_of (by rw [ext_tail, h2, List.drop_append, List.drop_of_length_le (by omega)]; simp)
    clear h h1 h2 h3
    generalize p.length = n at *
    have c1 : (0 : Int) ≤ (n : Int) := by omega
    have c2 : (n : Int) ≤ (s.size : Int) := by omega
    have c4 : (n : Int) + 1 ≤ (s.size : Int) := by omega
    have c5 : (0 : Int) ≤ (n : Int) + 1 := by omega
    go_enter Tryz.func74, Tryz.ntmps74
    go_wp2_with (go_at_call 102; with_reducible refine HI.out.mono ?_; rintro e w' ⟨rfl, rfl⟩)
    go_quiet (fail)
    go_wp2
    go_ret3
    exact ⟨by rw [HR.out, ← HP.out, ← HQ.out]; rfl, nq, rfl⟩
theorem cut_any (s : ByteArray) (c : UInt8) (w : World) (hs : s.size ≤ 9223372036854775807) :
    Calls Tryz.prog 45 #[.string s, .string ⟨#[c]⟩] w fun e w' => e = .returned (.tuple #[.string ⟨(cutR c s.data.toList).1.toArray⟩, .string ⟨(cutR c s.data.toList).2.1.toArray⟩, .bool (cutR c s.data.toList).2.2]) ∧ ∃ m, w' = w.drewN m := by
  have HC := hidM (cut_in s c w hs)
  generalize (cutR c s.data.toList).1.toArray = A at *
  generalize (cutR c s.data.toList).2.1.toArray = B at *
  generalize (cutR c s.data.toList).2.2 = D at *
  go_enter Tryz.func45, Tryz.ntmps45
  go_wp2_with fail
  refine HC.out.mono ?_
  rintro _ w1 ⟨rfl, m, rfl⟩
  go_wp2
  go_ret3
  exact ⟨rfl, m, rfl⟩
def slash : ByteArray := ⟨#[47]⟩
/-- the parts between the slashes -/
def partsB (s : ByteArray) : List ByteArray := Lib.splitB slash 0 (Lib.countB s slash) s
theorem index_slash (x : ByteArray) : Lib.indexB x slash = Lib.indexByte x.data.toList 47 := Lib.index_one _ _
theorem count_slash (x : ByteArray) : Lib.countB x slash = Lib.countByte x.data.toList 47 := Lib.count_one _ _
theorem info9 : (Tryz.prog.info? 9).map (fun i => (i.zero, i.size, i.bytes)) = some (some (.string ByteArray.empty), 1, 16) := by kernel_rfl
theorem split_any (s : ByteArray) (w : World) (hs : s.size ≤ 200) :
    Calls Tryz.prog 46 #[.string s, .string slash] w fun e w' =>
      e = .returned (.slice (some ⟨w.heap.size, 0, none⟩) (partsB s).length (partsB s).length) ∧ w' = w.alloc (.cells ((partsB s).map Value.string).toArray 9) := by
  have hcl := Lib.countB_le slash (by decide) s.size s (Nat.le_refl _)
  have hlen := Lib.splitB_all slash (by decide) 0 _ s rfl
  have HG : Hid (Calls Tryz.prog 75 #[.string s, .string slash, .int .i64 0, .int .i64 (-1)] w fun e w' => e = .returned (.slice (some ⟨w.heap.size, 0, none⟩) (partsB s).length (partsB s).length) ∧ w' = w.alloc (.cells ((partsB s).map Value.string).toArray 9)) := by
    have c := Any.strings_genSplit_core Tryz.lays221 info9 s slash 0 (-1) (Lib.countB s slash + 1) w (by omega) (by decide) (Nat.zero_le _)
      (fun x c _ => by have h := Tryz.strings_Index_one x 47 (w.alloc (.cells c 9)); rw [← index_slash] at h; exact h)
      (by have h := Tryz.strings_Count_one s 47 w; rw [← count_slash] at h; exact h)
      (by decide) (by decide) (by rw [if_pos (by decide)]; omega)
    have hl : (partsB s).length = Lib.countB s slash + 1 := hlen
    refine c.mono fun e w' ⟨he, hw⟩ => ⟨?_, ?_⟩
    · rw [he]
      show Ending.returned (.slice _ (partsB s).length (Lib.countB s slash + 1)) = _
      rw [hl]
    · rw [hw]
      show w.alloc (.cells (Lib.cellsOf (partsB s) (Lib.countB s slash + 1)) 9) = _
      unfold Lib.cellsOf
      rw [hl]; simp
  clear hlen hcl
  generalize partsB s = ps at *
  unfold slash at *
  go_enter Tryz.func46, Tryz.ntmps46
  go_wp2_with fail
  refine HG.out.mono ?_
  rintro _ w1 ⟨rfl, rfl⟩
  go_wp2_with fail
  go_ret
  exact ⟨rfl, rfl⟩
theorem ba_eq {a b : ByteArray} (h : a.data.toList = b.data.toList) : a = b := by
  cases a; cases b; simp at h; rw [h]
/-- texts, in a row of the call's own -/
def strsV (l : List ByteArray) : List Value := l.map Value.string
def OwnS (w : World) (B : Nat) (v : Value) (l : List ByteArray) : Prop := w.ownsRow B 9 1 v l.length (strsV l)
theorem OwnS.push {w : World} {B : Nat} {v : Value} {l : List ByteArray} {x : ByteArray} (h : w.ownsRow B 9 1 v (l.length + 1) (strsV l ++ [.string x])) : OwnS w B v (l ++ [x]) := by
  unfold OwnS strsV
  rw [List.map_append]
  simpa [strsV] using h
theorem cell_new_at (w : World) (v : Value) (t n : Nat) (hn : w.heap.size = n) : ∀ j u, [v][j]? = some u → (w.alloc (.cells #[v] t)).cell? ((⟨n, 0, none⟩ : Addr).add j) = some u := by
  intro j u hj
  subst hn
  rcases j with _ | j
  · simp at hj; subst hj; rw [Addr.add_lit]; simp
  · simp at hj
theorem OwnS.below {w wr w1 : World} {B : Nat} {v : Value} {l : List ByteArray} {o : Obj} (hown : OwnS wr B v l) (hb : Below B w wr) (hB : B ≤ wr.heap.size) (hg : (wr.alloc o).grownBy w1 v.ownBlock) : Below B w w1 :=
  (hb.alloc hB o).grown hg (by simp; omega) (fun k hk => (World.ownsRow.lt hown k hk).1)
def SlRet (w : World) (B : Nat) (l : List ByteArray) (e : Ending) : Prop := ∃ v, OwnS w B v l ∧ e = .returned v
def StrsAt (w : World) (g : Nat) (l : List ByteArray) : Prop := ∀ j (h : j < l.length), w.cell? ⟨g, j, none⟩ = some (.string l[j])
theorem StrsAt.below {w w' : World} {g B : Nat} {l : List ByteArray} (h : StrsAt w g l) (hb : Below B w w') (hB : g < B) : StrsAt w' g l := fun j hj =>
  (hb.cell (p := ⟨g, j, none⟩) hB).trans (h j hj)
theorem OwnS.shape {w : World} {B : Nat} {v : Value} {l : List ByteArray} (h : OwnS w B v l) : ∃ a c, v = .slice a l.length c ∧ (l ≠ [] → ∃ g, a = some ⟨g, 0, none⟩ ∧ B ≤ g ∧ g < w.heap.size ∧ StrsAt w g l) := by
  have h' := h
  rcases h.2 with ⟨hnil, hn⟩ | ⟨g, cap, cur, rfl, hbase, hbk, h1, h2, h3, h4⟩
  · refine ⟨none, 0, by rw [hnil, hn], fun hne => ?_⟩
    exact absurd (List.eq_nil_of_length_eq_zero hn) hne
  · refine ⟨_, cap, rfl, fun _ => ⟨g, rfl, hbase, (Array.getElem?_eq_some_iff.1 hbk).1, fun j hj => ?_⟩⟩
    have := World.ownsRow.cells h' (g := g) rfl j (.string l[j]) (by unfold strsV; simp [hj])
    rw [Addr.add_lit, Nat.zero_add] at this
    exact this
/-- the list of texts that a value is -/
def StrsV (w : World) (v : Value) (l : List ByteArray) : Prop := ∃ a c, v = .slice a l.length c ∧ (l ≠ [] → ∃ g, a = some ⟨g, 0, none⟩ ∧ g < w.heap.size ∧ StrsAt w g l)
theorem StrsV.below {w w' : World} {v : Value} {l : List ByteArray} (h : StrsV w v l) (hb : Below w.heap.size w w') : StrsV w' v l := by
  obtain ⟨a, c, hv, hs⟩ := h
  exact ⟨a, c, hv, fun hne => by obtain ⟨g, h1, h2, h3⟩ := hs hne; exact ⟨g, h1, Nat.lt_of_lt_of_le h2 hb.size, h3.below hb h2⟩⟩
theorem index_mem (l : List UInt8) (h : Lib.indexByte l 47 = -1) : (47 : UInt8) ∉ l := by
  intro hm
  obtain ⟨k, hk, he⟩ := List.mem_iff_getElem.1 hm
  exact Lib.indexByte_none h k (by rw [List.getElem?_eq_getElem hk, he])
theorem splitB_parts : ∀ (k : Nat) (s : ByteArray), Lib.countByte s.data.toList 47 = k → (Lib.splitB slash 0 k s).map (fun b => b.data.toList) = partsL s.data.toList := by
  intro k
  induction k with
  | zero =>
    intro s h
    rw [Lib.splitB_zero]
    unfold Lib.countByte at h
    rw [partsL_none _ (List.count_eq_zero.1 h)]; rfl
  | succ k ih =>
    intro s h
    unfold Lib.splitB
    rw [index_slash]
    by_cases hi : Lib.indexByte s.data.toList 47 = -1
    · rw [if_pos (by simp [hi]), partsL_none _ (index_mem _ hi)]; rfl
    · rw [if_neg (by simpa using hi)]
      obtain ⟨o, ho⟩ : ∃ o : Nat, Lib.indexByte s.data.toList 47 = o := ⟨(Lib.indexByte s.data.toList 47).toNat, by have := Lib.indexByte_ge s.data.toList 47; omega⟩
      rw [ho]
      have hsome := Lib.indexByte_some ho
      obtain ⟨hol, hoe⟩ := List.getElem?_eq_some_iff.1 hsome.1
      have hl : s.data.toList = s.data.toList.take o ++ 47 :: s.data.toList.drop (o + 1) := by
        conv => lhs; rw [← List.take_append_drop o s.data.toList, List.drop_eq_getElem_cons hol, hoe]
      have hno : (47 : UInt8) ∉ s.data.toList.take o := by
        intro hm
        obtain ⟨j, hj, he⟩ := List.mem_iff_getElem.1 hm
        have hj2 : j < o := by rw [List.length_take] at hj; omega
        exact hsome.2 j hj2 (by rw [List.getElem_take] at he; rw [List.getElem?_eq_getElem (by omega), he])
      have e1 : (s.extract 0 ((o : Int).toNat + 0)).data.toList = s.data.toList.take o := by rw [Lib.extract_data]; simp
      have e2 : (s.extract ((o : Int).toNat + slash.size) s.size).data.toList = s.data.toList.drop (o + 1) := by
        rw [Lib.extract_data]
        rw [show (o : Int).toNat + slash.size = o + 1 from rfl]
        refine List.take_of_length_le ?_
        rw [List.length_drop, ← Lib.size_eq]; omega
      have hcount : Lib.countByte (s.data.toList.drop (o + 1)) 47 = k := by
        unfold Lib.countByte at h ⊢
        rw [hl, List.count_append, List.count_cons_self, List.count_eq_zero.2 hno] at h
        omega
      rw [List.map_cons, e1, ih _ (by rw [e2]; exact hcount), e2]
      conv => rhs; rw [hl]
      rw [partsL_app, partsL_none _ hno]; rfl
theorem parts_eq (s : ByteArray) : (partsB s).map (fun b => b.data.toList) = partsL s.data.toList := by
  unfold partsB
  rw [count_slash]
  exact splitB_parts _ s rfl
theorem parts_snoc (l : List UInt8) (c : UInt8) (h : c ≠ 47) : ∃ I Z, partsL l = I ++ [Z] ∧ partsL (l ++ [c]) = I ++ [Z ++ [c]] := by
  induction l with
  | nil => exact ⟨[], [], rfl, by simp [partsL, h]⟩
  | cons x l ih =>
    obtain ⟨I, Z, h1, h2⟩ := ih
    rw [List.cons_append, partsL_cons, partsL_cons, h1, h2]
    by_cases hx : x = 47
    · rw [if_pos hx, if_pos hx]
      exact ⟨[] :: I, Z, rfl, rfl⟩
    · rw [if_neg hx, if_neg hx]
      cases I with
      | nil => exact ⟨[], x :: Z, rfl, rfl⟩
      | cons a t => exact ⟨(x :: a) :: t, Z, rfl, rfl⟩
theorem parts_slash (l : List UInt8) : partsL (l ++ [47]) = partsL l ++ [[]] := partsL_app l []
def mkB (l : List UInt8) : ByteArray := ⟨l.toArray⟩
def rpB (s : ByteArray) (k : Nat) : List ByteArray := (partsL (s.data.toList.take k)).map mkB
theorem rpB_slash (s : ByteArray) (k : Nat) (h : k < s.size) (hc : s[k] = 47) : rpB s (k + 1) = rpB s k ++ [⟨#[]⟩] := by
  unfold rpB
  rw [take_one s k h, hc, parts_slash, List.map_append]; rfl
theorem rpB_other (s : ByteArray) (k : Nat) (h : k < s.size) (hc : s[k] ≠ 47) : ∃ I Z, rpB s k = I ++ [Z] ∧ rpB s (k + 1) = I ++ [Z ++ s.extract k (k + 1)] := by
  obtain ⟨I, Z, h1, h2⟩ := parts_snoc (s.data.toList.take k) s[k] hc
  refine ⟨I.map mkB, mkB Z, by unfold rpB; rw [h1, List.map_append]; rfl, ?_⟩
  unfold rpB
  rw [take_one s k h, h2, List.map_append]
  congr 1
  simp only [List.map_cons, List.map_nil, List.cons.injEq, and_true]
  refine ba_eq ?_
  have e : (s.extract k (k + 1)).data.toList = [s[k]] := by
    rw [Lib.extract_data]
    have hl : k < s.data.toList.length := by rw [← Lib.size_eq]; exact h
    rw [List.drop_eq_getElem_cons hl]
    simp
    rfl
  rw [ByteArray.data_append, Array.toList_append, e]
  simp [mkB]
theorem parts_le (l : List UInt8) : ∀ p ∈ partsL l, p.length ≤ l.length := by
  induction l with
  | nil => intro p hp; simp [partsL] at hp; subst hp; simp
  | cons x l ih =>
    intro p hp
    rw [partsL_cons] at hp
    split at hp
    · rcases List.mem_cons.1 hp with rfl | hp
      · simp
      · have := ih p hp; simp; omega
    · split at hp
      · rename_i a t hh
        rcases List.mem_cons.1 hp with rfl | hp
        · have := ih a (by rw [hh]; simp); simp; omega
        · have := ih p (by rw [hh]; exact List.mem_cons_of_mem _ hp); simp; omega
      · simp at hp; subst hp; simp
theorem rpB_size (s : ByteArray) (k : Nat) : ∀ x ∈ rpB s k, x.size ≤ k := by
  intro x hx
  unfold rpB at hx
  obtain ⟨l, hl, rfl⟩ := List.mem_map.1 hx
  have h1 := parts_le _ l hl
  have h2 : (s.data.toList.take k).length ≤ k := by rw [List.length_take]; omega
  show l.toArray.size ≤ k
  rw [List.size_toArray]; omega
theorem rpB_len (s : ByteArray) (k : Nat) : (rpB s k).length ≤ k + 1 ∧ 0 < (rpB s k).length := by
  unfold rpB
  rw [List.length_map]
  refine ⟨?_, List.length_pos_iff.2 (partsL_ne _)⟩
  have : ∀ l : List UInt8, (partsL l).length ≤ l.length + 1 := fun l => by
    induction l with
    | nil => simp [partsL]
    | cons x l ih =>
      rw [partsL_cons]
      split
      · simp; omega
      · split
        · rename_i h t hh; rw [hh] at ih; simp at ih ⊢; omega
        · simp
  have h1 := this (s.data.toList.take k)
  have h2 : (s.data.toList.take k).length ≤ k := by rw [List.length_take]; omega
  omega
set_option maxHeartbeats 1600000 in
theorem rparts_any (s : ByteArray) (w : World) (hs : s.size ≤ 1000000) :
    Calls Tryz.prog 51 #[.string s] w fun e w' => SlRet w' w.heap.size (rpB s s.size) e ∧ Below w.heap.size w w' := by
  obtain ⟨i0, hi, hz0, hz1, hz2⟩ := info_parts info9
  go_enter Tryz.func51, Tryz.ntmps51
  go_wp2_with fail
  have HO0 : Hid (OwnS (w.alloc (.cells #[.string ⟨#[]⟩] 9)) w.heap.size (.slice (some ⟨w.heap.size, 0, none⟩) 1 1) (rpB s 0)) :=
    ⟨by simp [rpB, partsL, strsV], .inr ⟨w.heap.size, 1, #[.string ⟨#[]⟩], rfl, Nat.le_refl _, heap_alloc_new w _, Nat.le_refl _, by simp [maxLen], rfl, rfl⟩⟩
  go_loopw [3, 4] (fun v i wr => ∃ (k : Nat), k ≤ s.size ∧ i = .int .i64 k ∧ OwnS wr w.heap.size v (rpB s k) ∧ Below w.heap.size w wr) (fun _ i _ => s.size - (intOf i).toNat)
  case atStart => exact ⟨0, Nat.zero_le _, rfl, HO0.out, (Below.refl _ _).alloc (Nat.le_refl _) _⟩
  case round =>
    obtain ⟨k, hk, rfl, hown, hbr⟩ := hrel
    have HO := hidM hown
    have HB := hidM hbr
    have hsz := hbr.size
    clear hown hbr HO0
    have hln := rpB_len s k
    by_cases hlt : k < s.size
    · have kk : (k : Int) < (s.size : Int) := by omega
      obtain ⟨ch, hch⟩ : ∃ ch, ch = s[k].toNat := ⟨_, rfl⟩
      have r0 : (s[k].toNat : Int) = (ch : Int) := by omega
      by_cases h47 : s[k] = 47
      · have HT := hidM (rpB_slash s k hlt h47)
        have r47 : (s[k].toNat : Int) = 47 := by rw [h47]; rfl
        generalize rpB s k = L at *
        clear h47 r0 hch
        go_wp2_with (first
          | (at_builtin; refine wpList_append_own _ rfl _ _ 47 rfl w.heap.size 9 i0 (.string .empty) 1 16 Tryz.underlying47 hi hz0 hz1 hz2 rfl (by decide) _ _ _ rfl (World.ownsRow.alloc HO.out _) ⟨wr.heap.size, 0, none⟩ 1 1 [.string ⟨#[]⟩] ?d0 rfl ?d1 ?d2 ?d3 ?d4 ?d5 ?_))
        case d0 => rfl
        case d1 => exact cell_new_at _ _ _ _ rfl
        case d2 => intro u hu; simp at hu; subst hu; rfl
        case d3 => unfold maxLen; omega
        case d4 => omega
        case d5 => simp; omega
        intro v' w2 hown' hgrow _
        have HO2 := hidM (OwnS.push hown')
        have HB3 := hidM (OwnS.below HO.out HB.out hsz hgrow)
        clear hown' hgrow
        go_wp2_with fail
        go_roundw
        case rel => exact ⟨k + 1, by omega, by go_num, by rw [HT.out]; exact HO2.out, HB3.out⟩
        case measure => (show s.size - ((k : Int) + 1).toNat < s.size - ((k : Int)).toNat); omega
      · have qc : ((ch : Int) == 47) = false := by
          have : ch ≠ 47 := fun e => h47 (by rw [← UInt8.toNat_inj, ← hch, e]; rfl)
          simp; omega
        obtain ⟨I, Z, h1, h2⟩ := rpB_other s k hlt h47
        have HT := hidM h2
        have hzs := rpB_size s k Z (by rw [h1]; simp)
        rw [h1] at HO hln
        clear h1 h2 h47 hch
        obtain ⟨a, cp, rfl, hsh⟩ := HO.out.shape
        obtain ⟨g, rfl, hg1, hg2, hst⟩ := hsh (by simp)
        obtain ⟨m, hm⟩ : ∃ m, m = I.length := ⟨_, rfl⟩
        have hLm : (I ++ [Z]).length = m + 1 := by rw [hm]; simp
        have cm : wr.cell? ⟨g, m, none⟩ = some (.string Z) := by
          have := hst m (by rw [hLm]; omega)
          rw [this]; simp [hm]
        have fz : wr.frozen? ⟨g, m, none⟩ = false := World.ownsRow.frozenAt HO.out m
        have HO' : Hid (wr.ownsRow w.heap.size 9 1 (.slice (some ⟨g, 0, none⟩) (m + 1) cp) (m + 1) (strsV (I ++ [Z]))) := by
          have := HO.out
          unfold OwnS at this
          rw [hLm] at this
          exact this
        have HST : Hid (∀ (W : World) (x : ByteArray), W.ownsRow w.heap.size 9 1 (.slice (some ⟨g, 0, none⟩) (m + 1) cp) (m + 1) ((strsV (I ++ [Z])).set m (.string x)) → OwnS W w.heap.size (.slice (some ⟨g, 0, none⟩) (m + 1) cp) (I ++ [x])) := fun W x h => by
          unfold OwnS
          have e1 : (I ++ [x]).length = m + 1 := by rw [hm]; simp
          have e2 : (strsV (I ++ [Z])).set m (.string x) = strsV (I ++ [x]) := by
            unfold strsV
            rw [List.map_append, List.map_append, List.set_append_right _ _ (by simp [hm])]
            simp [hm]
          rw [e1, ← e2]; exact h
        have hlm : m ≤ k := by have := hln.1; omega
        rw [hLm]
        have j1 : ((m + 1 : Nat) : Int) - 1 = (m : Int) := by omega
        have j2 : (m : Int) < ((m + 1 : Nat) : Int) := by omega
        have j3 : (k : Int) + 1 = ((k + 1 : Nat) : Int) := by omega
        have j4 : ((k + 1 : Nat) : Int) ≤ (s.size : Int) := by omega
        have j5 : (k : Int) ≤ ((k + 1 : Nat) : Int) := by omega
        have hes : (s.extract k (k + 1)).size ≤ 1 := by rw [ByteArray.size_extract]; omega
        clear hsh hst hLm hln HO hm
        generalize m + 1 = m1 at *
        generalize k + 1 = k1 at *
        go_wp2_with fail
        go_region
        have HSD := hidM (World.ownsRow.stored HO'.out m (.string (Z ++ s.extract k k1)))
        have HO2 : Hid (OwnS (wr.setCell ⟨g, m, none⟩ (.string (Z ++ s.extract k k1))).drew w.heap.size (.slice (some ⟨g, 0, none⟩) m1 cp) (I ++ [Z ++ s.extract k k1])) := HST.out _ _ HSD.out.1.drew
        have HB2 : Hid (Below w.heap.size w (wr.setCell ⟨g, m, none⟩ (.string (Z ++ s.extract k k1))).drew) := below_drewN (HB.out.grown HSD.out.2 hsz (fun j hj => by cases hj; exact hg1)) 1
        generalize (wr.setCell ⟨g, m, none⟩ (.string (Z ++ s.extract k k1))).drew = w2 at *
        clear HSD cm fz HO' HST
        go_wp2_with fail
        go_roundw
        case rel => exact ⟨k1, by omega, by go_num, by rw [HT.out]; exact HO2.out, HB2.out⟩
        case measure => (show s.size - ((k1 : Int)).toNat < s.size - ((k : Int)).toNat); omega
    · obtain rfl : k = s.size := by omega
      go_wp2_with fail
      go_ret
      exact ⟨⟨_, HO.out, rfl⟩, HB.out⟩
theorem rpB_all (s : ByteArray) : rpB s s.size = (partsL s.data.toList).map mkB := by
  unfold rpB
  rw [List.take_of_length_le (by rw [← Lib.size_eq]; exact Nat.le_refl _)]
end Go.Proofs.YtmhjdahmmdfbcaaGreatDoor.M
namespace Go.Proofs.YtmhjdahmmdfbcaaGreatDoor.M
open Go.RowKit
theorem idx_cont (l : List UInt8) (c : UInt8) : decide (0 ≤ Lib.indexByte l c) = l.contains c := by
  induction l with
  | nil => rfl
  | cons b r ih =>
    unfold Lib.indexByte
    rw [List.contains_cons]
    by_cases h : b = c
    · subst h; simp
    · have h2 : (b == c) = false := beq_false_of_ne h
      have h3 : (c == b) = false := beq_false_of_ne (Ne.symm h)
      rw [if_neg (by simp [h]), h3, Bool.false_or, ← ih]
      have hg := Lib.indexByte_ge r c
      by_cases h4 : (Lib.indexByte r c == -1) = true
      · rw [if_pos h4, beq_iff_eq.1 h4]
      · rw [if_neg h4]
        have : Lib.indexByte r c ≠ -1 := by simpa using h4
        rw [decide_eq_decide]; omega
set_option maxHeartbeats 1000000 in
theorem firstPart_any (s : ByteArray) (w : World) (hs : s.size ≤ 200) : Calls Tryz.prog 52 #[.string s] w fun e w' => e = .returned (.bool (fstP s.data.toList)) ∧ w' = w := by
  have HB := hidM (bounded_any s w hs)
  have HE := hidM (each_44 s w hs)
  have HC : Hid (Calls Tryz.prog 80 #[.string s, .string ⟨#[46]⟩] w fun e w' => e = .returned (.bool (s.data.toList.contains 46)) ∧ w' = w) := by
    have := Tryz.strings_Contains_one s 46 w
    rw [idx_cont] at this
    exact this
  have HR : Hid (fstP s.data.toList = (bndL s.data.toList && s.data.toList.all fstB && s.data.toList.contains 46 && !(s.data.toList.head? == some 45))) := rfl
  by_cases h0 : bndL s.data.toList = true
  · have hp : 0 < s.size := by
      unfold bndL at h0
      rw [← sl_len]
      cases hl : s.data.toList with
      | nil => rw [hl] at h0; simp at h0
      | cons _ _ => simp
    have HH : Hid (s.data.toList.head? = some s[0]) := by
      unfold Hid
      rw [List.head?_eq_getElem?, ba_at s 0 hp]
    rw [h0] at HB HR
    have hp2 : (0 : Int) < (s.size : Int) := by omega
    rw [HH.out] at HR
    clear h0 HH
    generalize s.data.toList.all fstB = B at *
    generalize s.data.toList.contains 46 = C at *
    have HN : Hid ((some s[0] == some (45 : UInt8)) = (((s[0].toNat : Nat) : Int) == 45)) := by
      unfold Hid
      rw [Bool.eq_iff_iff, beq_iff_eq, beq_iff_eq, Option.some.injEq]
      constructor
      · intro h; rw [h]; rfl
      · intro h; exact UInt8.toNat_inj.1 (by have : (45 : UInt8).toNat = 45 := rfl; omega)
    rw [HN.out] at HR
    clear HN
    cases B with
    | false =>
      go_enter Tryz.func52, Tryz.ntmps52
      go_wp2_with (first
        | (go_at_call 53; with_reducible refine HB.out.mono ?_; rintro _ _ ⟨rfl, rfl⟩)
        | (go_at_call 54; with_reducible refine HE.out.mono ?_; rintro _ _ ⟨rfl, rfl⟩))
      go_ret
      exact ⟨by rw [HR.out]; rfl, rfl⟩
    | true =>
      cases C with
      | false =>
        go_enter Tryz.func52, Tryz.ntmps52
        go_wp2_with (first
          | (go_at_call 53; with_reducible refine HB.out.mono ?_; rintro _ _ ⟨rfl, rfl⟩)
          | (go_at_call 54; with_reducible refine HE.out.mono ?_; rintro _ _ ⟨rfl, rfl⟩)
          | (go_at_call 80; with_reducible refine HC.out.mono ?_; rintro _ _ ⟨rfl, rfl⟩))
        go_ret
        exact ⟨by rw [HR.out]; rfl, rfl⟩
      | true =>
        go_enter Tryz.func52, Tryz.ntmps52
        go_wp2_with (first
          | (go_at_call 53; with_reducible refine HB.out.mono ?_; rintro _ _ ⟨rfl, rfl⟩)
          | (go_at_call 54; with_reducible refine HE.out.mono ?_; rintro _ _ ⟨rfl, rfl⟩)
          | (go_at_call 80; with_reducible refine HC.out.mono ?_; rintro _ _ ⟨rfl, rfl⟩))
        go_ret
        exact ⟨by rw [HR.out]; rfl, rfl⟩
  · have h1 : bndL s.data.toList = false := Bool.eq_false_iff.2 h0
    rw [h1] at HB HR
    clear h0 h1
    go_enter Tryz.func52, Tryz.ntmps52
    go_wp2_with (go_at_call 53; with_reducible refine HB.out.mono ?_; rintro _ _ ⟨rfl, rfl⟩)
    go_ret
    exact ⟨by rw [HR.out]; rfl, rfl⟩
theorem path_cut (l : List UInt8) (h : l.length ≤ 200) : pathL l = (fstP (cutR 47 l).1 && (!(cutR 47 l).2.2 || (partsL (cutR 47 l).2.1).all othP)) := by
  unfold pathL cutR
  cases hc : splitC 47 l with
  | none =>
    rw [partsL_none l (split_none hc).2]
    simp [h]
  | some x =>
    obtain ⟨p, q⟩ := x
    obtain ⟨_, h2, h3⟩ := split_some hc
    have : partsL l = p :: partsL q := by
      conv => lhs; rw [h2]
      rw [partsL_app, partsL_none p h3]; rfl
    rw [this]
    simp [h]
theorem mkl (l : List UInt8) : (⟨l.toArray⟩ : ByteArray).data.toList = l := rfl
set_option maxHeartbeats 2000000 in
theorem path_any (s : ByteArray) (w : World) : Calls Tryz.prog 20 #[.string s] w fun e w' => e = .returned (.bool (pathL s.data.toList)) ∧ Below w.heap.size w w' := by
  by_cases hs : s.size ≤ 200
  · have g : ¬ (200 : Int) < (s.size : Int) := by omega
    have HC := hidM (cut_any s 47 w (by omega))
    have HP := hidM (path_cut s.data.toList (by rw [sl_len]; omega))
    have hl1 : (cutR 47 s.data.toList).1.length ≤ 200 ∧ (cutR 47 s.data.toList).2.1.length ≤ 200 := by
      unfold cutR
      cases hc : splitC 47 s.data.toList with
      | none => exact ⟨by rw [sl_len]; omega, by simp⟩
      | some x =>
        obtain ⟨p, q⟩ := x
        obtain ⟨_, h2, _⟩ := split_some hc
        have := congrArg List.length h2
        rw [sl_len] at this
        simp at this
        exact ⟨by simp; omega, by simp; omega⟩
    generalize pathL s.data.toList = R at *
    generalize cutR 47 s.data.toList = Z at *
    obtain ⟨p, q, more⟩ := Z
    simp only at HC HP hl1
    have HF := hidM (fun W => firstPart_any ⟨p.toArray⟩ W (by show p.toArray.size ≤ 200; simpa using hl1.1))
    rw [mkl] at HF
    have HS := hidM (fun W => split_any ⟨q.toArray⟩ W (by show q.toArray.size ≤ 200; simpa using hl1.2))
    have HQ : Hid ((partsB ⟨q.toArray⟩).map (fun b => b.data.toList) = partsL q) := parts_eq ⟨q.toArray⟩
    have hpl : (partsB ⟨q.toArray⟩).length ≤ 201 ∧ ∀ x ∈ partsB ⟨q.toArray⟩, x.size ≤ 200 := by
      refine ⟨?_, fun x hx => ?_⟩
      · have := Lib.splitB_length_le slash 0 (Lib.countB ⟨q.toArray⟩ slash) ⟨q.toArray⟩
        have h2 := Lib.countB_le slash (by decide) (⟨q.toArray⟩ : ByteArray).size ⟨q.toArray⟩ (Nat.le_refl _)
        have h3 : (⟨q.toArray⟩ : ByteArray).size = q.length := by show q.toArray.size = _; simp
        unfold partsB; omega
      · have := parts_le q x.data.toList (by rw [← HQ.out]; exact List.mem_map_of_mem hx)
        rw [sl_len] at this; omega
    unfold slash at HS
    generalize (⟨p.toArray⟩ : ByteArray) = P at *
    generalize fstP p = A at *
    cases A with
    | false =>
      have HR : Hid (R = false) := by rw [HP.out]; rfl
      clear HP HS
      go_enter Tryz.func20, Tryz.ntmps20
      go_wp2_with fail
      refine HC.out.mono ?_
      rintro _ _ ⟨rfl, m, rfl⟩
      go_wp2_with (go_at_call 52; with_reducible refine (HF.out _).mono ?_; rintro _ _ ⟨rfl, rfl⟩)
      go_ret
      exact ⟨by rw [HR.out]; rfl, (Below.refl _ w).trans ⟨rfl, rfl, rfl, by simp, fun k _ => by simp⟩⟩
    | true =>
      cases more with
      | false =>
        have HR : Hid (R = true) := by rw [HP.out]; rfl
        clear HP HS
        go_enter Tryz.func20, Tryz.ntmps20
        go_wp2_with fail
        refine HC.out.mono ?_
        rintro _ _ ⟨rfl, m, rfl⟩
        go_wp2_with (go_at_call 52; with_reducible refine (HF.out _).mono ?_; rintro _ _ ⟨rfl, rfl⟩)
        go_ret
        exact ⟨by rw [HR.out]; rfl, (Below.refl _ w).trans ⟨rfl, rfl, rfl, by simp, fun k _ => by simp⟩⟩
      | true =>
        have HR : Hid (R = (partsB ⟨q.toArray⟩).all fun b => othP b.data.toList) := by
          unfold Hid
          rw [HP.out, ← HQ.out, List.all_map]
          simp
          rfl
        clear HP HQ
        generalize (⟨q.toArray⟩ : ByteArray) = Q at *
        generalize partsB Q = ps at *
        obtain ⟨hp1, hp2⟩ := hpl
        have HB0 : Hid (∀ m, Below w.heap.size w (w.drewN m)) := fun m => (Below.refl _ w).trans ⟨rfl, rfl, rfl, by simp, fun k _ => by simp⟩
        go_enter Tryz.func20, Tryz.ntmps20
        go_wp2_with fail
        refine HC.out.mono ?_
        rintro _ w1 ⟨rfl, m, h1⟩
        have HB1 : Hid (Below w.heap.size w w1) := by rw [h1]; exact HB0.out m
        clear h1 HB0
        go_wp2_with fail
        refine (HF.out _).mono ?_
        rintro _ w1b ⟨rfl, hw⟩
        rw [hw]
        clear hw
        go_wp2_with fail
        refine (HS.out _).mono ?_
        rintro _ w2 ⟨rfl, h2⟩
        have HCE : Hid (∀ j (h : j < ps.length), w2.cell? ⟨w1.heap.size, j, none⟩ = some (.string ps[j])) := by
          intro j h
          rw [h2, World.cell?_alloc_mark w1 _ 9 (0, 0) j]
          simp [h]
        have HB2 : Hid (Below w.heap.size w w2) := by rw [h2]; exact HB1.out.alloc HB1.out.size _
        clear h2 HB1 HS HC
        generalize w1.heap.size = g0 at *
        go_wp2
        go_loopw [7, 25, 26, 27, 28, 29, 30, 31, 32, 33, 34, 35, 36, 37] (fun _ v _ _ _ _ _ _ _ _ _ _ _ _ wr => ∃ k : Nat, k ≤ ps.length ∧ v = .int .i64 (k : Int) ∧ (ps.take k).all (fun b => othP b.data.toList) = true ∧ wr = w2) (fun _ v _ _ _ _ _ _ _ _ _ _ _ _ _ => ps.length - (intOf v).toNat)
        case atStart => exact ⟨0, Nat.zero_le _, rfl, rfl, rfl⟩
        case round =>
          obtain ⟨k, hk, rfl, hd, rfl⟩ := hrel
          have HD := hidM hd
          clear hd
          by_cases hlt : k < ps.length
          · have kk : (k : Int) < (ps.length : Int) := by omega
            have hc := HCE.out k hlt
            have hz := hp2 ps[k] (List.getElem_mem _)
            have HBN := hidM (bounded_any ps[k] wr hz)
            have HEA := hidM (each_31 ps[k] wr hz)
            have HT : Hid ((ps.take (k + 1)).all (fun b => othP b.data.toList) = (bndL ps[k].data.toList && ps[k].data.toList.all plnB)) := by
              unfold Hid
              rw [List.take_succ_eq_append_getElem hlt, List.all_append, HD.out]
              simp [othP]
            have HNO : Hid ((bndL ps[k].data.toList && ps[k].data.toList.all plnB) = false → R = false) := by
              intro h
              rw [HR.out, List.all_eq_false]
              exact ⟨ps[k], List.getElem_mem _, by unfold othP; rw [h]; exact Bool.false_ne_true⟩
            generalize bndL ps[k].data.toList = A at *
            generalize ps[k].data.toList.all plnB = B at *
            generalize ps[k] = X at *
            clear hz
            cases A with
            | false =>
              have HN2 := hidM (HNO.out rfl)
              clear HNO HT
              go_wp2_with (go_at_call 53; with_reducible refine HBN.out.mono ?_; rintro _ _ ⟨rfl, rfl⟩)
              go_ret
              exact ⟨by rw [HN2.out]; rfl, HB2.out⟩
            | true =>
              cases B with
              | false =>
                have HN2 := hidM (HNO.out rfl)
                clear HNO HT
                go_wp2_with (first
                  | (go_at_call 53; with_reducible refine HBN.out.mono ?_; rintro _ _ ⟨rfl, rfl⟩)
                  | (go_at_call 54; with_reducible refine HEA.out.mono ?_; rintro _ _ ⟨rfl, rfl⟩))
                go_ret
                exact ⟨by rw [HN2.out]; rfl, HB2.out⟩
              | true =>
                clear HNO
                go_wp2_with (first
                  | (go_at_call 53; with_reducible refine HBN.out.mono ?_; rintro _ _ ⟨rfl, rfl⟩)
                  | (go_at_call 54; with_reducible refine HEA.out.mono ?_; rintro _ _ ⟨rfl, rfl⟩))
                go_roundw
                case rel => exact ⟨k + 1, by omega, by go_num, HT.out, trivial⟩
                case measure => (show ps.length - ((k : Int) + 1).toNat < ps.length - ((k : Int)).toNat); omega
          · obtain rfl : k = ps.length := by omega
            have HF : Hid (R = true) := by
              have := HD.out
              rw [List.take_of_length_le (Nat.le_refl _)] at this
              rw [HR.out]; exact this
            go_wp2
            go_ret
            exact ⟨by rw [HF.out]; rfl, HB2.out⟩
  · have g : (200 : Int) < (s.size : Int) := by omega
    have HR : Hid (pathL s.data.toList = false) := by unfold Hid pathL; rw [decide_eq_false (by rw [sl_len]; omega)]; rfl
    go_enter Tryz.func20, Tryz.ntmps20
    go_wp2
    go_ret
    exact ⟨by rw [HR.out]; rfl, Below.refl _ _⟩
end Go.Proofs.YtmhjdahmmdfbcaaGreatDoor.M
namespace Go.Proofs.YtmhjdahmmdfbcaaGreatDoor.M
open Go.RowKit
/-- the directives' box: what was read, and the verb of the block that is open -/
def dirB (lv : Value) (B : ByteArray) : Obj := .cells #[lv, .string B] 84 (0, 0)
theorem dir_cells {V : World} {g : Nat} {v : Value} {x : ByteArray} (h : V.heap[g]? = some (dirB v x)) : V.cell? ⟨g, 0, none⟩ = some v ∧ V.cell? ⟨g, 1, none⟩ = some (.string x) ∧ ∀ j, V.frozen? ⟨g, j, none⟩ = false :=
  ⟨by rw [cell_of_row V g _ _ 84 (0, 0) h]; rfl, by rw [cell_of_row V g _ _ 84 (0, 0) h]; rfl, fun j => frozen_of_row V g j _ 84 h⟩
theorem OwnW.cellAt {w : World} {B : Nat} {v : Value} {P : List (List UInt8)} (h : OwnW w B v P) (hp : 0 < P.length) : ∃ g c, v = .slice (some ⟨g, 0, none⟩) P.length c ∧ (∀ j (hj : j < P.length), w.cell? ⟨g, j, none⟩ = some (strV P[j])) ∧ (∃ cur, w.heap[g]? = some (.cells cur 9 (0, 0))) ∧ P.length ≤ c ∧ c ≤ maxLen := by
  rcases h.2 with ⟨rfl, hn⟩ | ⟨g, cap, cur, rfl, hB, hg, hnc, hcm, hcs, htk⟩
  · omega
  · refine ⟨g, cap, rfl, fun j hj => ?_, ⟨cur, hg⟩, hnc, hcm⟩
    have h1 := World.ownsRow.cells (g := g) h rfl j (strV P[j]) (by simp [hj])
    have hadd : (⟨g, 0, none⟩ : Addr).add j = ⟨g, j, none⟩ := by unfold Addr.add; split <;> simp_all
    rw [hadd] at h1
    exact h1
set_option maxHeartbeats 1000000 in
theorem open_no (E : Nat) (lv wv : Value) (B : ByteArray) (ws : List (List UInt8)) (w : World) (hb : w.heap[E]? = some (dirB lv B)) (hw : OwnW w 0 wv ws) (hc : B.toList ≠ [] ∨ ws.length ≠ 1) :
    Calls Tryz.prog 84 #[.pointer (some ⟨E, 0, none⟩), wv] w fun e w' => e = .returned (.bool false) ∧ w' = w := by
  obtain ⟨d0, d1, df⟩ := dir_cells hb
  obtain ⟨n, c, rfl⟩ := hw.isSlice
  clear hb hw df
  generalize ws.length = l at *
  by_cases h1 : B.toList = []
  · have hl : l ≠ 1 := by
      rcases hc with h | h
      · exact absurd h1 h
      · exact h
    have h2 : ((l : Int) != 1) = true := by simp; omega
    have h3 : B.toList.isEmpty = true := by rw [h1]; rfl
    clear hc h1
    go_enter Tryz.func84, Tryz.ntmps84
    go_wp2
    go_ret
    exact ⟨rfl, rfl⟩
  · have h3 : B.toList.isEmpty = false := by
      cases hl : B.toList with
      | nil => exact absurd hl h1
      | cons _ _ => rfl
    clear hc h1
    go_enter Tryz.func84, Tryz.ntmps84
    go_wp2
    go_ret
    exact ⟨rfl, rfl⟩
set_option maxHeartbeats 1000000 in
theorem open_yes (E : Nat) (lv wv : Value) (B : ByteArray) (x : List UInt8) (w : World) (hb : w.heap[E]? = some (dirB lv B)) (hw : OwnW w 0 wv [x]) (hc : B.toList = []) :
    Calls Tryz.prog 84 #[.pointer (some ⟨E, 0, none⟩), wv] w fun e w' => e = .returned (.bool (decide (x ≠ []))) ∧ w' = w.setCell ⟨E, 1, none⟩ (strV x) := by
  obtain ⟨d0, d1, df⟩ := dir_cells hb
  have d2 := df 1
  obtain ⟨g, c, rfl, hcell, ⟨cur, hg⟩, hlc, _⟩ := hw.cellAt (by simp)
  have c0 := hcell 0 (by simp)
  have hge : g ≠ E := by
    rintro rfl
    rw [hb] at hg
    simp [dirB] at hg
  have hge2 := hge.symm
  simp only [List.getElem_cons_zero, strV] at c0
  have h3 : B.toList.isEmpty = true := by rw [hc]; rfl
  have HX : Hid ((!(⟨x.toArray⟩ : ByteArray).toList.isEmpty) = decide (x ≠ [])) := by
    unfold Hid
    rw [Lib.toList_data, Bool.eq_iff_iff]
    cases x <;> simp
  have hE : (w.setCell ⟨E, 1, none⟩ (strV x)).heap[E]? = some (dirB lv ⟨x.toArray⟩) := by
    rw [heap_setCell_same _ _ _ _ 84 _ hb]; rfl
  obtain ⟨_, e1, _⟩ := dir_cells hE
  unfold strV at e1 ⊢
  generalize (⟨x.toArray⟩ : ByteArray) = X at *
  generalize decide (x ≠ []) = r at *
  clear hb hw df hcell hg hc hE
  simp only [List.length_cons, List.length_nil, Nat.zero_add] at *
  go_enter Tryz.func84, Tryz.ntmps84
  go_wp2
  go_ret
  exact ⟨ret_bool HX.out, rfl⟩
set_option maxHeartbeats 1000000 in
theorem shut_no (E : Nat) (lv wv : Value) (B : ByteArray) (ws : List (List UInt8)) (w : World) (hb : w.heap[E]? = some (dirB lv B)) (hw : OwnW w 0 wv ws) (hc : B.toList = [] ∨ ws.length ≠ 0) :
    Calls Tryz.prog 85 #[.pointer (some ⟨E, 0, none⟩), wv] w fun e w' => e = .returned (.bool false) ∧ w' = w := by
  obtain ⟨d0, d1, df⟩ := dir_cells hb
  obtain ⟨n, c, rfl⟩ := hw.isSlice
  clear hb hw df
  generalize ws.length = l at *
  by_cases h1 : B.toList = []
  · have h3 : B.toList.isEmpty = true := by rw [h1]; rfl
    clear hc h1
    go_enter Tryz.func85, Tryz.ntmps85
    go_wp2
    go_ret
    exact ⟨rfl, rfl⟩
  · have hl : l ≠ 0 := by
      rcases hc with h | h
      · exact absurd h h1
      · exact h
    have h2 : ((l : Int) != 0) = true := by simp; omega
    have h3 : B.toList.isEmpty = false := by
      cases hl : B.toList with
      | nil => exact absurd hl h1
      | cons _ _ => rfl
    clear hc h1
    go_enter Tryz.func85, Tryz.ntmps85
    go_wp2
    go_ret
    exact ⟨rfl, rfl⟩
set_option maxHeartbeats 1000000 in
theorem shut_yes (E : Nat) (lv wv : Value) (B : ByteArray) (w : World) (hb : w.heap[E]? = some (dirB lv B)) (hw : OwnW w 0 wv []) (hc : B.toList ≠ []) :
    Calls Tryz.prog 85 #[.pointer (some ⟨E, 0, none⟩), wv] w fun e w' => e = .returned (.bool true) ∧ w' = w.setCell ⟨E, 1, none⟩ (.string ⟨#[]⟩) := by
  obtain ⟨d0, d1, df⟩ := dir_cells hb
  have d2 := df 1
  obtain ⟨n, c, rfl⟩ := hw.isSlice
  have h3 : B.toList.isEmpty = false := by
    cases hl : B.toList with
    | nil => exact absurd hl hc
    | cons _ _ => rfl
  clear hb hw df hc
  simp only [List.length_nil]
  go_enter Tryz.func85, Tryz.ntmps85
  go_wp2
  go_ret
  exact ⟨rfl, rfl⟩
end Go.Proofs.YtmhjdahmmdfbcaaGreatDoor.M
