/-
  A number one less is a number, and stands ahead.
-/
import Derived.Test.YtmhjdahmmdfbcaaGreatDoorPsN
namespace Go.Proofs.YtmhjdahmmdfbcaaGreatDoor
open Go.RowKit

theorem nought_at (l : List UInt8) (h0 : l.getD 0 0 ≠ 48) : ∀ m, l.getD (noughtK l m) 0 ≠ 48
  | 0 => h0
  | m + 1 => by
    rw [noughtK_succ]
    split
    · exact nought_at l h0 m
    · assumption
theorem cmp_pre (a : List UInt8) {x y : UInt8} {b c : List UInt8} (h : x < y) : Lib.compareBytes (a ++ x :: b) (a ++ y :: c) = -1 := by
  induction a with
  | nil => simp [Lib.compareBytes, h]
  | cons z a ih =>
    show Lib.compareBytes (z :: (a ++ x :: b)) (z :: (a ++ y :: c)) = -1
    rw [Lib.compareBytes, if_neg (by simp), if_neg (by simp)]
    exact ih
theorem num_mk {l : List UInt8} (hd : ∀ c ∈ l, 48 ≤ c.toNat ∧ c.toNat ≤ 57) (h0 : 0 < l.length) (h1 : l.length = 1 ∨ l.getD 0 0 ≠ 48) : numL l = true := by
  unfold numL
  rw [Bool.and_eq_true]
  refine ⟨?_, ?_⟩
  · unfold digL
    rw [Bool.and_eq_true]
    refine ⟨?_, ?_⟩
    · rw [List.all_eq_true]
      intro c hc
      have := hd c hc
      unfold digC
      simp; omega
    · cases l with
      | nil => simp at h0
      | cons c r => rfl
  · rcases h1 with h1 | h1
    · simp [h1]
    · simp only [Bool.or_eq_true]
      exact Or.inr (by simpa using h1)
theorem num_ahead {l : List UInt8} (h : numL l = true) (hne : l ≠ [48]) : l.getD 0 0 ≠ 48 := by
  unfold numL at h
  rw [Bool.and_eq_true, Bool.or_eq_true] at h
  rcases h.2 with h2 | h2
  · intro he
    have hl : l.length = 1 := by simpa using h2
    match l, hl with
    | [c], _ => exact hne (by rw [show c = 48 from he])
  · simpa using h2
theorem less_num {l : List UInt8} (h : numL l = true) (hne : l ≠ [48]) : numL (lessL l) = true ∧ ((lessL l).length < l.length ∨ ((lessL l).length = l.length ∧ Lib.compareBytes (lessL l) l = -1)) := by
  obtain ⟨hd, hn⟩ := num_digs h
  have h0 := num_ahead h hne
  have hk := noughtK_le l (l.length - 1)
  have hx := nought_at l h0 (l.length - 1)
  unfold lessL lessAt
  generalize noughtK l (l.length - 1) = k at *
  have hkl : k < l.length := by omega
  rw [getD_in l k hkl] at hx ⊢
  have hxd := hd l[k] (List.getElem_mem hkl)
  have hxn : l[k].toNat ≠ 48 := fun e => hx (UInt8.toNat_inj.1 e)
  have hdec := byte_dec l[k] (by omega)
  have hlt : l[k] - 1 < l[k] := by rw [UInt8.lt_iff_toNat_lt, hdec]; omega
  have hl : l = l.take k ++ l[k] :: l.drop (k + 1) := by rw [← List.drop_eq_getElem_cons hkl, List.take_append_drop]
  have hcmp : Lib.compareBytes (l.take k ++ (l[k] - 1) :: List.replicate (l.length - (k + 1)) 57) l = -1 := by
    conv => lhs; arg 2; rw [hl]
    exact cmp_pre _ hlt
  have hlen : (l.take k ++ (l[k] - 1) :: List.replicate (l.length - (k + 1)) 57).length = l.length := by simp; omega
  have hdig : ∀ c ∈ l.take k ++ (l[k] - 1) :: List.replicate (l.length - (k + 1)) 57, 48 ≤ c.toNat ∧ c.toNat ≤ 57 := by
    intro c hc
    rcases List.mem_append.1 hc with hc | hc
    · exact hd c (List.mem_of_mem_take hc)
    · rcases List.mem_cons.1 hc with rfl | hc
      · omega
      · have := List.eq_of_mem_replicate hc
        subst this
        decide
  have hrest : k = 0 → l.take k ++ (l[k] - 1) :: List.replicate (l.length - (k + 1)) 57 = (l[k] - 1) :: List.replicate (l.length - (k + 1)) 57 := fun e => by subst e; rfl
  have hfirst : k ≠ 0 → (l.take k ++ (l[k] - 1) :: List.replicate (l.length - (k + 1)) 57).getD 0 0 ≠ 48 := fun e => by
    cases l with
    | nil => simp at hn
    | cons c r =>
      obtain ⟨m, rfl⟩ : ∃ m, k = m + 1 := ⟨k - 1, by omega⟩
      simpa using h0
  generalize hL : l.take k ++ (l[k] - 1) :: List.replicate (l.length - (k + 1)) 57 = L at *
  match L, hlen with
  | [], e => simp at e; omega
  | [c], e =>
    rw [trim_one]
    exact ⟨num_mk hdig (by simp) (Or.inl rfl), Or.inr ⟨e, hcmp⟩⟩
  | c :: d :: r, e =>
    by_cases hc : c = 48
    · have hk0 : k = 0 := Classical.byContradiction fun hk0 => hfirst hk0 (by simpa using hc)
      have h57 : d = 57 := by
        have := hrest hk0
        have h2 := (List.cons.inj this).2
        have h3 : d ∈ List.replicate (l.length - (k + 1)) (57 : UInt8) := by rw [← h2]; exact List.mem_cons_self
        exact List.eq_of_mem_replicate h3
      subst hc
      rw [trim_yes]
      exact ⟨num_mk (fun x hx => hdig x (List.mem_cons_of_mem _ hx)) (by simp) (Or.inr (by rw [h57]; simp)), Or.inl (by rw [← e]; simp)⟩
    · rw [trim_no hc]
      exact ⟨num_mk hdig (by simp) (Or.inr (by simpa using hc)), Or.inr ⟨e, hcmp⟩⟩
theorem less_base {s : ByteArray} {v : Ver} (h : parseR s = some v) (h0 : v.short = 0) (hne : v.patch.data.toList ≠ [48]) :
    (parseR (wriV (lessV v))).isSome = true ∧ cmpS (wriV (lessV v)) s = -1 := by
  have hr := ver_right h
  obtain ⟨hnum, hcmp⟩ := less_num hr.patch hne
  have hright : Right (lessV v) := ⟨hr.major, hr.minor, hnum, (by simp [lessV]), fun he => by cases he⟩
  have hbr : BuildOk v := build_right h
  have hbq : BuildOk (lessV v) := hbr
  have hpl : (lessV v).patch.size = (lessL v.patch.data.toList).length := by
    show (lessL v.patch.data.toList).toArray.size = _
    rw [List.size_toArray]
  have hpz := size_len v.patch
  have hsz : (wriV (lessV v)).size ≤ 100 := by
    have hw := whole_size h h0
    rw [wri_len, can_len] at hw ⊢
    rw [hpl]
    show 3 + v.major.size + v.minor.size + (lessL v.patch.data.toList).length + 0 + (if v.build.data.toList.isEmpty then 0 else 1 + v.build.size) ≤ 100
    have : (lessL v.patch.data.toList).length ≤ v.patch.size := by rcases hcmp with hc | hc <;> omega
    omega
  have hp := parse_wri (v := lessV v) hright hbq hsz
  refine ⟨by rw [hp]; rfl, ?_⟩
  unfold cmpS
  rw [h, hp]
  have hn : numC (lessV v).patch v.patch = -1 := by
    unfold numC
    rcases hcmp with hc | ⟨hc, hc2⟩
    · have hi : cmpI ((lessV v).patch.size : Int) (v.patch.size : Int) = -1 := by
        unfold cmpI
        rw [if_pos (by rw [hpl]; omega)]
      rw [orL_two, hi]
      rfl
    · have hi : cmpI ((lessV v).patch.size : Int) (v.patch.size : Int) = 0 := by
        unfold cmpI
        rw [if_neg (by rw [hpl]; omega), if_neg (by rw [hpl]; omega)]
      rw [orL_two, hi, if_pos rfl]
      exact hc2
  show orL [numC v.major v.major, numC v.minor v.minor, numC (lessV v).patch v.patch, _] = -1
  rw [orL_four, if_pos (ord_num.same _), if_pos (ord_num.same _), hn]
  rfl
/-- the base of a pseudo-version is none, or a version ahead of it -/
theorem told_base {s : ByteArray} {v : Ver} (h : parseR s = some v) (he : (toldV v).err = 0) :
    (toldV v).base.toList.isEmpty = true ∨ ((parseR (toldV v).base).isSome = true ∧ cmpS (toldV v).base s = -1) := by
  obtain ⟨h0, hc, hb, hbase, _⟩ := told_good he
  obtain ⟨f, _, hfr, _, _⟩ := cut_ok hc
  rw [hbase]
  rw [hfr] at hb ⊢
  unfold baseR at hb ⊢
  cases hF : (v.pre.extract 0 f).toList.isEmpty with
  | true => exact Or.inl (by rw [if_pos rfl]; show (⟨#[]⟩ : ByteArray).toList.isEmpty = true; decide +kernel)
  | false =>
    rw [hF, if_neg Bool.false_ne_true] at hb
    rw [if_neg Bool.false_ne_true]
    cases h2 : (v.pre.extract 0 f).toList == [48, 46] with
    | true =>
      rw [h2, if_pos rfl] at hb
      rw [if_pos rfl]
      cases h3 : v.patch.toList == [48] with
      | true => rw [h3] at hb; cases hb
      | false =>
        rw [if_neg Bool.false_ne_true]
        exact Or.inr (less_base h h0 (fun e => by rw [Lib.toList_data, e] at h3; exact absurd h3 (by decide)))
    | false =>
      rw [h2, if_neg Bool.false_ne_true] at hb
      rw [if_neg Bool.false_ne_true]
      cases h3 : Lib.hasSuffix (v.pre.extract 0 f).data.toList [46, 48, 46] with
      | true =>
        rw [if_pos rfl]
        obtain ⟨r, hr⟩ := pre_front h3
        exact Or.inr (pre_base h h0 hr)
      | false => rw [h3] at hb; cases hb
end Go.Proofs.YtmhjdahmmdfbcaaGreatDoor
