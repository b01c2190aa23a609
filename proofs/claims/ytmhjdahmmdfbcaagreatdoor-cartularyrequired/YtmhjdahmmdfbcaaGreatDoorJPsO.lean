/-
  The parts of a text between bytes of one kind; numbers with 0 ahead.
  Versions as texts: a version written out whole is read back; a version's own text is no shorter than what is written of it.
  A base with a prerelease stands ahead of what is made of it.
  A number one less is a number, and stands ahead.
-/
import Derived.Test.YtmhjdahmmdfbcaaGreatDoorJShelP
import Derived.Test.YtmhjdahmmdfbcaaGreatDoorJPsG
namespace Go.Proofs.YtmhjdahmmdfbcaaGreatDoor
open Go.RowKit
/-- the parts of a text between the bytes c -/
def cutL (c : UInt8) : List UInt8 → List (List UInt8)
  | [] => [[]]
  | b :: l => if b = c then [] :: cutL c l else match cutL c l with
    | [] => [[b]]
    | p :: ps => (b :: p) :: ps
theorem cutL_ne (c : UInt8) (l : List UInt8) : cutL c l ≠ [] := by
  cases l with
  | nil => simp [cutL]
  | cons b l =>
    unfold cutL
    split
    · simp
    · split <;> simp
theorem cutL_one {c : UInt8} : ∀ {l : List UInt8}, c ∉ l → cutL c l = [l]
  | [], _ => rfl
  | b :: l, h => by
    have h1 : ¬ b = c := fun e => h (by rw [e]; exact List.mem_cons_self)
    have h2 : c ∉ l := fun e => h (List.mem_cons_of_mem _ e)
    unfold cutL
    rw [if_neg h1, cutL_one h2]
theorem cutL_app {c : UInt8} : ∀ {l r : List UInt8}, c ∉ l → cutL c (l ++ c :: r) = l :: cutL c r
  | [], r, _ => by
    show cutL c (c :: r) = _
    rw [cutL, if_pos rfl]
  | b :: l, r, h => by
    have h1 : ¬ b = c := fun e => h (by rw [e]; exact List.mem_cons_self)
    have h2 : c ∉ l := fun e => h (List.mem_cons_of_mem _ e)
    show cutL c (b :: (l ++ c :: r)) = _
    rw [cutL, if_neg h1, cutL_app h2]
theorem parts_cut (n : Nat) : ∀ s : ByteArray, s.size ≤ n → partsB s = (cutL 46 s.data.toList).map strOf := by
  induction n with
  | zero =>
    intro s h
    have e : s.data.toList = [] := List.length_eq_zero_iff.1 (by rw [size_len]; omega)
    rw [e, parts_one (by rw [e]; simp)]
    show [s] = [strOf []]
    rw [show s = strOf [] from bytes_ext (by rw [e]; rfl)]
  | succ n ih =>
    intro s h
    cases hs : splitC 46 s.data.toList with
    | none =>
      have hn := (split_none hs).2
      rw [parts_one hn, cutL_one hn]
      show [s] = [strOf s.data.toList]
      rw [show s = strOf s.data.toList from bytes_ext rfl]
      rfl
    | some x =>
      obtain ⟨p, q⟩ := x
      obtain ⟨_, e, hp⟩ := split_some hs
      have e2 : s = strOf ((strOf p).data.toList ++ 46 :: (strOf q).data.toList) := bytes_ext e
      rw [e, cutL_app hp]
      conv => lhs; rw [e2]
      rw [parts_cons (by exact hp), ih (strOf q) ?_]
      · rfl
      · rw [strOf_size]
        have : s.size = p.length + (q.length + 1) := by rw [← size_len, e]; simp
        omega
theorem parts_eq (s : ByteArray) : partsB s = (cutL 46 s.data.toList).map strOf := parts_cut s.size s (Nat.le_refl _)
end Go.Proofs.YtmhjdahmmdfbcaaGreatDoor
namespace Go.Proofs.YtmhjdahmmdfbcaaGreatDoor
open Go.RowKit

def BuildOk (v : Ver) : Prop := v.build.data.toList.isEmpty = false → ((partsB v.build).all fun x => wordL x.data.toList) = true
theorem build_right {s : ByteArray} {v : Ver} (h : parseR s = some v) : BuildOk v := by
  intro hne
  unfold parseR at h
  split at h
  · rename_i hc
    simp only [Bool.and_eq_true, decide_eq_true_eq] at hc
    obtain ⟨_, hok⟩ := hc
    have e := Option.some.inj h
    subst e
    unfold okC at hok
    simp only [Bool.and_eq_true] at hok
    obtain ⟨⟨_, hbu⟩, _⟩ := hok
    have hb : (cutsOf s).hasBuild = true := by
      cases hh : (cutsOf s).hasBuild with
      | true => rfl
      | false =>
        have h2 := cutR_none 43 (vCut s.data.toList).1 hh
        have h3 : (verC (cutsOf s)).build.data.toList = (cutR 43 (vCut s.data.toList).1).2.1 := rfl
        rw [h3, h2] at hne
        cases hne
    rw [hb, Bool.true_and, Bool.not_not] at hbu
    exact hbu
  · cases h
theorem wri_build {v : Ver} (he : v.build.data.toList.isEmpty = false) : wriV v = canV v ++ (⟨#[43]⟩ ++ v.build) := by unfold wriV; rw [he]; rfl
theorem wri_none {v : Ver} (he : v.build.data.toList.isEmpty = true) : wriV v = canV v := by unfold wriV; rw [he]; rfl
def full (v : Ver) : Ver := ⟨v.major, v.minor, v.patch, v.pre, v.build, 0⟩
theorem parse_wri {v : Ver} (hr : Right v) (hb : BuildOk v) (hz : (wriV v).size ≤ 100) : parseR (wriV v) = some (full v) := by
  by_cases hbe : v.build.data.toList.isEmpty = true
  · rw [wri_none hbe] at hz ⊢
    rw [parse_can hr hz]
    have eb : v.build = strOf [] := bytes_ext (by rw [List.isEmpty_iff.1 hbe]; rfl)
    unfold bare full
    rw [eb]
  · have hbf : v.build.data.toList.isEmpty = false := by simpa using hbe
    have hw := hb hbf
    rw [wri_build hbf] at hz ⊢
    have hp := nums_parts hr
    have n43 := nums_no hr (c := 43) (by decide) (by decide)
    have n45 := nums_no hr (c := 45) (by decide) (by decide)
    have hv : ∀ l : List UInt8, vCut (118 :: l) = (l, true) := fun l => by simp [vCut]
    have hl : (canV v ++ (⟨#[43]⟩ ++ v.build)).data.toList = (canV v).data.toList ++ 43 :: v.build.data.toList := by simp [ByteArray.data_append]
    have hc : ∃ f : Bool, (f = true → v.pre.data.toList.isEmpty = false) ∧ cutsOf (canV v ++ (⟨#[43]⟩ ++ v.build)) = ⟨true, strOf (numsL v), v.pre, v.build, f, true⟩ := by
      by_cases he : v.pre.data.toList.isEmpty = true
      · have ep : v.pre = strOf [] := bytes_ext (by rw [List.isEmpty_iff.1 he]; rfl)
        refine ⟨false, (fun h => by cases h), ?_⟩
        unfold cutsOf
        rw [hl, can_list, if_pos he, List.cons_append]
        simp only [hv, cutR_app n43, cutR_no n45, strOf_list, ep]
      · have n43' : (43 : UInt8) ∉ numsL v ++ 45 :: v.pre.data.toList := not_app n43 (not_cons (by decide) hr.plus)
        refine ⟨true, (fun _ => by simpa using he), ?_⟩
        unfold cutsOf
        rw [hl, can_list, if_neg he, List.cons_append]
        simp only [hv, cutR_app n43', cutR_app n45, strOf_list]
    obtain ⟨f, hf, hc⟩ := hc
    have ho : okC (cutsOf (canV v ++ (⟨#[43]⟩ ++ v.build))) = true := by
      rw [hc]
      unfold okC
      simp only [hp, hw]
      cases f with
      | true => simp [hr.major, hr.minor, hr.patch, hr.pre (hf rfl)]
      | false => simp [hr.major, hr.minor, hr.patch]
    unfold parseR
    rw [decide_eq_true hz, ho, hc]
    unfold verC full
    simp only [hp]
    rfl

end Go.Proofs.YtmhjdahmmdfbcaaGreatDoor
namespace Go.Proofs.YtmhjdahmmdfbcaaGreatDoor
open Go.RowKit

theorem cutL_join (c : UInt8) : ∀ (l r : List UInt8), cutL c (l ++ c :: r) = cutL c l ++ cutL c r
  | [], r => by
    have e : cutL c (c :: r) = [] :: cutL c r := by rw [cutL, if_pos rfl]
    show cutL c (c :: r) = _
    rw [e]
    rfl
  | b :: l, r => by
    have ih := cutL_join c l r
    show cutL c (b :: (l ++ c :: r)) = _
    rw [cutL, cutL]
    by_cases hb : b = c
    · rw [if_pos hb, if_pos hb, ih]; rfl
    · rw [if_neg hb, if_neg hb, ih]
      cases hl : cutL c l with
      | nil => exact absurd hl (cutL_ne c l)
      | cons x xs => rfl
theorem list_extract (p : ByteArray) (f : Nat) : (p.extract 0 f).data.toList = p.data.toList.take f := by
  rw [ByteArray.data_extract]
  simp
end Go.Proofs.YtmhjdahmmdfbcaaGreatDoor
namespace Go.Proofs.YtmhjdahmmdfbcaaGreatDoor
open Go.RowKit

theorem cmp_pre (a : List UInt8) {x y : UInt8} {b c : List UInt8} (h : x < y) : Lib.compareBytes (a ++ x :: b) (a ++ y :: c) = -1 := by
  induction a with
  | nil => simp [Lib.compareBytes, h]
  | cons z a ih =>
    show Lib.compareBytes (z :: (a ++ x :: b)) (z :: (a ++ y :: c)) = -1
    rw [Lib.compareBytes, if_neg (by simp), if_neg (by simp)]
    exact ih
theorem num_mk {l : List UInt8} (hd : ∀ c ∈ l, 48 ≤ c.toNat ∧ c.toNat ≤ 57) (h0 : 0 < l.length) (h1 : l.length = 1 ∨ l.getD 0 0 ≠ 48) : numL l = true := by
  unfold numL
  rw [Bool.and_eq_true]
  refine ⟨?_, ?_⟩
  · unfold digL
    rw [Bool.and_eq_true]
    refine ⟨?_, ?_⟩
    · rw [List.all_eq_true]
      intro c hc
      have := hd c hc
      unfold digC
      simp; omega
    · cases l with
      | nil => simp at h0
      | cons c r => rfl
  · rcases h1 with h1 | h1
    · simp [h1]
    · simp only [Bool.or_eq_true]
      exact Or.inr (by simpa using h1)
theorem num_ahead {l : List UInt8} (h : numL l = true) (hne : l ≠ [48]) : l.getD 0 0 ≠ 48 := by
  unfold numL at h
  rw [Bool.and_eq_true, Bool.or_eq_true] at h
  rcases h.2 with h2 | h2
  · intro he
    have hl : l.length = 1 := by simpa using h2
    match l, hl with
    | [c], _ => exact hne (by rw [show c = 48 from he])
  · simpa using h2
end Go.Proofs.YtmhjdahmmdfbcaaGreatDoor
