/-
  Walks of semver: Canonical; the law's awake.
-/
import Derived.Test.YtmhjdahmmdfbcaaGreatDoorSemF
namespace Go.Proofs.YtmhjdahmmdfbcaaGreatDoor
open Go.RowKit
theorem getD_size (l : List ByteArray) (i n : Nat) (h : ∀ x ∈ l, x.size ≤ n) (h1 : 1 ≤ n) : (l.getD i nought).size ≤ n := by
  rw [List.getD_eq_getElem?_getD]
  cases hx : l[i]? with
  | none => exact h1
  | some x => exact h x (List.mem_of_getElem? hx)
theorem ver_small {s : ByteArray} {v : Ver} (h : parseR s = some v) : v.major.size ≤ 200 ∧ v.minor.size ≤ 200 ∧ v.patch.size ≤ 200 ∧ v.pre.size ≤ 200 := by
  have hp := pre_size s
  rw [h] at hp
  unfold parseR at h
  split at h
  · rename_i hc
    simp only [Bool.and_eq_true, decide_eq_true_eq] at hc
    have hn : (cutsOf s).nums.size ≤ 200 := by
      show (strOf (cutR 45 (cutR 43 (vCut s.data.toList).1).1).1).size ≤ 200
      rw [strOf_size]
      have h1 := (cutR_len 45 (cutR 43 (vCut s.data.toList).1).1).1
      have h2 := (cutR_len 43 (vCut s.data.toList).1).1
      have h3 : (vCut s.data.toList).1.length ≤ s.data.toList.length := by
        cases s.data.toList with
        | nil => exact Nat.le_refl _
        | cons c l => simp only [vCut]; split <;> simp
      rw [size_len] at h3
      omega
    have hall : ∀ x ∈ partsB (cutsOf s).nums ++ [nought, nought], x.size ≤ 200 := fun x hx => by
      rcases List.mem_append.1 hx with hx | hx
      · have := parts_size hx; omega
      · simp only [List.mem_cons, List.not_mem_nil, or_false] at hx
        rcases hx with rfl | rfl <;> decide
    have e := Option.some.inj h
    subst e
    exact ⟨getD_size _ 0 200 hall (by decide), getD_size _ 1 200 hall (by decide), getD_size _ 2 200 hall (by decide), hp⟩
  · cases h
def canV (v : Ver) : ByteArray :=
  let t := (⟨#[118]⟩ : ByteArray) ++ v.major ++ ⟨#[46]⟩ ++ v.minor ++ ⟨#[46]⟩ ++ v.patch
  if v.pre.data.toList.isEmpty then t else t ++ (⟨#[45]⟩ ++ v.pre)
def canS (s : ByteArray) : ByteArray := match parseR s with | none => ⟨#[]⟩ | some v => canV v
set_option maxHeartbeats 2000000 in
set_option maxRecDepth 100000 in
theorem canonical_any (s : ByteArray) (w : World) (hs : s.size ≤ 9223372036854775807) : Calls Tryz.prog 17 #[.string s] w fun e w' => e = .returned (.string (canS s)) ∧ Below w.heap.size w w' := by
  have HP := hidM (parse_any s w hs)
  cases hv : parseR s with
  | none =>
    have HC : Hid (canS s = ⟨#[]⟩) := by unfold Hid canS; rw [hv]
    rw [hv] at HP
    clear hv
    unfold noVer at HP
    simp only [Option.getD_none, Option.isSome_none] at HP
    go_enter Tryz.func17, Tryz.ntmps17
    go_wp2_with fail
    refine HP.out.mono ?_
    rintro _ w1 ⟨rfl, hb1⟩
    have HB1 := hidM hb1
    clear hb1
    go_wp2
    go_ret
    exact ⟨by rw [HC.out]; rfl, HB1.out.alloc HB1.out.size _⟩
  | some v =>
    obtain ⟨z1, z2, z3, z4⟩ := ver_small hv
    have HC : Hid (canS s = if v.pre.data.toList.isEmpty then (⟨#[118]⟩ : ByteArray) ++ v.major ++ ⟨#[46]⟩ ++ v.minor ++ ⟨#[46]⟩ ++ v.patch else (⟨#[118]⟩ : ByteArray) ++ v.major ++ ⟨#[46]⟩ ++ v.minor ++ ⟨#[46]⟩ ++ v.patch ++ (⟨#[45]⟩ ++ v.pre)) := by unfold Hid canS; rw [hv]; rfl
    rw [hv] at HP
    clear hv
    simp only [Option.getD_some, Option.isSome_some] at HP
    have he := empty_beq v.pre
    generalize v.major = a at *
    generalize v.minor = b at *
    generalize v.patch = c at *
    generalize v.pre = d at *
    generalize v.build = e at *
    generalize (v.short : Int) = n at *
    cases h0 : d.data.toList.isEmpty with
    | true =>
      rw [h0] at he HC
      clear h0
      go_enter Tryz.func17, Tryz.ntmps17
      go_wp2_with fail
      refine HP.out.mono ?_
      rintro _ w1 ⟨rfl, hb1⟩
      have HB1 := hidM hb1
      clear hb1
      go_wp2
      go_ret
      exact ⟨by rw [HC.out]; rfl, HB1.out.alloc HB1.out.size _⟩
    | false =>
      rw [h0] at he HC
      clear h0
      go_enter Tryz.func17, Tryz.ntmps17
      go_wp2_with fail
      refine HP.out.mono ?_
      rintro _ w1 ⟨rfl, hb1⟩
      have HB1 := hidM hb1
      clear hb1
      go_wp2
      go_ret
      exact ⟨by rw [HC.out]; rfl, HB1.out.alloc HB1.out.size _⟩
def pre2 (a b : ByteArray) : Int := if a.data.toList.isEmpty then (if b.data.toList.isEmpty then 0 else 1) else if b.data.toList.isEmpty then -1 else lexC (partsB a) (partsB b)
def cmp2 (a b : ByteArray) : Int :=
  let x := (parseR a).getD noVer
  let y := (parseR b).getD noVer
  orL [numC x.major y.major, numC x.minor y.minor, numC x.patch y.patch, pre2 x.pre y.pre]
theorem cmp2_eq (a b : ByteArray) : cmpS a b = cmp2 a b := by
  unfold cmpS cmpV cmp2
  rw [preC_eq]
  rfl
def sB11 : ByteArray := ⟨#[118, 49, 46, 48, 46, 48, 45, 98, 101, 116, 97, 46, 49, 49]⟩
def sB2 : ByteArray := ⟨#[118, 49, 46, 48, 46, 48, 45, 98, 101, 116, 97, 46, 50]⟩
def sAB : ByteArray := ⟨#[118, 49, 46, 50, 46, 51, 45, 97, 43, 98]⟩
def s12x : ByteArray := ⟨#[118, 49, 46, 50, 43, 120]⟩
def sv1 : ByteArray := ⟨#[118, 49]⟩
def sv1x : ByteArray := ⟨#[118, 49, 46, 48, 46, 48, 43, 120]⟩
theorem aw1 : cmp2 sB11 sB2 = 1 := by decide +kernel
theorem aw2 : (canS sAB).data.toList = [118, 49, 46, 50, 46, 51, 45, 97] := by decide +kernel
theorem aw3 : (canS s12x).data.toList = [] := by decide +kernel
theorem aw4 : cmp2 sv1 sv1x = 0 := by decide +kernel
end Go.Proofs.YtmhjdahmmdfbcaaGreatDoor
