/-
  Walks of pseudo: rev, written.
-/
import Derived.Test.YtmhjdahmmdfbcaaGreatDoorSemP
import Derived.Test.YtmhjdahmmdfbcaaGreatDoorHexP
import Derived.Test.YtmhjdahmmdfbcaaGreatDoorShelP
namespace Go.Proofs.YtmhjdahmmdfbcaaGreatDoor
open Go.RowKit

def revB (s : ByteArray) : Bool := decide (s.size = 12) && hexed s.data.toList

theorem rev_any (s : ByteArray) (w : World) : Calls Tryz.prog 25 #[.string s] w fun e w' => e = .returned (.bool (revB s)) ∧ Below w.heap.size w w' := by
  by_cases h : s.size = 12
  · have b1 : ((s.size : Int) != 12) = false := by rw [h]; decide
    cases hh : hexed s.data.toList with
    | true =>
      have HP := hidM (unhex_yes s w (by omega) hh)
      have HR : Hid (revB s = true) := by unfold Hid revB; rw [hh, decide_eq_true h]; rfl
      have HH := hidM h
      clear h hh
      generalize (⟨(unhexL s.data.toList).toArray⟩ : ByteArray) = u at *
      go_enter Tryz.func25, Tryz.ntmps25
      go_wp2_with fail
      refine HP.out.mono ?_
      rintro _ w1 ⟨rfl, hb1⟩
      go_wp2
      go_ret
      exact ⟨by rw [HR.out]; rfl, hb1⟩
    | false =>
      have HP := hidM (unhex_no s w (by omega) hh)
      have HR : Hid (revB s = false) := by unfold Hid revB; rw [hh, decide_eq_true h]; rfl
      have HH := hidM h
      clear h hh
      go_enter Tryz.func25, Tryz.ntmps25
      go_wp2_with fail
      refine HP.out.mono ?_
      rintro _ w1 ⟨rfl, hb1⟩
      go_wp2
      go_ret
      exact ⟨by rw [HR.out]; rfl, hb1⟩
  · have b1 : ((s.size : Int) != 12) = true := by simp only [bne_iff_ne, ne_eq]; omega
    have HR : Hid (revB s = false) := by unfold Hid revB; rw [decide_eq_false h]; rfl
    clear h
    go_enter Tryz.func25, Tryz.ntmps25
    go_wp2
    go_ret
    exact ⟨by rw [HR.out]; rfl, Below.refl _ _⟩

def wriV (v : Ver) : ByteArray := if v.build.data.toList.isEmpty then canV v else canV v ++ (⟨#[43]⟩ ++ v.build)

def verA (v : Ver) : Value := .agg #[.string v.major, .string v.minor, .string v.patch, .string v.pre, .string v.build, .int .i64 (v.short : Int)]

theorem written_any (v : Ver) (w : World) (z1 : v.major.size ≤ 1000) (z2 : v.minor.size ≤ 1000) (z3 : v.patch.size ≤ 1000) (z4 : v.pre.size ≤ 1000) (z5 : v.build.size ≤ 1000) :
    Calls Tryz.prog 28 #[verA v] w fun e w' => e = .returned (.string (wriV v)) ∧ Below w.heap.size w w' := by
  have HC : Hid (wriV v = if v.build.data.toList.isEmpty then (if v.pre.data.toList.isEmpty then (⟨#[118]⟩ : ByteArray) ++ v.major ++ ⟨#[46]⟩ ++ v.minor ++ ⟨#[46]⟩ ++ v.patch else (⟨#[118]⟩ : ByteArray) ++ v.major ++ ⟨#[46]⟩ ++ v.minor ++ ⟨#[46]⟩ ++ v.patch ++ (⟨#[45]⟩ ++ v.pre)) else (if v.pre.data.toList.isEmpty then (⟨#[118]⟩ : ByteArray) ++ v.major ++ ⟨#[46]⟩ ++ v.minor ++ ⟨#[46]⟩ ++ v.patch else (⟨#[118]⟩ : ByteArray) ++ v.major ++ ⟨#[46]⟩ ++ v.minor ++ ⟨#[46]⟩ ++ v.patch ++ (⟨#[45]⟩ ++ v.pre)) ++ (⟨#[43]⟩ ++ v.build)) := rfl
  have he := empty_beq v.pre
  have hf := empty_beq v.build
  unfold verA
  generalize wriV v = R at *
  generalize v.major = a at *
  generalize v.minor = b at *
  generalize v.patch = c at *
  generalize v.pre = d at *
  generalize v.build = e at *
  generalize (v.short : Int) = n at *
  cases h0 : d.data.toList.isEmpty with
  | true =>
    cases h1 : e.data.toList.isEmpty with
    | true =>
      rw [h0] at he HC
      rw [h1] at hf HC
      clear h0 h1
      go_enter Tryz.func28, Tryz.ntmps28
      go_wp2
      go_ret
      exact ⟨by rw [HC.out]; rfl, (Below.refl _ _).alloc (Nat.le_refl _) _⟩
    | false =>
      rw [h0] at he HC
      rw [h1] at hf HC
      clear h0 h1
      go_enter Tryz.func28, Tryz.ntmps28
      go_wp2
      go_ret
      exact ⟨by rw [HC.out]; rfl, (Below.refl _ _).alloc (Nat.le_refl _) _⟩
  | false =>
    cases h1 : e.data.toList.isEmpty with
    | true =>
      rw [h0] at he HC
      rw [h1] at hf HC
      clear h0 h1
      go_enter Tryz.func28, Tryz.ntmps28
      go_wp2
      go_ret
      exact ⟨by rw [HC.out]; rfl, (Below.refl _ _).alloc (Nat.le_refl _) _⟩
    | false =>
      rw [h0] at he HC
      rw [h1] at hf HC
      clear h0 h1
      go_enter Tryz.func28, Tryz.ntmps28
      go_wp2
      go_ret
      exact ⟨by rw [HC.out]; rfl, (Below.refl _ _).alloc (Nat.le_refl _) _⟩
end Go.Proofs.YtmhjdahmmdfbcaaGreatDoor
