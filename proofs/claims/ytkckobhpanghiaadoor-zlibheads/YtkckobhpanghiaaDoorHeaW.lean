/-
  The law ZlibHeads, walked.
-/
import Derived.Test.YtkckobhpanghiaaDoorStoB
namespace Go.Proofs.YtkckobhpanghiaaDoor
open Go.RowKit

/-- how many of the first k second bytes make a head -/
def cntH (a : Nat) : Nat → Nat
  | 0 => 0
  | k + 1 => cntH a k + if headB a k = true then 1 else 0
theorem cntH_le (a k : Nat) : cntH a k ≤ k := by
  induction k with
  | zero => exact Nat.le_refl _
  | succ k ih => rw [cntH]; split <;> omega
theorem cntH_all : ∀ a : Fin 256, cntH a.val 256 ≤ 5 ∧ ((a.val % 16 = 8 ∧ a.val / 16 ≤ 7) ↔ 0 < cntH a.val 256) := by decide +kernel
theorem and_i32 (a : Nat) (h : a < 256) : bits .and .i64 (a : Int) 32 = ((32 * (a / 32 % 2) : Nat) : Int) := by
  have : ∀ y : Fin 256, bits .and .i64 ((y.val : Nat) : Int) 32 = ((32 * (y.val / 32 % 2) : Nat) : Int) := by decide +kernel
  exact this ⟨a, h⟩
set_option maxHeartbeats 2000000 in
set_option maxRecDepth 100000 in
theorem heads_walk (a : Nat) (w : World) (ha : a < 256) (hG : GOk w) :
    Calls Tryd.prog 12 #[.int .u8 (a : Int)] w fun e w' => e = .returned (.bool true) ∧ Below w.heap.size w w' := by
  have HG := hidM hG
  clear hG
  obtain ⟨x, hx⟩ : ∃ x, x = a % 16 := ⟨_, rfl⟩
  obtain ⟨y, hy⟩ : ∃ y, y = a / 16 := ⟨_, rfl⟩
  have e1 := and_15 a ha
  rw [← hx] at e1
  have e3 : (a : Int) / 16 = (y : Int) := by omega
  have y16 : y < 16 := by omega
  have HHD : Hid (∀ b, headB a b = true → x = 8 ∧ y ≤ 7 ∧ b / 32 % 2 = 0) := fun b h => by
    have := of_decide_eq_true h
    rw [hx, hy]
    exact ⟨this.1, this.2.1, this.2.2.2⟩
  have HALL : Hid (cntH a 256 ≤ 5 ∧ ((x = 8 ∧ y ≤ 7) ↔ 0 < cntH a 256)) := by
    unfold Hid
    rw [hx, hy]
    exact cntH_all ⟨a, ha⟩
  clear hx hy
  go_enter Tryd.func12, Tryd.ntmps12
  go_wp2
  go_loopw [3, 4] (fun nv bv wr => ∃ k : Nat, k ≤ 256 ∧ bv = .int .i64 k ∧ nv = .int .i64 (cntH a k : Int) ∧ wr = w) (fun _ i _ => 256 - (intOf i).toNat)
  case atStart => exact ⟨0, Nat.zero_le _, rfl, rfl, rfl⟩
  case round =>
    obtain ⟨k, hk, rfl, rfl, hwr⟩ := hrel
    rw [hwr]
    clear hwr
    have hck := cntH_le a k
    by_cases hlt : k < 256
    · have kk : (k : Int) < 256 := by omega
      have ew : IntKind.u8.wrap (k : Int) = (k : Int) := by rw [IntKind.wrap_u8]; omega
      have HNX : Hid (cntH a (k + 1) = cntH a k + if headB a k = true then 1 else 0) := rfl
      have HH := hidM (head_any a k w ha hlt)
      have e5 := and_i32 k hlt
      cases hh : headB a k with
      | true =>
        obtain ⟨q1, q2, q3⟩ := HHD.out k hh
        rw [hh] at HH
        rw [hh, if_pos rfl] at HNX
        rw [q3, show ((32 * 0 : Nat) : Int) = 0 by decide] at e5
        subst q1
        have q4 : ¬ (7 : Int) < (y : Int) := by omega
        clear hh
        generalize cntH a k = c at *
        go_wp2_with fail
        refine HH.out.mono ?_
        rintro _ w9 ⟨rfl, h9⟩
        rw [h9]
        clear h9 w9
        go_wp2
        go_roundw
        case rel => exact ⟨k + 1, by omega, by go_num, by rw [HNX.out]; go_num, trivial⟩
        case measure => (show 256 - ((k : Int) + 1).toNat < 256 - ((k : Int)).toNat); omega
      | false =>
        rw [hh] at HH
        rw [hh, if_neg (by decide), Nat.add_zero] at HNX
        clear hh
        generalize cntH a k = c at *
        go_wp2_with fail
        refine HH.out.mono ?_
        rintro _ w9 ⟨rfl, h9⟩
        rw [h9]
        clear h9 w9
        go_wp2
        go_roundw
        case rel => exact ⟨k + 1, by omega, by go_num, by rw [HNX.out]; rfl, trivial⟩
        case measure => (show 256 - ((k : Int) + 1).toNat < 256 - ((k : Int)).toNat); omega
    · obtain rfl : k = 256 := by omega
      have hall := HALL.out
      generalize cntH a 256 = c at *
      have c5 : (c : Int) ≤ 5 := by omega
      have HAW := hidM (awake6_any w HG.out)
      by_cases q1 : x = 8
      · subst q1
        by_cases q2 : y ≤ 7
        · have q3 : (y : Int) ≤ 7 := by omega
          have q4 : (0 : Int) < (c : Int) := by have := hall.2.1 ⟨rfl, q2⟩; omega
          clear hall
          go_wp2_with fail
          refine HAW.out.mono ?_
          rintro _ w1 ⟨rfl, hb⟩
          have HB := hidM hb
          clear hb HAW
          go_wp2
          go_ret
          exact ⟨rfl, HB.out⟩
        · have q3 : ¬ (y : Int) ≤ 7 := by omega
          have q4 : ¬ (0 : Int) < (c : Int) := fun h => q2 (hall.2.2 (by omega)).2
          clear hall
          go_wp2_with fail
          refine HAW.out.mono ?_
          rintro _ w1 ⟨rfl, hb⟩
          have HB := hidM hb
          clear hb HAW
          go_wp2
          go_ret
          exact ⟨rfl, HB.out⟩
      · have q3 : ((x : Int) == 8) = false := by simp; omega
        have q4 : ¬ (0 : Int) < (c : Int) := fun h => q1 (hall.2.2 (by omega)).1
        clear hall
        go_wp2_with fail
        refine HAW.out.mono ?_
        rintro _ w1 ⟨rfl, hb⟩
        have HB := hidM hb
        clear hb HAW
        go_wp2
        go_ret
        exact ⟨rfl, HB.out⟩
theorem heads_call (n : Int) (w : World) (hn : (Lit.int .u8 n).wf = true) (hG : GOk w) :
    Calls Tryd.prog 12 #[.int .u8 n] w fun e w' => e = .returned (.bool true) ∧ Below w.heap.size w w' := by
  have h : 0 ≤ n ∧ n < 256 := by
    have h2 : (decide (IntKind.u8.min ≤ n) && decide (n ≤ IntKind.u8.max)) = true := hn
    rw [Bool.and_eq_true, decide_eq_true_eq, decide_eq_true_eq] at h2
    have h3 : IntKind.u8.min = 0 := by decide
    have h4 : IntKind.u8.max = 255 := by decide
    rw [h3, h4] at h2
    omega
  obtain ⟨a, rfl⟩ : ∃ a : Nat, n = a := ⟨n.toNat, by omega⟩
  exact heads_walk a w (by omega) hG
end Go.Proofs.YtkckobhpanghiaaDoor
