/-
  Walks of the document's semver: decimals; the order of their numbers.
-/
import Derived.Test.YtdbkmcjdkiljaaaDoorRefF
import Derived.Test.YtdbkmcjdkiljaaaDoorSorA
import Derived.Test.YtdbkmcjdkiljaaaDoorSemP
import Derived.Lib.ItoaLen
import Derived.Lib.SmallJoins
import Derived.Lib.ItoaMem
import Derived.Lib.ItoaLen
import Derived.Lib.ItoaNum
namespace Go.Proofs.YtdbkmcjdkiljaaaDoor
open Go.RowKit

def dig (d : Nat) : UInt8 := UInt8.ofNat (48 + d)
theorem dd_small {u : Nat} (h : u < 10) : Lib.decDigits u = [dig u] := Lib.decDigits_one h
theorem dd_big {u : Nat} (h : 10 ≤ u) : Lib.decDigits u = Lib.decDigits (u / 10) ++ [dig (u % 10)] := by
  rw [Lib.decDigits, dif_neg (by omega)]; rfl
def digS10 : ByteArray := { data := #[48, 49, 50, 51, 52, 53, 54, 55, 56, 57] }
theorem dig10 : ∀ n, n < 10 → digS10.extract n (n + 1) = ⟨#[dig n]⟩ := by decide
theorem app_one (P : List UInt8) (a : UInt8) : (⟨P.toArray⟩ : ByteArray) ++ ⟨#[a]⟩ = ⟨(P ++ [a]).toArray⟩ := by
  apply ByteArray.ext
  simp [ByteArray.data_append]
set_option maxHeartbeats 1600000 in
set_option maxRecDepth 100000 in
theorem digits_pos (k : Nat) : ∀ (n : Nat) (w : World), n < k → n ≤ 9223372036854775807 →
    Calls Tryd.prog 37 #[.int .i64 (n : Int)] w fun e w' => e = .returned (.string ⟨(Lib.decDigits n).toArray⟩) ∧ ∃ m, w' = w.drewN m := by
  induction k with
  | zero => intro n w h; omega
  | succ k ih =>
    intro n w hk hn
    have g1 : ¬ (n : Int) < 0 := by omega
    by_cases h10 : n < 10
    · have g2 : (n : Int) < 10 := by omega
      have hcut := dig10 n h10
      have hdd := hidM (dd_small h10)
      unfold digS10 at hcut
      generalize dig n = d at *
      go_enter Tryd.func37, Tryd.ntmps37
      go_wp2_with fail
      go_ret
      exact ⟨by rw [hdd.out]; rfl, 0, rfl⟩
    · have g2 : ¬ (n : Int) < 10 := by omega
      obtain ⟨q, hq⟩ : ∃ q, q = n / 10 := ⟨_, rfl⟩
      obtain ⟨r, hr⟩ : ∃ r, r = n % 10 := ⟨_, rfl⟩
      have hr10 : r < 10 := by omega
      have r1 : (n : Int) / 10 = (q : Int) := by omega
      have r2 : (n : Int) % 10 = (r : Int) := by omega
      have hcut := dig10 r hr10
      unfold digS10 at hcut
      have hdd := hidM (dd_big (u := n) (by omega))
      rw [← hq, ← hr] at hdd
      have IH : Hid (∀ w, Calls Tryd.prog 37 #[.int .i64 (q : Int)] w fun e w' => e = .returned (.string ⟨(Lib.decDigits q).toArray⟩) ∧ ∃ m, w' = w.drewN m) := fun w => ih q w (by omega) (by omega)
      clear ih hq hr
      have hlen : (⟨(Lib.decDigits q).toArray⟩ : ByteArray).size ≤ 100 := by
        show (Lib.decDigits q).toArray.size ≤ 100
        rw [List.size_toArray, Lib.decDigits_length]
        have := Lib.nDigits_le20 q (by omega)
        omega
      generalize dig r = d at *
      have HAP := hidM (app_one (Lib.decDigits q) d)
      generalize (⟨(Lib.decDigits q).toArray⟩ : ByteArray) = Q at *
      go_enter Tryd.func37, Tryd.ntmps37
      go_wp2_with fail
      go_quiet ((go_at_call 37; with_reducible exact Calls.quiet_of (IH.out _)))
      go_wp2
      go_ret
      exact ⟨by rw [hdd.out, ← HAP.out]; rfl, nq, rfl⟩
def decB (n : Nat) : ByteArray := ⟨(Lib.decDigits n).toArray⟩
theorem dec_order : ((List.range 102).all fun n => (List.range 102).all fun m => numC (decB n) (decB m) == cmpI (n : Int) (m : Int)) = true := by decide +kernel
theorem dec_num : ((List.range 102).all fun n => numL (decB n).data.toList) = true := by decide +kernel
theorem dec_size : ((List.range 102).all fun n => decide ((decB n).size ≤ 200)) = true := by decide +kernel
end Go.Proofs.YtdbkmcjdkiljaaaDoor
