/-
  Walks of the document's constants of SHA-256: Roots, primes, Table.
-/
import Derived.Test.YtbodjopdhciaeabDoorRefE
namespace Go.Proofs.YtbodjopdhciaeabDoor
open Go.RowKit

/-- The root, bit by bit from the highest. -/
def rootI (u : Int → Bool) : Nat → Int → Int
  | 0, x => x
  | k + 1, x => rootI u k (if u (IntKind.u64.wrap (x + IntKind.u64.wrap (2 ^ k))) then IntKind.u64.wrap (x + IntKind.u64.wrap (2 ^ k)) else x)

set_option maxHeartbeats 1600000 in
theorem roots_any (n : Int) (p : Int) (u : Int → Bool) (w : World) (hu : ∀ (y : Int) (v : World), Calls Tryd.prog 49 #[.int .i64 n, .int .u64 y, .int .u64 p] v fun e w' => e = .returned (.bool (u y)) ∧ w' = v) :
    Calls Tryd.prog 36 #[.int .i64 n, .int .u64 p] w fun e w' => e = .returned (.int .u32 (IntKind.u32.wrap (rootI u 41 0))) ∧ ∃ m, w' = w.drewN m := by
  have HU := hidM hu
  obtain ⟨R, hR⟩ : ∃ R, R = rootI u 41 0 := ⟨_, rfl⟩
  rw [← hR]
  have HR := hidM hR
  clear hu hR
  go_enter Tryd.func36, Tryd.ntmps36
  go_wp2
  go_loopw [5, 6, 7] (fun vx vb _ wr => ∃ (k : Nat) (x b : Int) (m : Nat), k ≤ 41 ∧ b = (k : Int) - 1 ∧ vx = .int .u64 x ∧ vb = .int .i64 b ∧ R = rootI u k x ∧ wr = w.drewN m) (fun _ b _ _ => (intOf b + 1).toNat)
  case atStart => exact ⟨41, 0, 40, 0, by omega, rfl, rfl, rfl, HR.out, rfl⟩
  case round =>
    obtain ⟨k, x, b, m, hk, hb, rfl, rfl, hr, rfl⟩ := hrel
    have HX := hidM hr
    clear hr HR
    cases k with
    | zero =>
      obtain rfl : b = -1 := by omega
      have hx : R = x := HX.out
      clear HX hb HU
      subst hx
      go_wp2
      go_ret
      exact ⟨rfl, _, rfl⟩
    | succ j =>
      obtain rfl : b = (j : Int) := by omega
      obtain ⟨y, hy⟩ : ∃ y, y = IntKind.u64.wrap (x + IntKind.u64.wrap (2 ^ j)) := ⟨_, rfl⟩
      have HX2 : Hid (R = rootI u j (if u y then y else x)) := by unfold Hid; rw [HX.out, rootI, ← hy]
      have q0 : (0 : Int) ≤ (j : Int) := by omega
      clear hb HX
      go_wp2_with fail
      rw [← hy]
      refine (HU.out y _).mono ?_
      rintro _ w1 ⟨rfl, rfl⟩
      clear hy
      have HJ : Hid (j ≤ 41) := Nat.le_of_succ_le hk
      obtain ⟨b', hb'⟩ : ∃ b' : Int, b' = (j : Int) - 1 := ⟨_, rfl⟩
      have wj : IntKind.i64.wrap ((j : Int) - 1) = b' := by rw [IntKind.wrap_i64]; omega
      have HB' := hidM hb'
      clear hk hb'
      cases huy : u y
      · rw [huy] at HX2
        go_wp2
        go_roundw
        case rel => exact ⟨j, x, b', _, HJ.out, HB'.out, rfl, rfl, HX2.out, rfl⟩
        case measure => have := HJ.out; have := HB'.out; simp [intOf]; omega
      · rw [huy] at HX2
        go_wp2
        go_roundw
        case rel => exact ⟨j, y, b', _, HJ.out, HB'.out, rfl, rfl, HX2.out, rfl⟩
        case measure => have := HJ.out; have := HB'.out; simp [intOf]; omega

set_option maxRecDepth 100000 in
theorem root2_is : ([2, 3, 5, 7, 11, 13, 17, 19] : List Int).map (fun p => IntKind.u32.wrap (rootI (fun y => under2 y p) 41 0)) = h2.map Int.ofNat := by decide +kernel

/-- The primes, number by number. -/
def sieve : Nat → List Nat
  | 0 => []
  | j + 1 => if (sieve j).all (fun q => (j + 2) % q != 0) then sieve j ++ [j + 2] else sieve j
def sieveT : Nat → Nat → List Nat → List Nat
  | 0, _, l => l
  | f + 1, p, l => sieveT f (p + 1) (if l.all (fun q => p % q != 0) then l ++ [p] else l)
theorem sieveT_is (f : Nat) : ∀ j, sieveT f (j + 2) (sieve j) = sieve (j + f) := by
  induction f with
  | zero => intro j; rfl
  | succ f ih =>
    intro j
    rw [sieveT]
    have := ih (j + 1)
    rw [sieve] at this
    rw [show j + 2 + 1 = j + 1 + 2 from rfl, this]
    congr 1; omega
set_option maxRecDepth 100000 in
theorem root3_is : (sieveT 310 2 []).map (fun (p : Nat) => IntKind.u32.wrap (rootI (fun y => under3 y (p : Int)) 41 0)) = kL2.map Int.ofNat := by decide +kernel
set_option maxRecDepth 100000 in
theorem sieve8_lens : ∀ j, j < 18 → (sieveT j 2 []).length < 8 := by decide +kernel
set_option maxRecDepth 100000 in
theorem sieve64_lens : ∀ j, j < 310 → (sieveT j 2 []).length < 64 := by decide +kernel
theorem sieve8 : sieveT 18 2 [] = [2, 3, 5, 7, 11, 13, 17, 19] := by decide +kernel
theorem sieve64 : (sieveT 310 2 []).length = 64 := by decide +kernel
end Go.Proofs.YtbodjopdhciaeabDoor
