/-
  Walks of inflate: lengths and distances.
-/
import Derived.Test.YtkckobhpanghiaaDoorInfS
namespace Go.Proofs.YtkckobhpanghiaaDoor
open Go.RowKit

set_option maxHeartbeats 4000000 in
set_option maxRecDepth 100000 in
theorem spread4 (w : World) : ∀ k : Nat, k < 28 → Calls Tryd.prog 111 #[.int .i64 (k : Int), .int .i64 4] w fun e w' => e = .returned (.tuple #[.int .i64 ((spreadN k 4).1 : Int), .int .i64 ((spreadN k 4).2 : Int)]) ∧ w' = w
  | 0, _ => by
    show Calls Tryd.prog 111 #[.int .i64 0, .int .i64 4] w fun e w' => e = .returned (.tuple #[.int .i64 0, .int .i64 0]) ∧ w' = w
    go_enter Tryd.func111, Tryd.ntmps111
    go_wp2
    go_ret2
    exact ⟨rfl, rfl⟩
  | 1, _ => by
    show Calls Tryd.prog 111 #[.int .i64 1, .int .i64 4] w fun e w' => e = .returned (.tuple #[.int .i64 1, .int .i64 0]) ∧ w' = w
    go_enter Tryd.func111, Tryd.ntmps111
    go_wp2
    go_ret2
    exact ⟨rfl, rfl⟩
  | 2, _ => by
    show Calls Tryd.prog 111 #[.int .i64 2, .int .i64 4] w fun e w' => e = .returned (.tuple #[.int .i64 2, .int .i64 0]) ∧ w' = w
    go_enter Tryd.func111, Tryd.ntmps111
    go_wp2
    go_ret2
    exact ⟨rfl, rfl⟩
  | 3, _ => by
    show Calls Tryd.prog 111 #[.int .i64 3, .int .i64 4] w fun e w' => e = .returned (.tuple #[.int .i64 3, .int .i64 0]) ∧ w' = w
    go_enter Tryd.func111, Tryd.ntmps111
    go_wp2
    go_ret2
    exact ⟨rfl, rfl⟩
  | 4, _ => by
    show Calls Tryd.prog 111 #[.int .i64 4, .int .i64 4] w fun e w' => e = .returned (.tuple #[.int .i64 4, .int .i64 0]) ∧ w' = w
    go_enter Tryd.func111, Tryd.ntmps111
    go_wp2
    go_ret2
    exact ⟨rfl, rfl⟩
  | 5, _ => by
    show Calls Tryd.prog 111 #[.int .i64 5, .int .i64 4] w fun e w' => e = .returned (.tuple #[.int .i64 5, .int .i64 0]) ∧ w' = w
    go_enter Tryd.func111, Tryd.ntmps111
    go_wp2
    go_ret2
    exact ⟨rfl, rfl⟩
  | 6, _ => by
    show Calls Tryd.prog 111 #[.int .i64 6, .int .i64 4] w fun e w' => e = .returned (.tuple #[.int .i64 6, .int .i64 0]) ∧ w' = w
    go_enter Tryd.func111, Tryd.ntmps111
    go_wp2
    go_ret2
    exact ⟨rfl, rfl⟩
  | 7, _ => by
    show Calls Tryd.prog 111 #[.int .i64 7, .int .i64 4] w fun e w' => e = .returned (.tuple #[.int .i64 7, .int .i64 0]) ∧ w' = w
    go_enter Tryd.func111, Tryd.ntmps111
    go_wp2
    go_ret2
    exact ⟨rfl, rfl⟩
  | 8, _ => by
    show Calls Tryd.prog 111 #[.int .i64 8, .int .i64 4] w fun e w' => e = .returned (.tuple #[.int .i64 8, .int .i64 1]) ∧ w' = w
    go_enter Tryd.func111, Tryd.ntmps111
    go_wp2
    go_ret2
    exact ⟨rfl, rfl⟩
  | 9, _ => by
    show Calls Tryd.prog 111 #[.int .i64 9, .int .i64 4] w fun e w' => e = .returned (.tuple #[.int .i64 10, .int .i64 1]) ∧ w' = w
    go_enter Tryd.func111, Tryd.ntmps111
    go_wp2
    go_ret2
    exact ⟨rfl, rfl⟩
  | 10, _ => by
    show Calls Tryd.prog 111 #[.int .i64 10, .int .i64 4] w fun e w' => e = .returned (.tuple #[.int .i64 12, .int .i64 1]) ∧ w' = w
    go_enter Tryd.func111, Tryd.ntmps111
    go_wp2
    go_ret2
    exact ⟨rfl, rfl⟩
  | 11, _ => by
    show Calls Tryd.prog 111 #[.int .i64 11, .int .i64 4] w fun e w' => e = .returned (.tuple #[.int .i64 14, .int .i64 1]) ∧ w' = w
    go_enter Tryd.func111, Tryd.ntmps111
    go_wp2
    go_ret2
    exact ⟨rfl, rfl⟩
  | 12, _ => by
    show Calls Tryd.prog 111 #[.int .i64 12, .int .i64 4] w fun e w' => e = .returned (.tuple #[.int .i64 16, .int .i64 2]) ∧ w' = w
    go_enter Tryd.func111, Tryd.ntmps111
    go_wp2
    go_ret2
    exact ⟨rfl, rfl⟩
  | 13, _ => by
    show Calls Tryd.prog 111 #[.int .i64 13, .int .i64 4] w fun e w' => e = .returned (.tuple #[.int .i64 20, .int .i64 2]) ∧ w' = w
    go_enter Tryd.func111, Tryd.ntmps111
    go_wp2
    go_ret2
    exact ⟨rfl, rfl⟩
  | 14, _ => by
    show Calls Tryd.prog 111 #[.int .i64 14, .int .i64 4] w fun e w' => e = .returned (.tuple #[.int .i64 24, .int .i64 2]) ∧ w' = w
    go_enter Tryd.func111, Tryd.ntmps111
    go_wp2
    go_ret2
    exact ⟨rfl, rfl⟩
  | 15, _ => by
    show Calls Tryd.prog 111 #[.int .i64 15, .int .i64 4] w fun e w' => e = .returned (.tuple #[.int .i64 28, .int .i64 2]) ∧ w' = w
    go_enter Tryd.func111, Tryd.ntmps111
    go_wp2
    go_ret2
    exact ⟨rfl, rfl⟩
  | 16, _ => by
    show Calls Tryd.prog 111 #[.int .i64 16, .int .i64 4] w fun e w' => e = .returned (.tuple #[.int .i64 32, .int .i64 3]) ∧ w' = w
    go_enter Tryd.func111, Tryd.ntmps111
    go_wp2
    go_ret2
    exact ⟨rfl, rfl⟩
  | 17, _ => by
    show Calls Tryd.prog 111 #[.int .i64 17, .int .i64 4] w fun e w' => e = .returned (.tuple #[.int .i64 40, .int .i64 3]) ∧ w' = w
    go_enter Tryd.func111, Tryd.ntmps111
    go_wp2
    go_ret2
    exact ⟨rfl, rfl⟩
  | 18, _ => by
    show Calls Tryd.prog 111 #[.int .i64 18, .int .i64 4] w fun e w' => e = .returned (.tuple #[.int .i64 48, .int .i64 3]) ∧ w' = w
    go_enter Tryd.func111, Tryd.ntmps111
    go_wp2
    go_ret2
    exact ⟨rfl, rfl⟩
  | 19, _ => by
    show Calls Tryd.prog 111 #[.int .i64 19, .int .i64 4] w fun e w' => e = .returned (.tuple #[.int .i64 56, .int .i64 3]) ∧ w' = w
    go_enter Tryd.func111, Tryd.ntmps111
    go_wp2
    go_ret2
    exact ⟨rfl, rfl⟩
  | 20, _ => by
    show Calls Tryd.prog 111 #[.int .i64 20, .int .i64 4] w fun e w' => e = .returned (.tuple #[.int .i64 64, .int .i64 4]) ∧ w' = w
    go_enter Tryd.func111, Tryd.ntmps111
    go_wp2
    go_ret2
    exact ⟨rfl, rfl⟩
  | 21, _ => by
    show Calls Tryd.prog 111 #[.int .i64 21, .int .i64 4] w fun e w' => e = .returned (.tuple #[.int .i64 80, .int .i64 4]) ∧ w' = w
    go_enter Tryd.func111, Tryd.ntmps111
    go_wp2
    go_ret2
    exact ⟨rfl, rfl⟩
  | 22, _ => by
    show Calls Tryd.prog 111 #[.int .i64 22, .int .i64 4] w fun e w' => e = .returned (.tuple #[.int .i64 96, .int .i64 4]) ∧ w' = w
    go_enter Tryd.func111, Tryd.ntmps111
    go_wp2
    go_ret2
    exact ⟨rfl, rfl⟩
  | 23, _ => by
    show Calls Tryd.prog 111 #[.int .i64 23, .int .i64 4] w fun e w' => e = .returned (.tuple #[.int .i64 112, .int .i64 4]) ∧ w' = w
    go_enter Tryd.func111, Tryd.ntmps111
    go_wp2
    go_ret2
    exact ⟨rfl, rfl⟩
  | 24, _ => by
    show Calls Tryd.prog 111 #[.int .i64 24, .int .i64 4] w fun e w' => e = .returned (.tuple #[.int .i64 128, .int .i64 5]) ∧ w' = w
    go_enter Tryd.func111, Tryd.ntmps111
    go_wp2
    go_ret2
    exact ⟨rfl, rfl⟩
  | 25, _ => by
    show Calls Tryd.prog 111 #[.int .i64 25, .int .i64 4] w fun e w' => e = .returned (.tuple #[.int .i64 160, .int .i64 5]) ∧ w' = w
    go_enter Tryd.func111, Tryd.ntmps111
    go_wp2
    go_ret2
    exact ⟨rfl, rfl⟩
  | 26, _ => by
    show Calls Tryd.prog 111 #[.int .i64 26, .int .i64 4] w fun e w' => e = .returned (.tuple #[.int .i64 192, .int .i64 5]) ∧ w' = w
    go_enter Tryd.func111, Tryd.ntmps111
    go_wp2
    go_ret2
    exact ⟨rfl, rfl⟩
  | 27, _ => by
    show Calls Tryd.prog 111 #[.int .i64 27, .int .i64 4] w fun e w' => e = .returned (.tuple #[.int .i64 224, .int .i64 5]) ∧ w' = w
    go_enter Tryd.func111, Tryd.ntmps111
    go_wp2
    go_ret2
    exact ⟨rfl, rfl⟩
  | k + 28, h => absurd h (by omega)
set_option maxHeartbeats 4000000 in
set_option maxRecDepth 100000 in
theorem spread2 (w : World) : ∀ k : Nat, k < 30 → Calls Tryd.prog 111 #[.int .i64 (k : Int), .int .i64 2] w fun e w' => e = .returned (.tuple #[.int .i64 ((spreadN k 2).1 : Int), .int .i64 ((spreadN k 2).2 : Int)]) ∧ w' = w
  | 0, _ => by
    show Calls Tryd.prog 111 #[.int .i64 0, .int .i64 2] w fun e w' => e = .returned (.tuple #[.int .i64 0, .int .i64 0]) ∧ w' = w
    go_enter Tryd.func111, Tryd.ntmps111
    go_wp2
    go_ret2
    exact ⟨rfl, rfl⟩
  | 1, _ => by
    show Calls Tryd.prog 111 #[.int .i64 1, .int .i64 2] w fun e w' => e = .returned (.tuple #[.int .i64 1, .int .i64 0]) ∧ w' = w
    go_enter Tryd.func111, Tryd.ntmps111
    go_wp2
    go_ret2
    exact ⟨rfl, rfl⟩
  | 2, _ => by
    show Calls Tryd.prog 111 #[.int .i64 2, .int .i64 2] w fun e w' => e = .returned (.tuple #[.int .i64 2, .int .i64 0]) ∧ w' = w
    go_enter Tryd.func111, Tryd.ntmps111
    go_wp2
    go_ret2
    exact ⟨rfl, rfl⟩
  | 3, _ => by
    show Calls Tryd.prog 111 #[.int .i64 3, .int .i64 2] w fun e w' => e = .returned (.tuple #[.int .i64 3, .int .i64 0]) ∧ w' = w
    go_enter Tryd.func111, Tryd.ntmps111
    go_wp2
    go_ret2
    exact ⟨rfl, rfl⟩
  | 4, _ => by
    show Calls Tryd.prog 111 #[.int .i64 4, .int .i64 2] w fun e w' => e = .returned (.tuple #[.int .i64 4, .int .i64 1]) ∧ w' = w
    go_enter Tryd.func111, Tryd.ntmps111
    go_wp2
    go_ret2
    exact ⟨rfl, rfl⟩
  | 5, _ => by
    show Calls Tryd.prog 111 #[.int .i64 5, .int .i64 2] w fun e w' => e = .returned (.tuple #[.int .i64 6, .int .i64 1]) ∧ w' = w
    go_enter Tryd.func111, Tryd.ntmps111
    go_wp2
    go_ret2
    exact ⟨rfl, rfl⟩
  | 6, _ => by
    show Calls Tryd.prog 111 #[.int .i64 6, .int .i64 2] w fun e w' => e = .returned (.tuple #[.int .i64 8, .int .i64 2]) ∧ w' = w
    go_enter Tryd.func111, Tryd.ntmps111
    go_wp2
    go_ret2
    exact ⟨rfl, rfl⟩
  | 7, _ => by
    show Calls Tryd.prog 111 #[.int .i64 7, .int .i64 2] w fun e w' => e = .returned (.tuple #[.int .i64 12, .int .i64 2]) ∧ w' = w
    go_enter Tryd.func111, Tryd.ntmps111
    go_wp2
    go_ret2
    exact ⟨rfl, rfl⟩
  | 8, _ => by
    show Calls Tryd.prog 111 #[.int .i64 8, .int .i64 2] w fun e w' => e = .returned (.tuple #[.int .i64 16, .int .i64 3]) ∧ w' = w
    go_enter Tryd.func111, Tryd.ntmps111
    go_wp2
    go_ret2
    exact ⟨rfl, rfl⟩
  | 9, _ => by
    show Calls Tryd.prog 111 #[.int .i64 9, .int .i64 2] w fun e w' => e = .returned (.tuple #[.int .i64 24, .int .i64 3]) ∧ w' = w
    go_enter Tryd.func111, Tryd.ntmps111
    go_wp2
    go_ret2
    exact ⟨rfl, rfl⟩
  | 10, _ => by
    show Calls Tryd.prog 111 #[.int .i64 10, .int .i64 2] w fun e w' => e = .returned (.tuple #[.int .i64 32, .int .i64 4]) ∧ w' = w
    go_enter Tryd.func111, Tryd.ntmps111
    go_wp2
    go_ret2
    exact ⟨rfl, rfl⟩
  | 11, _ => by
    show Calls Tryd.prog 111 #[.int .i64 11, .int .i64 2] w fun e w' => e = .returned (.tuple #[.int .i64 48, .int .i64 4]) ∧ w' = w
    go_enter Tryd.func111, Tryd.ntmps111
    go_wp2
    go_ret2
    exact ⟨rfl, rfl⟩
  | 12, _ => by
    show Calls Tryd.prog 111 #[.int .i64 12, .int .i64 2] w fun e w' => e = .returned (.tuple #[.int .i64 64, .int .i64 5]) ∧ w' = w
    go_enter Tryd.func111, Tryd.ntmps111
    go_wp2
    go_ret2
    exact ⟨rfl, rfl⟩
  | 13, _ => by
    show Calls Tryd.prog 111 #[.int .i64 13, .int .i64 2] w fun e w' => e = .returned (.tuple #[.int .i64 96, .int .i64 5]) ∧ w' = w
    go_enter Tryd.func111, Tryd.ntmps111
    go_wp2
    go_ret2
    exact ⟨rfl, rfl⟩
  | 14, _ => by
    show Calls Tryd.prog 111 #[.int .i64 14, .int .i64 2] w fun e w' => e = .returned (.tuple #[.int .i64 128, .int .i64 6]) ∧ w' = w
    go_enter Tryd.func111, Tryd.ntmps111
    go_wp2
    go_ret2
    exact ⟨rfl, rfl⟩
  | 15, _ => by
    show Calls Tryd.prog 111 #[.int .i64 15, .int .i64 2] w fun e w' => e = .returned (.tuple #[.int .i64 192, .int .i64 6]) ∧ w' = w
    go_enter Tryd.func111, Tryd.ntmps111
    go_wp2
    go_ret2
    exact ⟨rfl, rfl⟩
  | 16, _ => by
    show Calls Tryd.prog 111 #[.int .i64 16, .int .i64 2] w fun e w' => e = .returned (.tuple #[.int .i64 256, .int .i64 7]) ∧ w' = w
    go_enter Tryd.func111, Tryd.ntmps111
    go_wp2
    go_ret2
    exact ⟨rfl, rfl⟩
  | 17, _ => by
    show Calls Tryd.prog 111 #[.int .i64 17, .int .i64 2] w fun e w' => e = .returned (.tuple #[.int .i64 384, .int .i64 7]) ∧ w' = w
    go_enter Tryd.func111, Tryd.ntmps111
    go_wp2
    go_ret2
    exact ⟨rfl, rfl⟩
  | 18, _ => by
    show Calls Tryd.prog 111 #[.int .i64 18, .int .i64 2] w fun e w' => e = .returned (.tuple #[.int .i64 512, .int .i64 8]) ∧ w' = w
    go_enter Tryd.func111, Tryd.ntmps111
    go_wp2
    go_ret2
    exact ⟨rfl, rfl⟩
  | 19, _ => by
    show Calls Tryd.prog 111 #[.int .i64 19, .int .i64 2] w fun e w' => e = .returned (.tuple #[.int .i64 768, .int .i64 8]) ∧ w' = w
    go_enter Tryd.func111, Tryd.ntmps111
    go_wp2
    go_ret2
    exact ⟨rfl, rfl⟩
  | 20, _ => by
    show Calls Tryd.prog 111 #[.int .i64 20, .int .i64 2] w fun e w' => e = .returned (.tuple #[.int .i64 1024, .int .i64 9]) ∧ w' = w
    go_enter Tryd.func111, Tryd.ntmps111
    go_wp2
    go_ret2
    exact ⟨rfl, rfl⟩
  | 21, _ => by
    show Calls Tryd.prog 111 #[.int .i64 21, .int .i64 2] w fun e w' => e = .returned (.tuple #[.int .i64 1536, .int .i64 9]) ∧ w' = w
    go_enter Tryd.func111, Tryd.ntmps111
    go_wp2
    go_ret2
    exact ⟨rfl, rfl⟩
  | 22, _ => by
    show Calls Tryd.prog 111 #[.int .i64 22, .int .i64 2] w fun e w' => e = .returned (.tuple #[.int .i64 2048, .int .i64 10]) ∧ w' = w
    go_enter Tryd.func111, Tryd.ntmps111
    go_wp2
    go_ret2
    exact ⟨rfl, rfl⟩
  | 23, _ => by
    show Calls Tryd.prog 111 #[.int .i64 23, .int .i64 2] w fun e w' => e = .returned (.tuple #[.int .i64 3072, .int .i64 10]) ∧ w' = w
    go_enter Tryd.func111, Tryd.ntmps111
    go_wp2
    go_ret2
    exact ⟨rfl, rfl⟩
  | 24, _ => by
    show Calls Tryd.prog 111 #[.int .i64 24, .int .i64 2] w fun e w' => e = .returned (.tuple #[.int .i64 4096, .int .i64 11]) ∧ w' = w
    go_enter Tryd.func111, Tryd.ntmps111
    go_wp2
    go_ret2
    exact ⟨rfl, rfl⟩
  | 25, _ => by
    show Calls Tryd.prog 111 #[.int .i64 25, .int .i64 2] w fun e w' => e = .returned (.tuple #[.int .i64 6144, .int .i64 11]) ∧ w' = w
    go_enter Tryd.func111, Tryd.ntmps111
    go_wp2
    go_ret2
    exact ⟨rfl, rfl⟩
  | 26, _ => by
    show Calls Tryd.prog 111 #[.int .i64 26, .int .i64 2] w fun e w' => e = .returned (.tuple #[.int .i64 8192, .int .i64 12]) ∧ w' = w
    go_enter Tryd.func111, Tryd.ntmps111
    go_wp2
    go_ret2
    exact ⟨rfl, rfl⟩
  | 27, _ => by
    show Calls Tryd.prog 111 #[.int .i64 27, .int .i64 2] w fun e w' => e = .returned (.tuple #[.int .i64 12288, .int .i64 12]) ∧ w' = w
    go_enter Tryd.func111, Tryd.ntmps111
    go_wp2
    go_ret2
    exact ⟨rfl, rfl⟩
  | 28, _ => by
    show Calls Tryd.prog 111 #[.int .i64 28, .int .i64 2] w fun e w' => e = .returned (.tuple #[.int .i64 16384, .int .i64 13]) ∧ w' = w
    go_enter Tryd.func111, Tryd.ntmps111
    go_wp2
    go_ret2
    exact ⟨rfl, rfl⟩
  | 29, _ => by
    show Calls Tryd.prog 111 #[.int .i64 29, .int .i64 2] w fun e w' => e = .returned (.tuple #[.int .i64 24576, .int .i64 13]) ∧ w' = w
    go_enter Tryd.func111, Tryd.ntmps111
    go_wp2
    go_ret2
    exact ⟨rfl, rfl⟩
  | k + 30, h => absurd h (by omega)

theorem lenOf_le {s : Nat} (h1 : 257 ≤ s) (h2 : s ≤ 285) : (lenOf s).1 ≤ 258 ∧ 3 ≤ (lenOf s).1 ∧ (lenOf s).2 ≤ 5 := by
  have : ∀ k : Fin 29, (lenOf (257 + k.val)).1 ≤ 258 ∧ 3 ≤ (lenOf (257 + k.val)).1 ∧ (lenOf (257 + k.val)).2 ≤ 5 := by decide
  have h := this ⟨s - 257, by omega⟩
  rw [show 257 + (s - 257) = s by omega] at h
  exact h
theorem distOf_le {s : Nat} (h2 : s ≤ 29) : (distOf s).1 ≤ 24577 ∧ 1 ≤ (distOf s).1 ∧ (distOf s).2 ≤ 13 := by
  have : ∀ k : Fin 30, (distOf k.val).1 ≤ 24577 ∧ 1 ≤ (distOf k.val).1 ∧ (distOf k.val).2 ≤ 13 := by decide
  exact this ⟨s, by omega⟩
set_option maxRecDepth 100000 in
theorem lengthOf_any (s : Nat) (w : World) (h1 : 257 ≤ s) (h2 : s ≤ 285) :
    Calls Tryd.prog 96 #[.int .i64 (s : Int)] w fun e w' => e = .returned (.tuple #[.int .i64 ((lenOf s).1 : Int), .int .i64 ((lenOf s).2 : Int)]) ∧ w' = w := by
  go_enter Tryd.func96, Tryd.ntmps96
  by_cases h : s = 285
  · subst h
    go_wp2
    go_ret2
    exact ⟨rfl, rfl⟩
  · obtain ⟨k, hk⟩ : ∃ k, s = 257 + k := ⟨s - 257, by omega⟩
    have e0 : ((s : Int) == 285) = false := by simp; omega
    have e1 : (s : Int) - 257 = (k : Int) := by omega
    have HL : Hid (lenOf s = (3 + (spreadN k 4).1, (spreadN k 4).2)) := by unfold Hid lenOf; rw [if_neg h, show s - 257 = k by omega]
    have hle := lenOf_le h1 h2
    rw [HL.out] at hle
    have HSP := hidM (spread4 w k (by omega))
    clear hk h
    generalize hx : (spreadN k 4).1 = x at *
    generalize hy : (spreadN k 4).2 = y at *
    have HX := hidM hx
    have HY := hidM hy
    simp only at hle
    clear hx hy
    go_wp2_with fail
    refine HSP.out.mono ?_
    rintro _ _ ⟨rfl, rfl⟩
    go_wp2
    go_ret2
    rw [HL.out]
    exact ⟨by simp, rfl⟩
set_option maxRecDepth 100000 in
theorem distanceOf_any (s : Nat) (w : World) (h2 : s ≤ 29) :
    Calls Tryd.prog 97 #[.int .i64 (s : Int)] w fun e w' => e = .returned (.tuple #[.int .i64 ((distOf s).1 : Int), .int .i64 ((distOf s).2 : Int)]) ∧ w' = w := by
  go_enter Tryd.func97, Tryd.ntmps97
  have HL : Hid (distOf s = (1 + (spreadN s 2).1, (spreadN s 2).2)) := rfl
  have hle := distOf_le h2
  rw [HL.out] at hle
  have HSP := hidM (spread2 w s (by omega))
  generalize hx : (spreadN s 2).1 = x at *
  generalize hy : (spreadN s 2).2 = y at *
  simp only at hle
  clear hx hy
  go_wp2_with fail
  refine HSP.out.mono ?_
  rintro _ _ ⟨rfl, rfl⟩
  go_wp2
  go_ret2
  rw [HL.out]
  exact ⟨by simp, rfl⟩
end Go.Proofs.YtkckobhpanghiaaDoor
