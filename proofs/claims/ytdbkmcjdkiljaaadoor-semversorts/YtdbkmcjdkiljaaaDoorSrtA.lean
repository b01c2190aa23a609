/-
  Walks of semver: two lists that are the same.
-/
import Derived.Test.YtdbkmcjdkiljaaaDoorInsW
namespace Go.Proofs.YtdbkmcjdkiljaaaDoor
open Go.RowKit

set_option maxHeartbeats 2000000 in
set_option maxRecDepth 100000 in
theorem rsame_yes (v1 v2 : Value) (l : List ByteArray) (w : World) (h1 : SliV w v1 l) (h2 : SliV w v2 l) (hl : l.length ≤ 1000) :
    Calls Tryd.prog 20 #[v1, v2] w fun e w' => e = .returned (.bool true) ∧ Below w.heap.size w w' := by
  obtain ⟨a1, c1, rfl, _, hor1⟩ := h1
  obtain ⟨a2, c2, rfl, _, hor2⟩ := h2
  have HO1 := hidM hor1
  have HO2 := hidM hor2
  clear hor1 hor2
  go_enter Tryd.func20, Tryd.ntmps20
  go_wp2
  go_loopw [5, 13] (fun _ iv wr => ∃ k : Nat, k ≤ l.length ∧ iv = .int .i64 (k : Int) ∧ Below w.heap.size w wr) (fun _ i _ => l.length - (intOf i).toNat)
  case atStart => exact ⟨0, Nat.zero_le _, rfl, Below.refl _ _⟩
  case round =>
    obtain ⟨k, hk, rfl, hb⟩ := hrel
    have HB := hidM hb
    clear hb
    by_cases hlt : k < l.length
    · have kk : (k : Int) < (l.length : Int) := by omega
      have k0 : (0 : Int) ≤ (k : Int) := by omega
      obtain ⟨b1, o1, rfl, hlt1, hst1⟩ := HO1.out.resolve_left (fun h => by rw [h] at hlt; simp at hlt)
      obtain ⟨b2, o2, rfl, hlt2, hst2⟩ := HO2.out.resolve_left (fun h => by rw [h] at hlt; simp at hlt)
      have d1 : wr.cell? ⟨b1, o1 + k, none⟩ = some (.string l[k]) := (HB.out.cell (p := ⟨b1, o1 + k, none⟩) hlt1).trans (hst1 k hlt)
      have d2 : wr.cell? ⟨b2, o2 + k, none⟩ = some (.string l[k]) := (HB.out.cell (p := ⟨b2, o2 + k, none⟩) hlt2).trans (hst2 k hlt)
      clear hst1 hst2 HO1 HO2
      generalize l[k] = X at *
      go_wp2
      go_quiet (fail)
      have HB9 := hidM (below_drewN HB.out nq)
      generalize wr.drewN nq = w9 at *
      go_wp2
      go_roundw
      case rel => exact ⟨k + 1, by omega, by go_num, HB9.out⟩
      case measure => simp [intOf]; omega
    · have kk : ¬ (k : Int) < (l.length : Int) := by omega
      go_wp2
      go_ret
      exact ⟨rfl, HB.out⟩
end Go.Proofs.YtdbkmcjdkiljaaaDoor
