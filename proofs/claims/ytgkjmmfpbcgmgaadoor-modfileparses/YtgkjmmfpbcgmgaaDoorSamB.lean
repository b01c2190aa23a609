/-
  Two lists of texts that are the same are told so.
-/
import Derived.Test.YtgkjmmfpbcgmgaaDoorRpA
namespace Go.Proofs.YtgkjmmfpbcgmgaaDoor
open Go.RowKit

theorem WIn.addr {w : World} {a : Option Addr} {n c : Nat} {l : List ByteArray} (h : WIn w (.slice a n c) l) (hne : l ≠ []) : ∃ g off, a = some ⟨g, off, none⟩ ∧ ∀ j (hj : j < l.length), w.cell? ⟨g, off + j, none⟩ = some (.string l[j]) := by
  obtain ⟨g, off, c', h1, _, _, h4⟩ := h.cell hne
  injection h1 with q1 _ _
  exact ⟨g, off, q1, h4⟩
set_option maxHeartbeats 1600000 in
theorem same_yes (v1 v2 : Value) (l : List ByteArray) (w : World) (h1 : WIn w v1 l) (h2 : WIn w v2 l) (hl : l.length ≤ 1000000) :
    Calls Tryd.prog 14 #[v1, v2] w fun e w' => e = .returned (.bool true) ∧ ∃ q, w' = w.drewN q := by
  obtain ⟨a1, c1, rfl, _⟩ := id h1
  obtain ⟨a2, c2, rfl, _⟩ := id h2
  have H1 := hidM h1
  have H2 := hidM h2
  clear h1 h2
  go_enter Tryd.func14, Tryd.ntmps14
  go_wp2
  go_loopw [5, 13] (fun _ i wr => ∃ (k q : Nat), k ≤ l.length ∧ i = .int .i64 k ∧ wr = w.drewN q) (fun _ i _ => l.length - (intOf i).toNat)
  case atStart => exact ⟨0, 0, Nat.zero_le _, rfl, rfl⟩
  case round =>
    obtain ⟨k, q, hk, rfl, hw⟩ := hrel
    have HW := hidM hw
    by_cases hlt : k < l.length
    · have kk : (k : Int) < (l.length : Int) := by omega
      have k0 : (0 : Int) ≤ (k : Int) := by omega
      have hne : l ≠ [] := fun h => by rw [h] at hlt; simp at hlt
      obtain ⟨g, o, rfl, d1⟩ := H1.out.addr hne
      obtain ⟨g2, o2, rfl, d2⟩ := H2.out.addr hne
      have x1 : wr.cell? ⟨g, o + k, none⟩ = some (.string l[k]) := by rw [hw]; exact d1 k hlt
      have x2 : wr.cell? ⟨g2, o2 + k, none⟩ = some (.string l[k]) := by rw [hw]; exact d2 k hlt
      clear d1 d2 hw
      generalize l[k] = X at *
      go_wp2
      go_quiet (fail)
      go_wp2
      go_roundw
      case rel => exact ⟨k + 1, q + nq, by omega, by go_num, by rw [HW.out, World.drewN_drewN]⟩
      case measure => (show l.length - ((k : Int) + 1).toNat < l.length - ((k : Int)).toNat); omega
    · have kk : ¬ (k : Int) < (l.length : Int) := by omega
      clear hw
      go_wp2
      go_ret
      exact ⟨rfl, q, HW.out⟩
end Go.Proofs.YtgkjmmfpbcgmgaaDoor
