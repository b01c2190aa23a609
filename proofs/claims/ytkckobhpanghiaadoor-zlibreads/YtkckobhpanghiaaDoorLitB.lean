/-
  sums in this seat: Little.
-/
import Derived.Test.YtkckobhpanghiaaDoorZSum
namespace Go.Proofs.YtkckobhpanghiaaDoor
open Go.RowKit

set_option maxRecDepth 100000 in
theorem le_inj : ∀ l m : List UInt8, l.length = m.length → le l = le m → l = m
  | [], [], _, _ => rfl
  | b :: l, c :: m, hl, hn => by
    rw [le, le] at hn
    have hb := byte_lt b
    have hc := byte_lt c
    have h1 : le l = le m := by omega
    have h2 : b.toNat = c.toNat := by omega
    have h3 : b = c := UInt8.toNat_inj.1 h2
    rw [h3, le_inj l m (by simpa using hl) h1]

set_option maxRecDepth 100000 in
theorem set_first {α : Type} (P : List α) (k : Nat) (z c : α) : (P ++ List.replicate (k + 1) z).set P.length c = (P ++ [c]) ++ List.replicate k z := by
  rw [List.replicate_succ]
  simp

/-- What one store does to the row, from the front. -/
theorem little_store {w : World} {B g n k : Nat} {v : Value} (x : Nat) (P : List UInt8) (hv : v = .slice (some ⟨g, 0, none⟩) n n)
    (hown : w.ownsRow B 5 1 v n (bytesV (P ++ List.replicate (k + 1) 0))) :
    (w.setCell ⟨g, P.length, none⟩ (.int .u8 (IntKind.u8.wrap (x : Int)))).ownsRow B 5 1 v n (bytesV ((P ++ [UInt8.ofNat (x % 256)]) ++ List.replicate k 0)) := by
  subst hv
  have := (hown.stored P.length (.int .u8 (IntKind.u8.wrap (x : Int)))).1
  rw [u8_wrap, bytesV_set, set_first] at this
  rw [u8_wrap]
  exact this

set_option maxHeartbeats 400000 in
set_option maxRecDepth 100000 in
theorem little_any (x n : Nat) (w : World) (h0 : 1 ≤ n) (h1 : n ≤ 2147483647) :
    Calls Tryd.prog 61 #[.int .u64 x, .int .i64 n] w fun e w' => e = .returned (.string ⟨(littleL x n).toArray⟩) ∧ Below w.heap.size w w' := by
  go_enter Tryd.func61, Tryd.ntmps61
  go_wp2_with fail
  refine (noughts_some n _ h0 h1).mono ?_
  rintro e w1 ⟨rfl, hown, hbel, hlt⟩
  generalize hg : w.heap.size = B at *
  have HG := hidM hg
  clear hg
  go_wp2_with fail
  go_loopw [0, 6] (fun xv i wr => ∃ (k y : Nat) (P : List UInt8), k + P.length = n ∧ i = .int .i64 (P.length : Nat) ∧ xv = .int .u64 y ∧ littleL x n = P ++ littleL y k ∧ wr.ownsRow B 5 1 (.slice (some ⟨B, 0, none⟩) n n) n (bytesV (P ++ List.replicate k 0)) ∧ Below B w wr)
    (fun _ i _ => n - (intOf i).toNat)
  case atStart => exact ⟨n, x, [], by simp, rfl, rfl, by simp, by simpa using hown, hbel⟩
  case round =>
    obtain ⟨k, y, P, hk, rfl, rfl, hT, hownr, hbr⟩ := hrel
    clear hown hbel
    have HT : Hid (littleL x n = P ++ littleL y k) := hT
    clear hT
    rcases k with _ | k
    · have hl : P.length = n := by omega
      have hconv : (convert 34 9 (.slice (some ⟨B, 0, none⟩) n n)).run Tryd.prog wr = .ok (.string ⟨(littleL x n).toArray⟩) wr := by
        have ho : OwnB wr B (.slice (some ⟨B, 0, none⟩) n n) P := by unfold OwnB; rw [hl]; simpa using hownr
        rw [show littleL x n = P by rw [HT.out]; simp [littleL]]
        exact conv_own ho
      have hge : ¬ P.length < n := by omega
      generalize P.length = p at *
      clear hownr HT hl
      go_wp2
      go_ret
      exact ⟨rfl, by rw [HG.out]; exact hbr⟩
    · by_cases hy : y = 0
      · subst hy
        have hconv : (convert 34 9 (.slice (some ⟨B, 0, none⟩) n n)).run Tryd.prog wr = .ok (.string ⟨(littleL x n).toArray⟩) wr := by
          have hl : (P ++ List.replicate (k + 1) (0 : UInt8)).length = n := by simp; omega
          have ho : OwnB wr B (.slice (some ⟨B, 0, none⟩) n n) (P ++ List.replicate (k + 1) 0) := by unfold OwnB; rw [hl]; exact hownr
          rw [show littleL x n = P ++ List.replicate (k + 1) 0 by rw [HT.out, littleL_zero]]
          exact conv_own ho
        generalize P.length = p at *
        have hlt : p < n := by omega
        clear hownr HT
        go_wp2
        go_ret
        exact ⟨rfl, by rw [HG.out]; exact hbr⟩
      · have hne : ((y : Int) != 0) = true := by simp; omega
        have hcell : ∃ v0, wr.cell? ⟨B, P.length, none⟩ = some v0 := by
          have := hownr.cellAt P.length (by omega)
          rw [this]
          have hl : P.length < (bytesV (P ++ List.replicate (k + 1) 0)).length := by simp [bytesV]
          exact ⟨_, List.getElem?_eq_getElem hl⟩
        obtain ⟨v0, hc0⟩ := hcell
        have hfz := hownr.frozenAt P.length
        have HST := hidM (little_store y P rfl hownr)
        have HBS : Hid (Below B w (wr.setCell ⟨B, P.length, none⟩ (.int .u8 (IntKind.u8.wrap (y : Int))))) := hbr.setCell (Nat.le_refl _) _
        have HP : ∃ p, p = P.length := ⟨_, rfl⟩
        obtain ⟨p, hp⟩ := HP
        rw [← hp] at hfz hc0 hk HST HBS
        have HPP := hidM hp
        rw [← hp]
        clear hownr hbr hp
        have hlt : p < n := by omega
        go_wp2
        go_roundw
        case rel => exact ⟨k, y / 256, P ++ [UInt8.ofNat (y % 256)], by simp; rw [← HPP.out]; omega, val_int (by simp; rw [HPP.out]), val_int (by omega), by rw [HT.out]; simp [littleL], HST.out, HBS.out⟩
        case measure => simp [intOf]; omega

end Go.Proofs.YtkckobhpanghiaaDoor
