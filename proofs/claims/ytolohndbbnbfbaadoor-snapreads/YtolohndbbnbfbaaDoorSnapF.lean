/-
  A folder's count and bytes; is a path there twice?
-/
import Derived.Test.YtolohndbbnbfbaaDoorSnapE
namespace Go.Proofs.YtolohndbbnbfbaaDoor
open Go.RowKit

theorem len_any (q b off c : Nat) (fs : List FileB) (w : World) (hF : Folder w q b off c fs) :
    Calls Tryd.prog 22 #[.pointer (some ⟨q, 0, none⟩)] w fun e w' => e = .returned (.int .i64 (fs.length : Nat)) ∧ w' = w := by
  have hc := hF.cell
  clear hF
  go_enter Tryd.func22, Tryd.ntmps22
  go_wp2
  go_ret
  exact ⟨rfl, rfl⟩
theorem sizes_any (q b off c : Nat) (fs : List FileB) (w : World) (hF : Folder w q b off c fs) (hs : sizeF fs ≤ 4611686018427387904) (hl : fs.length ≤ 1000000) :
    Calls Tryd.prog 23 #[.pointer (some ⟨q, 0, none⟩)] w fun e w' => e = .returned (.int .i64 (sizeF fs : Nat)) ∧ Below w.heap.size w w' := by
  have hc := hF.cell
  have HS := hidM (size_at b off c fs w hF.blt hF.files hs hl)
  clear hF
  go_enter Tryd.func23, Tryd.ntmps23
  go_wp2_with fail
  refine HS.out.mono ?_
  rintro _ w1 ⟨rfl, hb⟩
  go_wp2_with fail
  go_ret
  exact ⟨rfl, hb⟩
theorem ba_eq {a b : ByteArray} (h : a.data.toList = b.data.toList) : a = b := by
  cases a; cases b; simp at h; rw [h]
/-- do two neighbours have one path? -/
def TwiceTo (fs : List FileB) (k : Nat) : Prop := ∀ t (h : t + 1 < fs.length), t + 1 < k → fs[t].1 ≠ fs[t + 1].1
open Classical in
noncomputable def twiceB (fs : List FileB) : Bool := !decide (TwiceTo fs fs.length)
set_option maxHeartbeats 1600000 in
theorem twice_any (q b off c : Nat) (fs : List FileB) (w : World) (hF : Folder w q b off c fs) (hl : fs.length ≤ 1000000) :
    Calls Tryd.prog 50 #[.pointer (some ⟨q, 0, none⟩)] w fun e w' => e = .returned (.bool (twiceB fs)) ∧ Below w.heap.size w w' := by
  have HFO := hidM hF
  clear hF
  go_enter Tryd.func50, Tryd.ntmps50
  go_wp2
  go_loopw [3] (fun i wr => ∃ (k : Nat), 1 ≤ k ∧ i = .int .i64 k ∧ (k ≤ fs.length ∨ k = 1) ∧ TwiceTo fs k ∧ Below w.heap.size w wr) (fun i _ => fs.length - (intOf i).toNat)
  case atStart => exact ⟨1, Nat.le_refl _, rfl, .inr rfl, fun t _ h => by omega, Below.refl _ _⟩
  case round =>
    obtain ⟨k, hk1, rfl, hk, hd, hb⟩ := hrel
    have HD := hidM hd
    have HB := hidM hb
    have HF := hidM (HFO.out.below hb)
    have hc := HF.out.cell
    clear hd hb
    by_cases hlt : k < fs.length
    · have kk : (k : Int) < (fs.length : Int) := by omega
      obtain ⟨j, hj⟩ : ∃ j, j = k - 1 := ⟨_, rfl⟩
      have HJ : Hid (k = j + 1) := by unfold Hid; omega
      have r1 : (k : Int) - 1 = (j : Int) := by omega
      have k0 : (0 : Int) ≤ (k : Int) := by omega
      have j0 : (0 : Int) ≤ (j : Int) := by omega
      have hjl : j < fs.length := by omega
      have jl : (j : Int) < (fs.length : Int) := by omega
      have c1 := (HF.out.files j hjl).1
      have c2 := (HF.out.files k hlt).1
      by_cases he : fs[j].1 = fs[k].1
      · have HT : Hid (twiceB fs = true) := by
          unfold Hid twiceB
          simp only [Bool.not_eq_true', decide_eq_false_iff_not]
          intro h
          have hx := HJ.out
          subst hx
          exact h j hlt hlt he
        rw [he] at c1
        generalize fs[k].1 = X at *
        clear he hk hj
        go_wp2
        go_quiet (fail)
        go_wp2
        go_ret
        exact ⟨by rw [HT.out]; rfl, below_drewN HB.out _⟩
      · have e1 : (fs[j].1.toList == fs[k].1.toList) = false := by
          rw [ByteArray.toList_eq, ByteArray.toList_eq]
          exact beq_false_of_ne fun h => he (by rw [ba_eq h])
        have HN : Hid (TwiceTo fs (k + 1)) := by
          have hx := HJ.out
          subst hx
          intro t h ht
          by_cases h5 : t + 1 < j + 1
          · exact HD.out t h h5
          · have : t = j := by omega
            subst this; exact he
        generalize fs[k].1 = X at *
        generalize fs[j].1 = Y at *
        clear he hk hj
        go_wp2
        go_quiet (fail)
        go_wp2
        go_roundw
        case rel => exact ⟨k + 1, by omega, by go_num, .inl (by omega), HN.out, below_drewN HB.out _⟩
        case measure => (show fs.length - ((k : Int) + 1).toNat < fs.length - ((k : Int)).toNat); omega
    · have HT : Hid (twiceB fs = false) := by
        unfold Hid twiceB
        simp only [Bool.not_eq_false', decide_eq_true_eq]
        intro t h _
        exact HD.out t h (by omega)
      have kk : ¬ (k : Int) < (fs.length : Int) := by omega
      clear hk
      go_wp2
      go_ret
      exact ⟨by rw [HT.out]; rfl, HB.out⟩
end Go.Proofs.YtolohndbbnbfbaaDoor
