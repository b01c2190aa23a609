/-
  Walks of inflate: the first set.
-/
import Derived.Test.YtkckobhpanghiaaDoorInfX
import Derived.Test.YtkckobhpanghiaaDoorInfZ
namespace Go.Proofs.YtkckobhpanghiaaDoor
open Go.RowKit

def plK (k : Nat) : Nat := placeOf.getD k 0
theorem plK_all : ∀ k : Fin 19, plK k.val < 19 ∧ placeOf.idxOf (plK k.val) = k.val := by decide
theorem plK_of {s k : Nat} (hk : k < 19) (h : placeOf.idxOf s = k) : s = plK k := by
  have hl : placeOf.idxOf s < placeOf.length := by rw [h]; exact hk
  have h1 := List.getElem_idxOf hl
  unfold plK
  rw [List.getD_eq_getElem?_getD, ← h, List.getElem?_eq_getElem hl, h1]
  rfl
def lenK (X : List UInt8) (t k s : Nat) : Nat := if s < 19 ∧ placeOf.idxOf s < k then bitsN X (t + 3 * placeOf.idxOf s) 3 else 0
def hK (X : List UInt8) (t k : Nat) : Nat → Value := fun s => .int .i64 (lenK X t k s : Int)
theorem lenK_le (X : List UInt8) (t k s : Nat) : lenK X t k s ≤ 7 := by
  unfold lenK
  split
  · have := bitsN_lt X (t + 3 * placeOf.idxOf s) 3; omega
  · omega
theorem hK_zero (X : List UInt8) (t : Nat) : hK X t 0 = fun _ => .int .i64 0 := by
  funext s
  unfold hK lenK
  rw [if_neg (fun h => by omega)]
  rfl
theorem hK_next (X : List UInt8) (t k : Nat) (hk : k < 19) : upd (hK X t k) (plK k) (.int .i64 (bitsN X (t + 3 * k) 3 : Int)) = hK X t (k + 1) := by
  have hp : plK k < 19 ∧ placeOf.idxOf (plK k) = k := plK_all ⟨k, hk⟩
  funext s
  by_cases hs : s = plK k
  · subst hs
    rw [upd_same]
    unfold hK lenK
    rw [hp.2, if_pos ⟨hp.1, by omega⟩]
  · rw [upd_other _ _ _ _ hs]
    unfold hK lenK
    have hne : placeOf.idxOf s ≠ k := fun h => hs (plK_of hk h)
    by_cases h : s < 19 ∧ placeOf.idxOf s < k
    · rw [if_pos h, if_pos ⟨h.1, by omega⟩]
    · rw [if_neg h, if_neg (fun g => h ⟨g.1, by omega⟩)]
theorem first_ints {w : World} {g : Nat} {X : List UInt8} {t k : Nat} (h : ABox w g 138 19 (hK X t k)) : IntsAt w (some ⟨g, 0, none⟩) 19 .i64 (fun i => ((firstCd X t k).ln i : Int)) := by
  refine ⟨by unfold maxLen; omega, fun i => ?_, .inr ⟨g, 0, rfl, fun i hi => ?_⟩⟩
  · have h7 := lenK_le X t k i
    show (Lit.int .i64 (lenK X t k i : Int)).wf = true
    exact WalkArith.wf_i64 ⟨by omega, by omega⟩
  · rw [Nat.zero_add]
    exact h.cell i hi
/-- what readFirst answers -/
def FirstPost (B : Nat) (X : ByteArray) (t nc : Nat) (e : Ending) (w' : World) : Prop :=
  (total X.data.toList < t + 3 * nc ∧ e = .returned (.tuple #[.pointer none, .int .i64 6])) ∨
  (t + 3 * nc ≤ total X.data.toList ∧ ¬ Fit (firstCd X.data.toList t nc).ln 19 ∧ e = .returned (.tuple #[.pointer none, .int .i64 3])) ∨
  (t + 3 * nc ≤ total X.data.toList ∧ Fit (firstCd X.data.toList t nc).ln 19 ∧ ∃ tb, e = .returned (.tuple #[.pointer (some ⟨tb, 0, none⟩), .int .i64 0]) ∧ TabQ w' B (.pointer (some ⟨tb, 0, none⟩)) (firstCd X.data.toList t nc) ∧ RBox w' B X (t + 3 * nc))
theorem ButR.below {B : Nat} {w w' w'' : World} (h : ButR B w w') (k : Below w'.heap.size w' w'') : ButR B w w'' :=
  ⟨k.os.trans h.os, k.tape.trans h.tape, k.output.trans h.output, Nat.le_trans h.size k.size, fun i h1 h2 => (k.block i (Nat.lt_of_lt_of_le h1 h.size)).trans (h.block i h1 h2)⟩
theorem ButR.setNew {B g o : Nat} {w w' : World} (h : ButR B w w') (hg : w.heap.size ≤ g) (u : Value) : ButR B w (w'.setCell ⟨g, o, none⟩ u) :=
  ⟨h.os, h.tape, h.output, by simpa using h.size, fun i h1 h2 => (Below.heap_setCell w' ⟨g, o, none⟩ u i (by show i ≠ g; omega)).trans (h.block i h1 h2)⟩
set_option maxHeartbeats 4000000 in
set_option maxRecDepth 100000 in
theorem readFirst_any (B : Nat) (X : ByteArray) (t nc : Nat) (w : World) (h0 : w.cell? ⟨B + 1, 0, none⟩ = some (.pointer (some ⟨B, 0, none⟩))) (hB : B + 1 < w.heap.size) (hBp : 0 < B) (hr : RBox w B X t) (hX : X.size ≤ 1000000) (ht : t ≤ 8 * X.size) (hnc : nc ≤ 19)
    (hG : ∀ k, k < 19 → w.cell? ⟨0, k, none⟩ = some (.int .i64 (plK k : Int))) :
    Calls Tryd.prog 79 #[.pointer (some ⟨B + 1, 0, none⟩), .int .i64 (nc : Int)] w fun e w' => FirstPost B X t nc e w' ∧ ButR B w w' := by
  have HRD := hidM hr
  have HC := hidM h0
  have HG := hidM hG
  have HBX : Hid (ABox (w.alloc (.cells #[.int .i64 0, .int .i64 0, .int .i64 0, .int .i64 0, .int .i64 0, .int .i64 0, .int .i64 0, .int .i64 0, .int .i64 0, .int .i64 0, .int .i64 0, .int .i64 0, .int .i64 0, .int .i64 0, .int .i64 0, .int .i64 0, .int .i64 0, .int .i64 0, .int .i64 0] 138)) w.heap.size 138 19 (hK X.data.toList t 0)) := by
    unfold Hid ABox
    rw [hK_zero, heap_alloc_new]
    rfl
  clear hr h0 hG
  go_enter Tryd.func79, Tryd.ntmps79
  go_wp2
  go_loopw [13] (fun iv wr => ∃ (k : Nat), k ≤ nc ∧ iv = .int .i64 k ∧ t + 3 * k ≤ 8 * X.size ∧ RBox wr B X (t + 3 * k) ∧ ABox wr w.heap.size 138 19 (hK X.data.toList t k) ∧ ButR B w wr) (fun i _ => nc - (intOf i).toNat)
  case atStart =>
    refine ⟨0, Nat.zero_le _, rfl, by omega, ?_, HBX.out, ?_⟩
    · exact HRD.out.same (Below.heap_alloc w _ B (by omega))
    · exact ⟨rfl, rfl, rfl, by simp, fun k h1 _ => Below.heap_alloc w _ k h1⟩
  case round =>
    obtain ⟨k, hk, rfl, htk, hrd, hab, hbut⟩ := hrel
    have HR := hidM hrd
    have HA := hidM hab
    have HBU := hidM hbut
    clear hrd hab hbut HBX HRD
    by_cases hlt : k < nc
    · have kk : (k : Int) < (nc : Int) := by omega
      have d0 : wr.cell? ⟨B + 1, 0, none⟩ = some (.pointer (some ⟨B, 0, none⟩)) := (World.cell?_of_block (w := w) (a := ⟨B + 1, 0, none⟩) (HBU.out.block (B + 1) hB (by omega))).trans HC.out
      have HSB := hidM (sbits_any (B + 1) B X (t + 3 * k) (8 * X.size - (t + 3 * k)) 3 wr d0 HR.out (by omega) (by omega) (by decide))
      go_wp2_with fail
      refine HSB.out.mono ?_
      rintro _ w1 ⟨hp, ho1⟩
      have HA1 : Hid (ABox w1 w.heap.size 138 19 (hK X.data.toList t k)) := HA.out.same (ho1.block _ (by omega))
      have HB1 : Hid (ButR B w w1) := HBU.out.only ho1
      clear ho1 HSB HA HBU d0
      rcases hp with ⟨x, h1, h2, rfl, h3⟩ | ⟨h1, rfl, h3⟩
      · have hxe : x = bitsN X.data.toList (t + 3 * k) 3 ∧ t + 3 * k + 3 ≤ 8 * X.size := by
          unfold num at h1
          rw [total_size] at h1
          split at h1
          · rename_i hh
            simp only [Option.some.injEq] at h1
            exact ⟨h1.symm, hh⟩
          · cases h1
        have hpl : plK k < 19 ∧ placeOf.idxOf (plK k) = k := plK_all ⟨k, by omega⟩
        have g1 : w1.cell? ⟨0, k, none⟩ = some (.int .i64 (plK k : Int)) := (World.cell?_of_block (w := w) (a := ⟨0, k, none⟩) (HB1.out.block 0 (by omega) (by omega))).trans (HG.out k (by omega))
        have g2 := HA1.out.cell (plK k) hpl.1
        have g3 := HA1.out.fz (plK k)
        unfold hK at g2
        have HA2 := hidM (HA1.out.set (plK k) (.int .i64 (x : Int)))
        have HNX := hidM (hK_next X.data.toList t k (by omega))
        rw [hxe.1] at HA2
        rw [HNX.out] at HA2
        rw [← hxe.1] at HA2
        have ht3 := hxe.2
        have e1 : (plK k : Int) < 19 := by omega
        have e2 : (k : Int) < 19 := by omega
        have HR3 := hidM h3
        clear h1 h2 h3 hxe hpl
        generalize plK k = q at *
        generalize lenK X.data.toList t k q = z at *
        go_wp2
        go_roundw
        case rel => exact ⟨k + 1, by omega, by go_num, by omega, by rw [show t + 3 * (k + 1) = t + 3 * k + 3 by omega]; exact HR3.out.same (Below.heap_setCell w1 ⟨w.heap.size, q, none⟩ _ B (by show B ≠ w.heap.size; omega)), HA2.out, HB1.out.setNew (Nat.le_refl _) _⟩
        case measure => (show nc - ((k : Int) + 1).toNat < nc - ((k : Int)).toNat); omega
      · have hshort : total X.data.toList < t + 3 * nc := by
          unfold num at h1
          rw [total_size] at h1
          split at h1
          · cases h1
          · rw [total_size]; omega
        have HSH := hidM hshort
        clear h1 h3 hshort
        go_wp2
        go_ret2
        exact ⟨.inl ⟨HSH.out, rfl⟩, HB1.out⟩
    · obtain rfl : k = nc := by omega
      have HN := hidM (new_tab (firstCd X.data.toList t k) (some ⟨w.heap.size, 0, none⟩) 19 _ wr (first_ints HA.out) (by show (19 : Nat) ≤ 320; decide) (fun i _ => ⟨rfl, Nat.le_trans (lenK_le X.data.toList t k i) (by decide)⟩))
      have HTT : Hid (t + 3 * k ≤ total X.data.toList) := by unfold Hid; rw [total_size]; exact htk
      have hwr := HBU.out.size
      go_wp2_with fail
      refine HN.out.mono ?_
      rintro _ w2 ⟨hq, hb2⟩
      have HB2 := hidM (HBU.out.below hb2)
      have HR2 := hidM (HR.out.below hb2)
      clear hb2 HN
      rcases hq with ⟨hno, rfl⟩ | ⟨hfit, tb, rfl, htb⟩
      · have HNO := hidM hno
        clear hno
        go_wp2
        go_ret2
        exact ⟨.inr (.inl ⟨HTT.out, HNO.out, rfl⟩), HB2.out⟩
      · have HF := hidM hfit
        have HTB : Hid (TabQ w2 B (.pointer (some ⟨tb, 0, none⟩)) (firstCd X.data.toList t k)) := tabQ_of htb (by omega)
        clear hfit htb
        go_wp2
        go_ret2
        exact ⟨.inr (.inr ⟨HTT.out, HF.out, tb, rfl, HTB.out, HR2.out⟩), HB2.out⟩
end Go.Proofs.YtkckobhpanghiaaDoor
