/-
  ObjectNumbers: the walk.
-/
import Derived.Test.YtolohndbbnbfbaaDoorObjB
import Derived.Test.YtolohndbbnbfbaaDoorNumC
namespace Go.Proofs.YtolohndbbnbfbaaDoor
open Go.RowKit

theorem back_s (s : ByteArray) (h : NumOk s.data.toList) : (⟨(Lib.itoa ((valL s.data.toList : Nat) : Int)).toArray⟩ : ByteArray) = s := by
  rw [itoa_back _ h]

set_option maxHeartbeats 3200000 in
theorem numbers_walk (n : Int) (s : ByteArray) (w : World) (h0 : -9223372036854775808 ≤ n) (h1 : n ≤ 9223372036854775807) (hL : LaidAt w) :
    Calls Tryd.prog 10 #[.int .i64 n, .string s] w fun e w' => e = .returned (.bool true) ∧ Below w.heap.size w w' := by
  have HL := hidM hL
  clear hL
  by_cases hk : NumOk (Lib.itoa n)
  · by_cases hy : NumOk s.data.toList
    · obtain ⟨u, hu, rfl⟩ : ∃ u : Nat, u ≤ 999999999 ∧ n = (u : Int) := ⟨n.toNat, by have := (itoa_ok n).1 hk; omega, by have := (itoa_ok n).1 hk; omega⟩
      have HT := hidM (numT_yes hk)
      have HV : Hid (numV (Lib.itoa (u : Int)) = u) := by unfold Hid; rw [numV_yes hk, itoa_val _ (by omega)]; omega
      have g1 : (0 : Int) ≤ (u : Int) := by omega
      have g2 : (u : Int) ≤ 999999999 := by omega
      have HT2 := hidM (numT_yes hy)
      have HV2 := hidM (numV_yes hy)
      have HBK := hidM (back_s s hy)
      have hy9 := num_le _ hy
      clear hy
      clear hk
      go_enter Tryd.func10, Tryd.ntmps10
      go_wp2_with fail
      refine (digits_any (u : Int) w h0 h1).mono ?_
      rintro _ w1 ⟨rfl, m1, rfl⟩
      have HD : Hid ((⟨(Lib.itoa (u : Int)).toArray⟩ : ByteArray).data.toList = Lib.itoa (u : Int)) := rfl
      generalize (⟨(Lib.itoa (u : Int)).toArray⟩ : ByteArray) = T at *
      go_wp2_with fail
      refine (number_any T _).mono ?_
      rintro _ w2 ⟨rfl, rfl⟩
      rw [HD.out, HT.out, HV.out]
      go_wp2_with fail
      refine (number_any s _).mono ?_
      rintro _ w2 ⟨rfl, rfl⟩
      rw [HT2.out, HV2.out]
      have HL1 := hidM (HL.out.drewN m1)
      have HB0 : Hid (Below w.heap.size w (w.drewN m1)) := below_drewN (Below.refl _ _) m1
      have HZ0 : Hid (w.heap.size ≤ (w.drewN m1).heap.size) := Nat.le_refl _
      go_wp2_with fail
      refine (awake_any (w.drewN m1) HL1.out).mono ?_
      rintro _ w3 ⟨rfl, hb3⟩
      have HB3 := hidM (two_le HB0.out hb3 HZ0.out)
      clear hb3 HB0 HZ0 HL1 HL HD
      generalize valL s.data.toList = y at *
      have HDY : Hid (∀ V, Calls Tryd.prog 43 #[.int .i64 (y : Int)] V fun e w' => e = .returned (.string s) ∧ ∃ m, w' = V.drewN m) := fun V => (digits_any (y : Int) V (by omega) (by omega)).mono fun e w' h => ⟨by rw [h.1, HBK.out], h.2⟩
      clear HBK
      go_wp2_with fail
      refine (HDY.out _).mono ?_
      rintro _ w4 ⟨rfl, m4, rfl⟩
      go_wp2_with fail
      go_ret
      exact ⟨rfl, below_drewN HB3.out _⟩
    · obtain ⟨u, hu, rfl⟩ : ∃ u : Nat, u ≤ 999999999 ∧ n = (u : Int) := ⟨n.toNat, by have := (itoa_ok n).1 hk; omega, by have := (itoa_ok n).1 hk; omega⟩
      have HT := hidM (numT_yes hk)
      have HV : Hid (numV (Lib.itoa (u : Int)) = u) := by unfold Hid; rw [numV_yes hk, itoa_val _ (by omega)]; omega
      have g1 : (0 : Int) ≤ (u : Int) := by omega
      have g2 : (u : Int) ≤ 999999999 := by omega
      have HT2 := hidM (numT_no hy)
      have HV2 := hidM (numV_no hy)
      clear hy
      clear hk
      go_enter Tryd.func10, Tryd.ntmps10
      go_wp2_with fail
      refine (digits_any (u : Int) w h0 h1).mono ?_
      rintro _ w1 ⟨rfl, m1, rfl⟩
      have HD : Hid ((⟨(Lib.itoa (u : Int)).toArray⟩ : ByteArray).data.toList = Lib.itoa (u : Int)) := rfl
      generalize (⟨(Lib.itoa (u : Int)).toArray⟩ : ByteArray) = T at *
      go_wp2_with fail
      refine (number_any T _).mono ?_
      rintro _ w2 ⟨rfl, rfl⟩
      rw [HD.out, HT.out, HV.out]
      go_wp2_with fail
      refine (number_any s _).mono ?_
      rintro _ w2 ⟨rfl, rfl⟩
      rw [HT2.out, HV2.out]
      have HL1 := hidM (HL.out.drewN m1)
      have HB0 : Hid (Below w.heap.size w (w.drewN m1)) := below_drewN (Below.refl _ _) m1
      have HZ0 : Hid (w.heap.size ≤ (w.drewN m1).heap.size) := Nat.le_refl _
      go_wp2_with fail
      refine (awake_any (w.drewN m1) HL1.out).mono ?_
      rintro _ w3 ⟨rfl, hb3⟩
      have HB3 := hidM (two_le HB0.out hb3 HZ0.out)
      clear hb3 HB0 HZ0 HL1 HL HD
      go_wp2_with fail
      go_ret
      exact ⟨rfl, HB3.out⟩
  · by_cases hy : NumOk s.data.toList
    · have HT := hidM (numT_no hk)
      have HV := hidM (numV_no hk)
      have hno : ¬ (0 ≤ n ∧ n ≤ 999999999) := fun h => hk ((itoa_ok n).2 h)
      have HT2 := hidM (numT_yes hy)
      have HV2 := hidM (numV_yes hy)
      have HBK := hidM (back_s s hy)
      have hy9 := num_le _ hy
      clear hy
      clear hk
      go_enter Tryd.func10, Tryd.ntmps10
      go_wp2_with fail
      refine (digits_any n w h0 h1).mono ?_
      rintro _ w1 ⟨rfl, m1, rfl⟩
      have HD : Hid ((⟨(Lib.itoa n).toArray⟩ : ByteArray).data.toList = Lib.itoa n) := rfl
      generalize (⟨(Lib.itoa n).toArray⟩ : ByteArray) = T at *
      go_wp2_with fail
      refine (number_any T _).mono ?_
      rintro _ w2 ⟨rfl, rfl⟩
      rw [HD.out, HT.out, HV.out]
      go_wp2_with fail
      refine (number_any s _).mono ?_
      rintro _ w2 ⟨rfl, rfl⟩
      rw [HT2.out, HV2.out]
      have HL1 := hidM (HL.out.drewN m1)
      have HB0 : Hid (Below w.heap.size w (w.drewN m1)) := below_drewN (Below.refl _ _) m1
      have HZ0 : Hid (w.heap.size ≤ (w.drewN m1).heap.size) := Nat.le_refl _
      go_wp2_with fail
      refine (awake_any (w.drewN m1) HL1.out).mono ?_
      rintro _ w3 ⟨rfl, hb3⟩
      have HB3 := hidM (two_le HB0.out hb3 HZ0.out)
      clear hb3 HB0 HZ0 HL1 HL HD
      generalize valL s.data.toList = y at *
      have HDY : Hid (∀ V, Calls Tryd.prog 43 #[.int .i64 (y : Int)] V fun e w' => e = .returned (.string s) ∧ ∃ m, w' = V.drewN m) := fun V => (digits_any (y : Int) V (by omega) (by omega)).mono fun e w' h => ⟨by rw [h.1, HBK.out], h.2⟩
      clear HBK
      rcases (show n < 0 ∨ 999999999 < n by omega) with hlt | hlt
      · have e0 : decide (0 ≤ n) = false := by simp; omega
        go_wp2_with fail
        refine (HDY.out _).mono ?_
        rintro _ w4 ⟨rfl, m4, rfl⟩
        go_wp2_with fail
        go_ret
        exact ⟨rfl, below_drewN HB3.out _⟩
      · have e9 : decide (n ≤ 999999999) = false := by simp; omega
        go_wp2_with fail
        refine (HDY.out _).mono ?_
        rintro _ w4 ⟨rfl, m4, rfl⟩
        go_wp2_with fail
        go_ret
        exact ⟨rfl, below_drewN HB3.out _⟩
    · have HT := hidM (numT_no hk)
      have HV := hidM (numV_no hk)
      have hno : ¬ (0 ≤ n ∧ n ≤ 999999999) := fun h => hk ((itoa_ok n).2 h)
      have HT2 := hidM (numT_no hy)
      have HV2 := hidM (numV_no hy)
      clear hy
      clear hk
      go_enter Tryd.func10, Tryd.ntmps10
      go_wp2_with fail
      refine (digits_any n w h0 h1).mono ?_
      rintro _ w1 ⟨rfl, m1, rfl⟩
      have HD : Hid ((⟨(Lib.itoa n).toArray⟩ : ByteArray).data.toList = Lib.itoa n) := rfl
      generalize (⟨(Lib.itoa n).toArray⟩ : ByteArray) = T at *
      go_wp2_with fail
      refine (number_any T _).mono ?_
      rintro _ w2 ⟨rfl, rfl⟩
      rw [HD.out, HT.out, HV.out]
      go_wp2_with fail
      refine (number_any s _).mono ?_
      rintro _ w2 ⟨rfl, rfl⟩
      rw [HT2.out, HV2.out]
      have HL1 := hidM (HL.out.drewN m1)
      have HB0 : Hid (Below w.heap.size w (w.drewN m1)) := below_drewN (Below.refl _ _) m1
      have HZ0 : Hid (w.heap.size ≤ (w.drewN m1).heap.size) := Nat.le_refl _
      go_wp2_with fail
      refine (awake_any (w.drewN m1) HL1.out).mono ?_
      rintro _ w3 ⟨rfl, hb3⟩
      have HB3 := hidM (two_le HB0.out hb3 HZ0.out)
      clear hb3 HB0 HZ0 HL1 HL HD
      rcases (show n < 0 ∨ 999999999 < n by omega) with hlt | hlt
      · have e0 : decide (0 ≤ n) = false := by simp; omega
        go_wp2_with fail
        go_ret
        exact ⟨rfl, HB3.out⟩
      · have e9 : decide (n ≤ 999999999) = false := by simp; omega
        go_wp2_with fail
        go_ret
        exact ⟨rfl, HB3.out⟩
end Go.Proofs.YtolohndbbnbfbaaDoor
