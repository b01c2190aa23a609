/-
  Walks of the document's words on commits: a line's text, who and when.
  Walks of the laws of commit: awake.
  Walks of the laws of commit: CommitSigns.
  Walks of the laws of commit: few (a commit of at most 40 parents, copied).
-/
import Derived.Test.YtbghailohnppmaaDoorJComH
import Derived.Laws.StructEq
import Derived.Laws.OwnMore
namespace Go.Proofs.YtbghailohnppmaaDoor
open Go.RowKit

theorem idx_yes {l : List UInt8} {c : UInt8} (h : l.contains c = true) : ¬ Lib.indexByte l c < 0 := by
  have := index_has l c
  rw [h] at this
  have := of_decide_eq_true this
  omega
theorem idx_no {l : List UInt8} {c : UInt8} (h : l.contains c = false) : Lib.indexByte l c < 0 := by
  have := index_has l c
  rw [h] at this
  have := of_decide_eq_false this
  omega
set_option maxHeartbeats 1600000 in
theorem rline_any (s : ByteArray) (w : World) (hs : s.size ≤ 9223372036854775807) : Calls Tryd.prog 15 #[.string s] w fun e w' => e = .returned (.bool (lineB s.data.toList)) ∧ w' = w := by
  have H10 := hidM (find_any s 10 w hs)
  have H0 := hidM (find_any s 0 w hs)
  have k10 : (((10 : UInt8).toNat : Nat) : Int) = 10 := rfl
  have k0 : (((0 : UInt8).toNat : Nat) : Int) = 0 := rfl
  rw [k10] at H10
  rw [k0] at H0
  have HR : Hid (lineB s.data.toList = (decide (1 ≤ s.size) && decide (s.size ≤ 100) && !s.data.toList.contains 10 && !s.data.toList.contains 0)) := by
    unfold Hid lineB
    rw [sl_len]
    congr 3
    have := sl_len s
    cases h : s.data.toList with
    | nil => rw [h] at this; simp at this; simp [← this]
    | cons a r => rw [h] at this; simp at this; simp; omega
  generalize lineB s.data.toList = R at *
  have y10 : s.data.toList.contains 10 = true → ¬ Lib.indexByte s.data.toList 10 < 0 := idx_yes
  have x10 : s.data.toList.contains 10 = false → Lib.indexByte s.data.toList 10 < 0 := idx_no
  have y0 : s.data.toList.contains 0 = true → ¬ Lib.indexByte s.data.toList 0 < 0 := idx_yes
  have x0 : s.data.toList.contains 0 = false → Lib.indexByte s.data.toList 0 < 0 := idx_no
  generalize Lib.indexByte s.data.toList 10 = i10 at *
  generalize Lib.indexByte s.data.toList 0 = i0 at *
  generalize s.data.toList.contains 10 = c10 at *
  generalize s.data.toList.contains 0 = c0 at *
  clear k10 k0
  by_cases h1 : 1 ≤ s.size
  · by_cases hz : s.size ≤ 100
    · have g1 : (1 : Int) ≤ (s.size : Int) := by omega
      have g2 : (s.size : Int) ≤ 100 := by omega
      have HR2 : Hid (R = (!c10 && !c0)) := by unfold Hid; rw [HR.out]; simp [hz, h1]
      clear HR hs
      cases c10 with
      | true =>
        have HR3 : Hid (R = false) := HR2.out
        have q10 := y10 rfl
        clear HR2 y10 x10 y0 x0
        go_enter Tryd.func15, Tryd.ntmps15
        go_wp2_with fail
        refine H10.out.mono ?_
        rintro _ w1 ⟨rfl, hw⟩
        rw [hw]
        go_wp2
        go_ret
        exact ⟨by rw [HR3.out]; rfl, rfl⟩
      | false =>
        have q10 := x10 rfl
        cases c0 with
        | true =>
          have HR3 : Hid (R = false) := HR2.out
          have q0 := y0 rfl
          clear HR2 y10 x10 y0 x0
          go_enter Tryd.func15, Tryd.ntmps15
          go_wp2_with fail
          refine H10.out.mono ?_
          rintro _ w1 ⟨rfl, hw⟩
          rw [hw]
          go_wp2_with fail
          refine H0.out.mono ?_
          rintro _ w1 ⟨rfl, hw⟩
          rw [hw]
          have q0b : decide (i0 < 0) = false := by simp; omega
          go_wp2
          go_ret
          exact ⟨by rw [HR3.out]; rfl, rfl⟩
        | false =>
          have HR3 : Hid (R = true) := HR2.out
          have q0 := x0 rfl
          clear HR2 y10 x10 y0 x0
          go_enter Tryd.func15, Tryd.ntmps15
          go_wp2_with fail
          refine H10.out.mono ?_
          rintro _ w1 ⟨rfl, hw⟩
          rw [hw]
          go_wp2_with fail
          refine H0.out.mono ?_
          rintro _ w1 ⟨rfl, hw⟩
          rw [hw]
          have q0b : decide (i0 < 0) = true := by simp; omega
          go_wp2
          go_ret
          exact ⟨by rw [HR3.out]; rfl, rfl⟩
    · have g1 : (1 : Int) ≤ (s.size : Int) := by omega
      have g2 : ¬ (s.size : Int) ≤ 100 := by omega
      have HR2 : Hid (R = false) := by unfold Hid; rw [HR.out]; simp [hz]
      clear HR hs y10 x10 y0 x0
      go_enter Tryd.func15, Tryd.ntmps15
      go_wp2
      go_ret
      exact ⟨by rw [HR2.out]; rfl, rfl⟩
  · have g1 : ¬ (1 : Int) ≤ (s.size : Int) := by omega
    have HR2 : Hid (R = false) := by unfold Hid; rw [HR.out]; simp [h1]
    clear HR hs y10 x10 y0 x0
    go_enter Tryd.func15, Tryd.ntmps15
    go_wp2
    go_ret
    exact ⟨by rw [HR2.out]; rfl, rfl⟩
set_option maxHeartbeats 1600000 in
theorem rsigned_any (s : Sb) (w : World) (hw : s.who.size ≤ 9223372036854775807) : Calls Tryd.prog 26 #[sbV s] w fun e w' => e = .returned (.bool (signedG (sgOf s))) ∧ Below w.heap.size w w' := by
  obtain ⟨who, t, z⟩ := s
  unfold sbV
  simp only
  have HL := hidM (fun V => rline_any who V hw)
  have HR : Hid (signedG (sgOf ⟨who, t, z⟩) = (lineB who.data.toList && decide (0 ≤ t) && decide (t ≤ 253402300799) && decide (-840 ≤ z) && decide (z ≤ 840))) := rfl
  generalize signedG (sgOf ⟨who, t, z⟩) = R at *
  generalize lineB who.data.toList = L at *
  have HB0 : Hid (Below w.heap.size w (w.alloc (.cells #[.string who, .int .i64 t, .int .i64 z] 24))) := (Below.refl _ w).alloc (Nat.le_refl _) _
  cases L with
  | false =>
    have HV : Hid (R = false) := by unfold Hid; rw [HR.out]; rfl
    clear HR
    go_enter Tryd.func26, Tryd.ntmps26
    go_wp2_with fail
    refine (HL.out _).mono ?_
    rintro _ w1 ⟨rfl, hw⟩
    rw [hw]
    clear hw
    go_wp2
    go_ret
    exact ⟨by rw [HV.out]; rfl, HB0.out⟩
  | true =>
    by_cases h0 : 0 ≤ t
    · by_cases h1 : t ≤ 253402300799
      · by_cases h2 : -840 ≤ z
        · by_cases h3 : z ≤ 840
          · have HV : Hid (R = true) := by unfold Hid; rw [HR.out]; simp [h0, h1, h2, h3]
            clear HR
            go_enter Tryd.func26, Tryd.ntmps26
            go_wp2_with fail
            refine (HL.out _).mono ?_
            rintro _ w1 ⟨rfl, hw⟩
            rw [hw]
            clear hw
            go_wp2
            go_ret
            exact ⟨by rw [HV.out]; rfl, HB0.out⟩
          · have h3b : decide (z ≤ 840) = false := by simp; omega
            have HV : Hid (R = false) := by unfold Hid; rw [HR.out]; simp [h3]
            clear HR
            go_enter Tryd.func26, Tryd.ntmps26
            go_wp2_with fail
            refine (HL.out _).mono ?_
            rintro _ w1 ⟨rfl, hw⟩
            rw [hw]
            clear hw
            go_wp2
            go_ret
            exact ⟨by rw [HV.out]; rfl, HB0.out⟩
        · have HV : Hid (R = false) := by unfold Hid; rw [HR.out]; simp [h2]
          clear HR
          go_enter Tryd.func26, Tryd.ntmps26
          go_wp2_with fail
          refine (HL.out _).mono ?_
          rintro _ w1 ⟨rfl, hw⟩
          rw [hw]
          clear hw
          go_wp2
          go_ret
          exact ⟨by rw [HV.out]; rfl, HB0.out⟩
      · have HV : Hid (R = false) := by unfold Hid; rw [HR.out]; simp [h1]
        clear HR
        go_enter Tryd.func26, Tryd.ntmps26
        go_wp2_with fail
        refine (HL.out _).mono ?_
        rintro _ w1 ⟨rfl, hw⟩
        rw [hw]
        clear hw
        go_wp2
        go_ret
        exact ⟨by rw [HV.out]; rfl, HB0.out⟩
    · have HV : Hid (R = false) := by unfold Hid; rw [HR.out]; simp [h0]
      clear HR
      go_enter Tryd.func26, Tryd.ntmps26
      go_wp2_with fail
      refine (HL.out _).mono ?_
      rintro _ w1 ⟨rfl, hw⟩
      rw [hw]
      clear hw
      go_wp2
      go_ret
      exact ⟨by rw [HV.out]; rfl, HB0.out⟩
theorem wrap_small (n : Int) (h0 : -9223372036854775808 ≤ n) (h1 : n ≤ 9223372036854775807) : IntKind.i64.wrap n = n := by rw [IntKind.wrap_i64]; omega
theorem two_small {n : Nat} (h : n < 10) : twoL n = 48 :: Lib.itoa n := by
  unfold twoL Lib.itoa
  rw [if_neg (by omega), Int.toNat_natCast, dd_small h, show n / 10 = 0 by omega, show n % 10 = n by omega]
  rfl
theorem two_big {n : Nat} (h : 10 ≤ n) (h2 : n < 100) : twoL n = Lib.itoa n := by
  unfold twoL Lib.itoa
  rw [if_neg (by omega), Int.toNat_natCast, dd_big h, dd_small (by omega)]
  rfl
theorem digits_bel (n : Int) (w : World) (h0 : -9223372036854775808 ≤ n) (h1 : n ≤ 9223372036854775807) : Calls Tryd.prog 48 #[.int .i64 n] w fun e w' => e = .returned (.string ⟨(Lib.itoa n).toArray⟩) ∧ Below w.heap.size w w' := by
  refine (digits_any n w h0 h1).mono ?_
  rintro e w' ⟨he, m, rfl⟩
  exact ⟨he, below_drewN (Below.refl _ _) m⟩
theorem rtwo_any (n : Nat) (w : World) (hn : n < 100) : Calls Tryd.prog 49 #[.int .i64 (n : Int)] w fun e w' => e = .returned (.string ⟨(twoL n).toArray⟩) ∧ Below w.heap.size w w' := by
  have HD := hidM (digits_bel n w (by omega) (by omega))
  have hl := itoa_len n (by omega) (by omega)
  by_cases h : n < 10
  · have g : (n : Int) < 10 := by omega
    have HR : Hid ((⟨#[48]⟩ : ByteArray) ++ ⟨(Lib.itoa (n : Int)).toArray⟩ = ⟨(twoL n).toArray⟩) := by
      unfold Hid
      rw [two_small h, show (⟨#[48]⟩ : ByteArray) = ⟨[48].toArray⟩ from rfl, ba_app]; rfl
    have hs : (⟨(Lib.itoa (n : Int)).toArray⟩ : ByteArray).size ≤ 21 := by rw [ba_size]; exact hl
    generalize (⟨(Lib.itoa (n : Int)).toArray⟩ : ByteArray) = I at *
    have n1 : ¬ 9223372036854775807 < 1 + I.size := by omega
    clear hl
    go_enter Tryd.func49, Tryd.ntmps49
    go_wp2_with fail
    refine HD.out.mono ?_
    rintro _ w1 ⟨rfl, hb1⟩
    have HB1 := hidM hb1
    clear hb1
    go_wp2
    go_ret
    exact ⟨by rw [← HR.out]; rfl, HB1.out⟩
  · have g : ¬ (n : Int) < 10 := by omega
    have HR : Hid ((⟨(Lib.itoa (n : Int)).toArray⟩ : ByteArray) = ⟨(twoL n).toArray⟩) := by unfold Hid; rw [two_big (by omega) hn]
    generalize (⟨(Lib.itoa (n : Int)).toArray⟩ : ByteArray) = I at *
    clear hl
    go_enter Tryd.func49, Tryd.ntmps49
    go_wp2_with fail
    refine HD.out.mono ?_
    rintro _ w1 ⟨rfl, hb1⟩
    have HB1 := hidM hb1
    clear hb1
    go_wp2
    go_ret
    exact ⟨by rw [← HR.out]; rfl, HB1.out⟩
set_option maxHeartbeats 2000000 in
set_option maxRecDepth 20000 in
theorem rsign_any (s : Sb) (w : World) (hG : GT w) (h1 : s.who.size ≤ 140737488355328) (h0 : -9223372036854775808 ≤ s.time) (h2 : s.time ≤ 9223372036854775807) (hz : s.zone.natAbs < 6000) :
    Calls Tryd.prog 27 #[sbV s] w fun e w' => e = .returned (.string (sgB s)) ∧ Below w.heap.size w w' := by
  have HR : Hid (sgB s = s.who ++ (⟨#[32]⟩ : ByteArray) ++ ⟨(Lib.itoa s.time).toArray⟩ ++ (⟨#[32]⟩ : ByteArray) ++ (if s.zone < 0 then (⟨#[45]⟩ : ByteArray) else ⟨#[43]⟩) ++ ⟨(twoL (s.zone.natAbs / 60)).toArray⟩ ++ ⟨(twoL (s.zone.natAbs % 60)).toArray⟩) := by
    unfold Hid sgB sgL sgOf zoneL
    apply ByteArray.ext
    split <;> simp [ByteArray.data_append]
  generalize sgB s = R at *
  obtain ⟨who, t, z⟩ := s
  unfold sbV
  simp only at h1 h0 h2 hz HR ⊢
  obtain ⟨n, hn⟩ : ∃ n, z.natAbs = n := ⟨_, rfl⟩
  rw [hn] at HR hz
  have HI := hidM (fun V => digits_bel t V h0 h2)
  have HA := hidM (fun V => rtwo_any (n / 60) V (by omega))
  have HB := hidM (fun V => rtwo_any (n % 60) V (by omega))
  have e1 : (n : Int) / 60 = ((n / 60 : Nat) : Int) := rfl
  have e2 : (n : Int) % 60 = ((n % 60 : Nat) : Int) := rfl
  rw [← e1] at HA
  rw [← e2] at HB
  clear e1 e2
  have wq := wrap_small ((n : Int) / 60) (by omega) (by omega)
  have wt : (n : Int).tmod 60 = (n : Int) % 60 := Int.tmod_eq_emod_of_nonneg (by omega)
  have wm := wrap_small ((n : Int) % 60) (by omega) (by omega)
  have z1 : (⟨(Lib.itoa t).toArray⟩ : ByteArray).size ≤ 21 := by rw [ba_size]; exact itoa_len t h0 h2
  have z2 : (⟨(twoL (n / 60)).toArray⟩ : ByteArray).size ≤ 2 := Nat.le_refl 2
  have z3 : (⟨(twoL (n % 60)).toArray⟩ : ByteArray).size ≤ 2 := Nat.le_refl 2
  generalize (⟨(Lib.itoa t).toArray⟩ : ByteArray) = I at *
  generalize (⟨(twoL (n / 60)).toArray⟩ : ByteArray) = A at *
  generalize (⟨(twoL (n % 60)).toArray⟩ : ByteArray) = B at *
  have HX : Hid (SgX w w.heap.size who t z (w.alloc (.cells #[.string who, .int .i64 t, .int .i64 z] 24))) := ⟨(Below.refl _ w).alloc (Nat.le_refl _) _, heap_alloc_new w _, hG.laid.below ((Below.refl _ w).alloc (Nat.le_refl _) _)⟩
  obtain ⟨Q1, hQ1⟩ : ∃ Q, who ++ (⟨#[32]⟩ : ByteArray) = Q := ⟨_, rfl⟩
  have n0 : ¬ 9223372036854775807 < who.size + 1 := by omega
  have q1 : Q1.size ≤ 140737488355329 := by rw [← hQ1, ByteArray.size_append]; show who.size + 1 ≤ _; omega
  obtain ⟨Q2, hQ2⟩ : ∃ Q, Q1 ++ I = Q := ⟨_, rfl⟩
  have n1 : ¬ 9223372036854775807 < Q1.size + I.size := by omega
  have q2 : Q2.size ≤ 140737488355350 := by rw [← hQ2, ByteArray.size_append]; omega
  obtain ⟨Q3, hQ3⟩ : ∃ Q, Q2 ++ (⟨#[32]⟩ : ByteArray) = Q := ⟨_, rfl⟩
  have n2 : ¬ 9223372036854775807 < Q2.size + 1 := by omega
  have q3 : Q3.size ≤ 140737488355351 := by rw [← hQ3, ByteArray.size_append]; show Q2.size + 1 ≤ _; omega
  have n3 : ¬ 9223372036854775807 < Q3.size + 1 := by omega
  rw [hQ1, hQ2, hQ3] at HR
  have HI2 : Hid (∀ V, Hid (SgX w w.heap.size who t z V) → _) := fun V hV => SgX.call (HI.out V) hV
  have HA2 : Hid (∀ V, Hid (SgX w w.heap.size who t z V) → _) := fun V hV => SgX.call (HA.out V) hV
  have HB2 : Hid (∀ V, Hid (SgX w w.heap.size who t z V) → _) := fun V hV => SgX.call (HB.out V) hV
  clear HI HA HB hG
  by_cases hneg : z < 0
  · rw [if_pos hneg] at HR
    obtain rfl : z = -(n : Int) := by omega
    obtain ⟨Q4, hQ4⟩ : ∃ Q, Q3 ++ (⟨#[45]⟩ : ByteArray) = Q := ⟨_, rfl⟩
    have q4 : Q4.size ≤ 140737488355352 := by rw [← hQ4, ByteArray.size_append]; show Q3.size + 1 ≤ _; omega
    obtain ⟨Q5, hQ5⟩ : ∃ Q, Q4 ++ A = Q := ⟨_, rfl⟩
    have n4 : ¬ 9223372036854775807 < Q4.size + A.size := by omega
    have q5 : Q5.size ≤ 140737488355354 := by rw [← hQ5, ByteArray.size_append]; omega
    have n5 : ¬ 9223372036854775807 < Q5.size + B.size := by omega
    rw [hQ4, hQ5] at HR
    go_enter Tryd.func27, Tryd.ntmps27
    go_wp2_with fail
    generalize w.alloc (.cells #[.string who, .int .i64 t, .int .i64 (-(n : Int))] 24) = W at *
    obtain ⟨X, hX⟩ : ∃ X, w.heap.size = X := ⟨_, rfl⟩
    rw [hX] at HX HI2 HA2 HB2
    rw [hX]
    obtain ⟨c0, c1, c2, _⟩ := SgX.full HX.out
    go_region_held3 (fun w' => w'.cell? ⟨X, 0, none⟩ = some (.string who) ∧ w'.cell? ⟨X, 1, none⟩ = some (.int .i64 t) ∧ w'.cell? ⟨X, 2, none⟩ = some (.int .i64 (-(n : Int))) ∧ Hid (SgX w X who t (-(n : Int)) w'))
      (first | exact hS3 | exact hS2 | exact hS1 | exact SgX.full (Hid.out (by repeat (first | exact hS3.2.2.2 | exact hS2.2.2.2 | exact hS1.2.2.2 | exact HX | apply SgX.drew | apply SgX.drewN))))
      (first
        | (go_at_call 48; with_reducible refine (HI2.out _ (by repeat (first | exact hS3.2.2.2 | exact hS2.2.2.2 | exact hS1.2.2.2 | exact HX | apply SgX.drew | apply SgX.drewN))).mono ?_; rintro _ v1 ⟨rfl, hS1⟩)
        | (go_at_call 49; first | (with_reducible refine (HA2.out _ (by repeat (first | exact hS3.2.2.2 | exact hS2.2.2.2 | exact hS1.2.2.2 | exact HX | apply SgX.drew | apply SgX.drewN))).mono ?_; rintro _ v2 ⟨rfl, hS2⟩) | (with_reducible refine (HB2.out _ (by repeat (first | exact hS3.2.2.2 | exact hS2.2.2.2 | exact hS1.2.2.2 | exact HX | apply SgX.drew | apply SgX.drewN))).mono ?_; rintro _ v3 ⟨rfl, hS3⟩)))
    all_goals (go_wp2; go_ret)
    all_goals exact ⟨by rw [HR.out]; rfl, hS3.2.2.2.out.bel⟩
  · rw [if_neg hneg] at HR
    obtain rfl : z = (n : Int) := by omega
    obtain ⟨Q4, hQ4⟩ : ∃ Q, Q3 ++ (⟨#[43]⟩ : ByteArray) = Q := ⟨_, rfl⟩
    have q4 : Q4.size ≤ 140737488355352 := by rw [← hQ4, ByteArray.size_append]; show Q3.size + 1 ≤ _; omega
    obtain ⟨Q5, hQ5⟩ : ∃ Q, Q4 ++ A = Q := ⟨_, rfl⟩
    have n4 : ¬ 9223372036854775807 < Q4.size + A.size := by omega
    have q5 : Q5.size ≤ 140737488355354 := by rw [← hQ5, ByteArray.size_append]; omega
    have n5 : ¬ 9223372036854775807 < Q5.size + B.size := by omega
    rw [hQ4, hQ5] at HR
    go_enter Tryd.func27, Tryd.ntmps27
    go_wp2_with fail
    generalize w.alloc (.cells #[.string who, .int .i64 t, .int .i64 ((n : Int))] 24) = W at *
    obtain ⟨X, hX⟩ : ∃ X, w.heap.size = X := ⟨_, rfl⟩
    rw [hX] at HX HI2 HA2 HB2
    rw [hX]
    obtain ⟨c0, c1, c2, _⟩ := SgX.full HX.out
    go_region_held3 (fun w' => w'.cell? ⟨X, 0, none⟩ = some (.string who) ∧ w'.cell? ⟨X, 1, none⟩ = some (.int .i64 t) ∧ w'.cell? ⟨X, 2, none⟩ = some (.int .i64 ((n : Int))) ∧ Hid (SgX w X who t ((n : Int)) w'))
      (first | exact hS3 | exact hS2 | exact hS1 | exact SgX.full (Hid.out (by repeat (first | exact hS3.2.2.2 | exact hS2.2.2.2 | exact hS1.2.2.2 | exact HX | apply SgX.drew | apply SgX.drewN))))
      (first
        | (go_at_call 48; with_reducible refine (HI2.out _ (by repeat (first | exact hS3.2.2.2 | exact hS2.2.2.2 | exact hS1.2.2.2 | exact HX | apply SgX.drew | apply SgX.drewN))).mono ?_; rintro _ v1 ⟨rfl, hS1⟩)
        | (go_at_call 49; first | (with_reducible refine (HA2.out _ (by repeat (first | exact hS3.2.2.2 | exact hS2.2.2.2 | exact hS1.2.2.2 | exact HX | apply SgX.drew | apply SgX.drewN))).mono ?_; rintro _ v2 ⟨rfl, hS2⟩) | (with_reducible refine (HB2.out _ (by repeat (first | exact hS3.2.2.2 | exact hS2.2.2.2 | exact hS1.2.2.2 | exact HX | apply SgX.drew | apply SgX.drewN))).mono ?_; rintro _ v3 ⟨rfl, hS3⟩)))
    all_goals (go_wp2; go_ret)
    all_goals exact ⟨by rw [HR.out]; rfl, hS3.2.2.2.out.bel⟩
end Go.Proofs.YtbghailohnppmaaDoor
namespace Go.Proofs.YtbghailohnppmaaDoor
open Go.RowKit

theorem GT.five {w : World} (h : GT w) : 5 ≤ w.heap.size := by
  obtain ⟨a, c, h4⟩ := h.e4
  have := World.block_lt_of_cell? w _ h4
  show 4 < _
  exact this
def idL : List UInt8 := [52, 98, 56, 50, 53, 100, 99, 54, 52, 50, 99, 98, 54, 101, 98, 57, 97, 48, 54, 48, 101, 53, 52, 98, 102, 56, 100, 54, 57, 50, 56, 56, 102, 98, 101, 101, 52, 57, 48, 52]
def sgA : Sg := ⟨[97, 110, 110, 32, 60, 97, 62], 0, 90⟩
def sgC : Sg := ⟨[97, 110, 110], 7, 0⟩
def cmA : Cm := ⟨idL, [], sgA, sgC, [104, 105]⟩
theorem itoa0 : Lib.itoa 0 = [48] := by
  unfold Lib.itoa
  rw [if_neg (by decide), show (0 : Int).toNat = 0 from rfl, dd_small (by decide)]; rfl
theorem itoa7 : Lib.itoa 7 = [55] := by
  unfold Lib.itoa
  rw [if_neg (by decide), show (7 : Int).toNat = 7 from rfl, dd_small (by decide)]; rfl
theorem sgA_ok : SgOk sgA := ⟨by decide, by decide, by decide, by decide⟩
theorem sgC_ok : SgOk sgC := ⟨by decide, by decide, by decide, by decide⟩
theorem sgA_text : sgL sgA = [97, 110, 110, 32, 60, 97, 62, 32, 48, 32, 43, 48, 49, 51, 48] := by unfold sgL sgA; simp only; rw [itoa0]; decide +kernel
theorem sgC_text : sgL sgC = [97, 110, 110, 32, 55, 32, 43, 48, 48, 48, 48] := by unfold sgL sgC; simp only; rw [itoa7]; decide +kernel
def aw1 : List UInt8 := [116, 114, 101, 101, 32, 52, 98, 56, 50, 53, 100, 99, 54, 52, 50, 99, 98, 54, 101, 98, 57, 97, 48, 54, 48, 101, 53, 52, 98, 102, 56, 100, 54, 57, 50, 56, 56, 102, 98, 101, 101, 52, 57, 48, 52, 10, 97, 117, 116, 104, 111, 114, 32, 97, 110, 110, 32, 60, 97, 62, 32, 48, 32, 43, 48, 49, 51, 48, 10, 99, 111, 109, 109, 105, 116, 116, 101, 114, 32, 97, 110, 110, 32, 55, 32, 45, 48, 48, 48, 48, 10, 10, 104, 105]
def aw2 : List UInt8 := [116, 114, 101, 101, 32, 52, 98, 56, 50, 53, 100, 99, 54, 52, 50, 99, 98, 54, 101, 98, 57, 97, 48, 54, 48, 101, 53, 52, 98, 102, 56, 100, 54, 57, 50, 56, 56, 102, 98, 101, 101, 52, 57, 48, 52, 10, 97, 117, 116, 104, 111, 114, 32, 97, 110, 110, 32, 60, 97, 62, 32, 48, 32, 43, 48, 49, 51, 48, 10, 99, 111, 109, 109, 105, 116, 116, 101, 114, 32, 97, 110, 110, 32, 55, 32, 43, 48, 48, 48, 48, 10, 10, 104, 105]
theorem aw2_text : textL cmA = aw2 := by
  unfold textL cmA
  simp only
  rw [sgA_text, sgC_text]
  decide +kernel
theorem aw2_change : changeP aw2 = some cmA := by
  rw [← aw2_text]
  exact changeP_mk ⟨by decide, by decide, sgA_ok, sgC_ok⟩
def r2A : List UInt8 := [99, 111, 109, 109, 105, 116, 116, 101, 114, 32, 97, 110, 110, 32, 55, 32, 45, 48, 48, 48, 48, 10, 10, 104, 105]
theorem r2A_bad : signLn wCommitter r2A = none := by
  unfold signLn
  rw [show lineP wCommitter r2A = some ([97, 110, 110, 32, 55, 32, 45, 48, 48, 48, 48], [10, 104, 105]) by decide +kernel]
  simp only
  unfold signP
  rw [show last1 32 [97, 110, 110, 32, 55, 32, 45, 48, 48, 48, 48] = some ([97, 110, 110, 32, 55], [45, 48, 48, 48, 48]) by decide +kernel]
  simp only
  rw [show last1 32 [97, 110, 110, 32, 55] = some ([97, 110, 110], [55]) by decide +kernel]
  simp only
  rw [show minP [45, 48, 48, 48, 48] = none by decide +kernel]
  cases timeP [55] <;> rfl
theorem aw1_lines : aw1 = wTree ++ idL ++ 10 :: (wAuthor ++ sgL sgA ++ 10 :: r2A) := by
  rw [sgA_text]
  decide +kernel
theorem aw1_change : changeP aw1 = none := by
  rw [aw1_lines]
  unfold changeP
  rw [lineP_mk (by decide) (by decide)]
  simp only
  rw [show parsL (wAuthor ++ sgL sgA ++ 10 :: r2A) = some ([], wAuthor ++ sgL sgA ++ 10 :: r2A) from parsL_mk [] _ (by simp) (by have := author_no (sgL sgA ++ 10 :: r2A); rwa [← List.append_assoc] at this)]
  simp only
  rw [signLn_mk sgA_ok (by decide)]
  simp only
  rw [r2A_bad]
theorem few_small {s : ByteArray} (h : s.size ≤ 1000000000) : FewPar s := fun t r0 h' => by
  have := lineP_len h'
  rw [sl_len] at this
  exact .inl (by omega)
theorem aw1_any (w : World) (hG : GT w) : Calls Tryd.prog 17 #[.string ⟨aw1.toArray⟩] w fun e w' => e = .returned (.tuple #[.agg #[.string ⟨#[]⟩, .slice none 0 0, .string ⟨#[]⟩, .int .i64 0, .int .i64 0, .string ⟨#[]⟩, .int .i64 0, .int .i64 0, .string ⟨#[]⟩], .int .i64 3]) ∧ Below w.heap.size w w' := by
  have hp : parE ⟨aw1.toArray⟩ = 3 := by unfold parE; rw [show (⟨aw1.toArray⟩ : ByteArray).data.toList = aw1 from rfl, aw1_change]
  refine (parse_any ⟨aw1.toArray⟩ w hG (by decide +kernel) (few_small (by decide +kernel)) hG.five).mono ?_
  rintro e w' ⟨hb, h⟩
  refine ⟨?_, hb⟩
  rcases h with ⟨-, h⟩ | ⟨h, -⟩
  · rw [h, hp]; rfl
  · rw [hp] at h; cases h
theorem aw2_any (w : World) (hG : GT w) : Calls Tryd.prog 17 #[.string ⟨aw2.toArray⟩] w fun e w' => ∃ pa pn pc, e = .returned (.tuple #[.agg #[.string ⟨#[52, 98, 56, 50, 53, 100, 99, 54, 52, 50, 99, 98, 54, 101, 98, 57, 97, 48, 54, 48, 101, 53, 52, 98, 102, 56, 100, 54, 57, 50, 56, 56, 102, 98, 101, 101, 52, 57, 48, 52]⟩, .slice pa pn pc, .string ⟨#[97, 110, 110, 32, 60, 97, 62]⟩, .int .i64 0, .int .i64 90, .string ⟨#[97, 110, 110]⟩, .int .i64 7, .int .i64 0, .string ⟨#[104, 105]⟩], .int .i64 0]) ∧ Below w.heap.size w w' := by
  have hc : changeP (⟨aw2.toArray⟩ : ByteArray).data.toList = some cmA := aw2_change
  have hp : parE ⟨aw2.toArray⟩ = 0 := by unfold parE; rw [hc]; decide +kernel
  refine (parse_any ⟨aw2.toArray⟩ w hG (by decide +kernel) (few_small (by decide +kernel)) hG.five).mono ?_
  rintro e w' ⟨hb, h⟩
  rcases h with ⟨h, -⟩ | ⟨-, c, pv, h1, h2, h3⟩
  · exact absurd hp h
  · rw [hc] at h1
    injection h1 with h1
    subst h1
    obtain ⟨va, vn, vc, hpv⟩ := h3.slice
    subst hpv
    exact ⟨va, vn, vc, h2, hb⟩
set_option maxHeartbeats 2000000 in
set_option maxRecDepth 100000 in
theorem awake_any (w : World) (hG : GT w) : Calls Tryd.prog 12 #[] w fun e w' => e = .returned (.bool true) ∧ Below w.heap.size w w' := by
  have HA := hidM (fun V hV => aw1_any V hV)
  have HB := hidM (fun V hV => aw2_any V hV)
  have HG := hidM hG
  obtain ⟨X1, hX1⟩ : ∃ Q, (⟨#[116, 114, 101, 101, 32]⟩ : ByteArray) ++ (⟨#[52, 98, 56, 50, 53, 100, 99, 54, 52, 50, 99, 98, 54, 101, 98, 57, 97, 48, 54, 48, 101, 53, 52, 98, 102, 56, 100, 54, 57, 50, 56, 56, 102, 98, 101, 101, 52, 57, 48, 52]⟩ : ByteArray) = Q := ⟨_, rfl⟩
  have x1 : X1.size = 45 := by rw [← hX1]; decide +kernel
  have hS1 : X1 ++ (⟨#[10, 97, 117, 116, 104, 111, 114, 32, 97, 110, 110, 32, 60, 97, 62, 32, 48, 32, 43, 48, 49, 51, 48, 10, 99, 111, 109, 109, 105, 116, 116, 101, 114, 32, 97, 110, 110, 32, 55, 32, 45, 48, 48, 48, 48, 10, 10, 104, 105]⟩ : ByteArray) = ⟨aw1.toArray⟩ := by rw [← hX1]; decide +kernel
  have hS2 : X1 ++ (⟨#[10, 97, 117, 116, 104, 111, 114, 32, 97, 110, 110, 32, 60, 97, 62, 32, 48, 32, 43, 48, 49, 51, 48, 10, 99, 111, 109, 109, 105, 116, 116, 101, 114, 32, 97, 110, 110, 32, 55, 32, 43, 48, 48, 48, 48, 10, 10, 104, 105]⟩ : ByteArray) = ⟨aw2.toArray⟩ := by rw [← hX1]; decide +kernel
  obtain ⟨S1, hs1⟩ : ∃ S, S = (⟨aw1.toArray⟩ : ByteArray) := ⟨_, rfl⟩
  obtain ⟨S2, hs2⟩ : ∃ S, S = (⟨aw2.toArray⟩ : ByteArray) := ⟨_, rfl⟩
  rw [← hs1] at hS1 HA
  rw [← hs2] at hS2 HB
  clear hs1 hs2 hG
  go_enter Tryd.func12, Tryd.ntmps12
  go_wp2_with fail
  refine (HA.out _ HG.out).mono ?_
  rintro _ w1 ⟨rfl, hb1⟩
  have HB1 := hidM (hb1.trans ((Below.refl w1.heap.size w1).alloc (Nat.le_refl _) (.cells #[.string ⟨#[]⟩, .slice none 0 0, .string ⟨#[]⟩, .int .i64 0, .int .i64 0, .string ⟨#[]⟩, .int .i64 0, .int .i64 0, .string ⟨#[]⟩] 26) |>.mono hb1.size))
  have HG1 := hidM (HG.out.below HB1.out)
  have C1 : Hid ((w1.alloc (.cells #[.string ⟨#[]⟩, .slice none 0 0, .string ⟨#[]⟩, .int .i64 0, .int .i64 0, .string ⟨#[]⟩, .int .i64 0, .int .i64 0, .string ⟨#[]⟩] 26)).heap[w1.heap.size]? = some (.cells #[.string ⟨#[]⟩, .slice none 0 0, .string ⟨#[]⟩, .int .i64 0, .int .i64 0, .string ⟨#[]⟩, .int .i64 0, .int .i64 0, .string ⟨#[]⟩] 26 (0, 0))) := heap_alloc_new w1 _
  clear hb1
  go_upto_region 3 with fail
  generalize w1.alloc (.cells #[.string ⟨#[]⟩, .slice none 0 0, .string ⟨#[]⟩, .int .i64 0, .int .i64 0, .string ⟨#[]⟩, .int .i64 0, .int .i64 0, .string ⟨#[]⟩] 26) = W1 at *
  generalize w1.heap.size = g1 at *
  go_wp2_with fail
  refine (HB.out _ HG1.out).mono ?_
  rintro _ w2 ⟨pa, pn, pc, rfl, hb2⟩
  have C2 := hidM (box_bel C1.out hb2)
  have lt1 := hidM (World.block_lt_of_cell? w2 ⟨g1, 0, none⟩ (by rw [cell_of_row w2 g1 _ _ 26 (0, 0) C2.out]; rfl))
  have HB2 := hidM (HB1.out.trans (hb2.mono HB1.out.size))
  have HB3 := hidM (HB2.out.trans ((Below.refl w2.heap.size w2).alloc (Nat.le_refl _) (.cells #[.string ⟨#[52, 98, 56, 50, 53, 100, 99, 54, 52, 50, 99, 98, 54, 101, 98, 57, 97, 48, 54, 48, 101, 53, 52, 98, 102, 56, 100, 54, 57, 50, 56, 56, 102, 98, 101, 101, 52, 57, 48, 52]⟩, .slice pa pn pc, .string ⟨#[97, 110, 110, 32, 60, 97, 62]⟩, .int .i64 0, .int .i64 90, .string ⟨#[97, 110, 110]⟩, .int .i64 7, .int .i64 0, .string ⟨#[104, 105]⟩] 26) |>.mono HB2.out.size))
  have D1 : Hid ((w2.alloc (.cells #[.string ⟨#[52, 98, 56, 50, 53, 100, 99, 54, 52, 50, 99, 98, 54, 101, 98, 57, 97, 48, 54, 48, 101, 53, 52, 98, 102, 56, 100, 54, 57, 50, 56, 56, 102, 98, 101, 101, 52, 57, 48, 52]⟩, .slice pa pn pc, .string ⟨#[97, 110, 110, 32, 60, 97, 62]⟩, .int .i64 0, .int .i64 90, .string ⟨#[97, 110, 110]⟩, .int .i64 7, .int .i64 0, .string ⟨#[104, 105]⟩] 26)).heap[g1]? = some (.cells #[.string ⟨#[]⟩, .slice none 0 0, .string ⟨#[]⟩, .int .i64 0, .int .i64 0, .string ⟨#[]⟩, .int .i64 0, .int .i64 0, .string ⟨#[]⟩] 26 (0, 0))) := box_bel C2.out ((Below.refl w2.heap.size w2).alloc (Nat.le_refl _) _)
  have D2 : Hid ((w2.alloc (.cells #[.string ⟨#[52, 98, 56, 50, 53, 100, 99, 54, 52, 50, 99, 98, 54, 101, 98, 57, 97, 48, 54, 48, 101, 53, 52, 98, 102, 56, 100, 54, 57, 50, 56, 56, 102, 98, 101, 101, 52, 57, 48, 52]⟩, .slice pa pn pc, .string ⟨#[97, 110, 110, 32, 60, 97, 62]⟩, .int .i64 0, .int .i64 90, .string ⟨#[97, 110, 110]⟩, .int .i64 7, .int .i64 0, .string ⟨#[104, 105]⟩] 26)).heap[w2.heap.size]? = some (.cells #[.string ⟨#[52, 98, 56, 50, 53, 100, 99, 54, 52, 50, 99, 98, 54, 101, 98, 57, 97, 48, 54, 48, 101, 53, 52, 98, 102, 56, 100, 54, 57, 50, 56, 56, 102, 98, 101, 101, 52, 57, 48, 52]⟩, .slice pa pn pc, .string ⟨#[97, 110, 110, 32, 60, 97, 62]⟩, .int .i64 0, .int .i64 90, .string ⟨#[97, 110, 110]⟩, .int .i64 7, .int .i64 0, .string ⟨#[104, 105]⟩] 26 (0, 0))) := heap_alloc_new w2 _
  clear hb2 C2 HB2
  go_upto_region 4 with fail
  generalize w2.alloc (.cells #[.string ⟨#[52, 98, 56, 50, 53, 100, 99, 54, 52, 50, 99, 98, 54, 101, 98, 57, 97, 48, 54, 48, 101, 53, 52, 98, 102, 56, 100, 54, 57, 50, 56, 56, 102, 98, 101, 101, 52, 57, 48, 52]⟩, .slice pa pn pc, .string ⟨#[97, 110, 110, 32, 60, 97, 62]⟩, .int .i64 0, .int .i64 90, .string ⟨#[97, 110, 110]⟩, .int .i64 7, .int .i64 0, .string ⟨#[104, 105]⟩] 26) = W2 at *
  generalize w2.heap.size = g2 at *
  have k0 : W2.cell? ⟨g1, 0, none⟩ = some (.string ⟨#[]⟩) := by rw [cell_of_row W2 g1 _ _ 26 (0, 0) D1.out]; rfl
  have m3 : W2.cell? ⟨g2, 3, none⟩ = some (.int .i64 0) := by rw [cell_of_row W2 g2 _ _ 26 (0, 0) D2.out]; rfl
  have m4 : W2.cell? ⟨g2, 4, none⟩ = some (.int .i64 90) := by rw [cell_of_row W2 g2 _ _ 26 (0, 0) D2.out]; rfl
  have m2 : W2.cell? ⟨g2, 2, none⟩ = some (.string ⟨#[97, 110, 110, 32, 60, 97, 62]⟩) := by rw [cell_of_row W2 g2 _ _ 26 (0, 0) D2.out]; rfl
  have m6 : W2.cell? ⟨g2, 6, none⟩ = some (.int .i64 7) := by rw [cell_of_row W2 g2 _ _ 26 (0, 0) D2.out]; rfl
  have m8 : W2.cell? ⟨g2, 8, none⟩ = some (.string ⟨#[104, 105]⟩) := by rw [cell_of_row W2 g2 _ _ 26 (0, 0) D2.out]; rfl
  go_wp2
  go_ret
  exact ⟨rfl, HB3.out⟩
end Go.Proofs.YtbghailohnppmaaDoor
namespace Go.Proofs.YtbghailohnppmaaDoor
open Go.RowKit

theorem bytes_ext {a b : ByteArray} (h : a.data.toList = b.data.toList) : a = b := ByteArray.ext (Array.toList_inj.1 h)
theorem lineB_no {l : List UInt8} (h : lineB l = true) : (10 : UInt8) ∉ l := by
  unfold lineB at h
  simp only [Bool.and_eq_true, Bool.not_eq_true', List.contains_eq_mem, decide_eq_false_iff_not] at h
  exact h.1.2
theorem idB_nl {l : List UInt8} (h : idB l = true) : (10 : UInt8) ∉ l := by
  intro hm
  unfold idB at h
  simp only [Bool.and_eq_true, List.all_eq_true] at h
  have := h.1 10 hm
  revert this
  decide
theorem sg_ok {s : Sb} (h : signedG (sgOf s) = true) : SgOk (sgOf s) := by
  obtain ⟨_, h2, h3, h4, h5, h6⟩ := signed_facts h
  exact ⟨lineB_no h2, by show _ ≤ s.time; omega, by show s.time ≤ _; omega, by show s.zone.natAbs < _; omega⟩
theorem held24 : Tryd.prog.stoodInHeld 24 = false := by kernel_rfl
theorem struct24 : Tryd.prog.underlying 24 = some (.struct (Tryd.prog.fieldsOf 24)) := by kernel_rfl
theorem fields24 : (Tryd.prog.fieldsOf 24).toList.map (fun f => (f.name, f.type, f.offset)) = [("Who", 9, 0), ("Time", 3, 1), ("Zone", 3, 2)] := by kernel_rfl
/-- the sign's box and the read commit's -/
structure SnX (w : World) (B : Nat) (who : ByteArray) (t z : Int) (g : Nat) (row : Array Value) (V : World) : Prop where
  sg : SgX w B who t z V
  box : V.heap[g]? = some (.cells row 26 (0, 0))
theorem SnX.next {w V w' : World} {B g : Nat} {who : ByteArray} {t z : Int} {row : Array Value} (H : SnX w B who t z g row V) (hb : Below V.heap.size V w') : SnX w B who t z g row w' := ⟨H.sg.next hb, box_bel H.box hb⟩
theorem SnX.drew {w V : World} {B g : Nat} {who : ByteArray} {t z : Int} {row : Array Value} (H : Hid (SnX w B who t z g row V)) : Hid (SnX w B who t z g row V.drew) := H.out.next ((Below.refl _ V).trans ⟨rfl, rfl, rfl, Nat.le_refl _, fun _ _ => rfl⟩)
theorem SnX.drewN {w V : World} {B g : Nat} {who : ByteArray} {t z : Int} {row : Array Value} {m : Nat} (H : Hid (SnX w B who t z g row V)) : Hid (SnX w B who t z g row (V.drewN m)) := H.out.next (below_drewN (Below.refl _ _) m)
theorem SnX.full {w V : World} {B g : Nat} {who : ByteArray} {t z : Int} {row : Array Value} (H : SnX w B who t z g row V) : V.cell? ⟨B, 0, none⟩ = some (.string who) ∧ V.cell? ⟨B, 1, none⟩ = some (.int .i64 t) ∧ V.cell? ⟨B, 2, none⟩ = some (.int .i64 z) ∧ Hid (SnX w B who t z g row V) := by
  obtain ⟨a, b, c, _⟩ := SgX.full H.sg
  exact ⟨a, b, c, H⟩
theorem SnX.cell {w V : World} {B g : Nat} {who : ByteArray} {t z : Int} {row : Array Value} (H : SnX w B who t z g row V) (i : Nat) {v : Value} (hv : row[i]? = some v) : V.cell? ⟨g, i, none⟩ = some v := by
  rw [cell_of_row V g _ _ 26 (0, 0) H.box]; exact hv
theorem SnX.call {w V : World} {B f g : Nat} {who : ByteArray} {t z : Int} {row : Array Value} {args : Array Value} {v : Value} (h : Calls Tryd.prog f args V fun x w' => x = .returned v ∧ Below V.heap.size V w') (H : Hid (SnX w B who t z g row V)) :
    Calls Tryd.prog f args V fun x w' => x = .returned v ∧ (w'.cell? ⟨B, 0, none⟩ = some (.string who) ∧ w'.cell? ⟨B, 1, none⟩ = some (.int .i64 t) ∧ w'.cell? ⟨B, 2, none⟩ = some (.int .i64 z) ∧ Hid (SnX w B who t z g row w')) := by
  refine h.mono ?_
  rintro x w' ⟨e, hb⟩
  exact ⟨e, SnX.full (H.out.next hb)⟩
end Go.Proofs.YtbghailohnppmaaDoor
namespace Go.Proofs.YtbghailohnppmaaDoor
open Go.RowKit

theorem own_row {V : World} {B k : Nat} {pv : Value} {l : List ByteArray} {c : Array Value} (h : OwnS V B pv l) (hk : k < B) : OwnS (V.setRow k c) B pv l := by
  obtain ⟨hl, h2⟩ := h
  refine ⟨hl, ?_⟩
  rcases h2 with h2 | ⟨g, cap, cur, rfl, hBg, hg, hr⟩
  · exact .inl h2
  · exact .inr ⟨g, cap, cur, rfl, hBg, (setRow_other V k g c (by omega)).trans hg, hr⟩
end Go.Proofs.YtbghailohnppmaaDoor
