/-
  The law of ways: GraphWays.
-/
import Derived.Test.YthgmabbnmoembaaDoorGraO
namespace Go.Proofs.YthgmabbnmoembaaDoor
open Go.RowKit

theorem way_step {x y u v k : Nat} (hx : x ≤ 40) (hu : u ≤ 40) (hyv : y ≤ v) (hv : v ≤ 200) (hlt : k < wayN x y u v) :
    wayX x u (v - y) k ≤ 240 ∧ wayY y v k ≤ 240 ∧ wayX x u (v - y) (k + 1) ≤ 240 ∧ wayY y v (k + 1) ≤ 240 ∧
    ((wayY y v k < v ∧ wayX x u (v - y) (k + 1) = wayX x u (v - y) k ∧ wayY y v (k + 1) = wayY y v k + 1) ∨
     (¬ wayY y v k < v ∧ wayX x u (v - y) k < u ∧ wayX x u (v - y) (k + 1) = wayX x u (v - y) k + 1 ∧ wayY y v k = wayY y v (k + 1)) ∨
     (¬ wayY y v k < v ∧ ¬ wayX x u (v - y) k < u ∧ wayX x u (v - y) k = wayX x u (v - y) (k + 1) + 1 ∧ wayY y v k = wayY y v (k + 1))) := by
  unfold wayN at hlt
  unfold wayX wayY
  by_cases h1 : k ≤ v - y
  · by_cases h2 : k + 1 ≤ v - y
    · simp only [if_pos h1, if_pos h2]
      refine ⟨by first | omega | trivial | (simp; done) | (simp; omega), by first | omega | trivial | (simp; done) | (simp; omega), by first | omega | trivial | (simp; done) | (simp; omega), by first | omega | trivial | (simp; done) | (simp; omega), .inl ⟨by first | omega | trivial | (simp; done) | (simp; omega), trivial, by first | omega | trivial | (simp; done) | (simp; omega)⟩⟩
    · by_cases h3 : x < u
      · simp only [if_pos h1, if_neg h2, if_pos h3] at hlt ⊢
        refine ⟨by first | omega | trivial | (simp; done) | (simp; omega), by first | omega | trivial | (simp; done) | (simp; omega), by first | omega | trivial | (simp; done) | (simp; omega), by first | omega | trivial | (simp; done) | (simp; omega), .inr (.inl ⟨by first | omega | trivial | (simp; done) | (simp; omega), by first | omega | trivial | (simp; done) | (simp; omega), by first | omega | trivial | (simp; done) | (simp; omega), by first | omega | trivial | (simp; done) | (simp; omega)⟩)⟩
      · simp only [if_pos h1, if_neg h2, if_neg h3] at hlt ⊢
        refine ⟨by first | omega | trivial | (simp; done) | (simp; omega), by first | omega | trivial | (simp; done) | (simp; omega), by first | omega | trivial | (simp; done) | (simp; omega), by first | omega | trivial | (simp; done) | (simp; omega), .inr (.inr ⟨by first | omega | trivial | (simp; done) | (simp; omega), by first | omega | trivial | (simp; done) | (simp; omega), by first | omega | trivial | (simp; done) | (simp; omega), by first | omega | trivial | (simp; done) | (simp; omega)⟩)⟩
  · have h2 : ¬ k + 1 ≤ v - y := by omega
    by_cases h3 : x < u
    · simp only [if_neg h1, if_neg h2, if_pos h3] at hlt ⊢
      refine ⟨by first | omega | trivial | (simp; done) | (simp; omega), by first | omega | trivial | (simp; done) | (simp; omega), by first | omega | trivial | (simp; done) | (simp; omega), by first | omega | trivial | (simp; done) | (simp; omega), .inr (.inl ⟨by first | omega | trivial | (simp; done) | (simp; omega), by first | omega | trivial | (simp; done) | (simp; omega), by first | omega | trivial | (simp; done) | (simp; omega), by first | omega | trivial | (simp; done) | (simp; omega)⟩)⟩
    · simp only [if_neg h1, if_neg h2, if_neg h3] at hlt ⊢
      refine ⟨by first | omega | trivial | (simp; done) | (simp; omega), by first | omega | trivial | (simp; done) | (simp; omega), by first | omega | trivial | (simp; done) | (simp; omega), by first | omega | trivial | (simp; done) | (simp; omega), .inr (.inr ⟨by first | omega | trivial | (simp; done) | (simp; omega), by first | omega | trivial | (simp; done) | (simp; omega), by first | omega | trivial | (simp; done) | (simp; omega), by first | omega | trivial | (simp; done) | (simp; omega)⟩)⟩
set_option maxHeartbeats 8000000 in
set_option maxRecDepth 50000 in
theorem graphWays_any (x y u v : Int) (w : World) :
    Calls Tryd.prog 4 #[.int .i64 x, .int .i64 y, .int .i64 u, .int .i64 v] w fun e w' => e = .returned (.bool true) ∧ Below w.heap.size w w' := by
  by_cases c0 : x < 0
  · have d0 : decide (x < 0) = true := by simpa using c0
    go_enter Tryd.func4, Tryd.ntmps4
    go_wp2_with fail
    refine (awake_any w).mono ?_
    rintro _ w1 ⟨rfl, hb1⟩
    have HB1 := hidM hb1
    clear hb1
    go_wp2
    go_ret
    exact ⟨rfl, HB1.out⟩
  · have d0 : decide (x < 0) = false := by simpa using c0
    by_cases c1 : 40 < x
    · have d1 : decide (40 < x) = true := by simpa using c1
      go_enter Tryd.func4, Tryd.ntmps4
      go_wp2_with fail
      refine (awake_any w).mono ?_
      rintro _ w1 ⟨rfl, hb1⟩
      have HB1 := hidM hb1
      clear hb1
      go_wp2
      go_ret
      exact ⟨rfl, HB1.out⟩
    · have d1 : decide (40 < x) = false := by simpa using c1
      by_cases c2 : u < 0
      · have d2 : decide (u < 0) = true := by simpa using c2
        go_enter Tryd.func4, Tryd.ntmps4
        go_wp2_with fail
        refine (awake_any w).mono ?_
        rintro _ w1 ⟨rfl, hb1⟩
        have HB1 := hidM hb1
        clear hb1
        go_wp2
        go_ret
        exact ⟨rfl, HB1.out⟩
      · have d2 : decide (u < 0) = false := by simpa using c2
        by_cases c3 : 40 < u
        · have d3 : decide (40 < u) = true := by simpa using c3
          go_enter Tryd.func4, Tryd.ntmps4
          go_wp2_with fail
          refine (awake_any w).mono ?_
          rintro _ w1 ⟨rfl, hb1⟩
          have HB1 := hidM hb1
          clear hb1
          go_wp2
          go_ret
          exact ⟨rfl, HB1.out⟩
        · have d3 : decide (40 < u) = false := by simpa using c3
          by_cases c4 : y < 0
          · have d4 : decide (y < 0) = true := by simpa using c4
            go_enter Tryd.func4, Tryd.ntmps4
            go_wp2_with fail
            refine (awake_any w).mono ?_
            rintro _ w1 ⟨rfl, hb1⟩
            have HB1 := hidM hb1
            clear hb1
            go_wp2
            go_ret
            exact ⟨rfl, HB1.out⟩
          · have d4 : decide (y < 0) = false := by simpa using c4
            by_cases c5 : 200 < v
            · have d5 : decide (200 < v) = true := by simpa using c5
              go_enter Tryd.func4, Tryd.ntmps4
              go_wp2_with fail
              refine (awake_any w).mono ?_
              rintro _ w1 ⟨rfl, hb1⟩
              have HB1 := hidM hb1
              clear hb1
              go_wp2
              go_ret
              exact ⟨rfl, HB1.out⟩
            · have d5 : decide (200 < v) = false := by simpa using c5
              by_cases c6 : v < y
              · have d6 : decide (v < y) = true := by simpa using c6
                go_enter Tryd.func4, Tryd.ntmps4
                go_wp2_with fail
                refine (awake_any w).mono ?_
                rintro _ w1 ⟨rfl, hb1⟩
                have HB1 := hidM hb1
                clear hb1
                go_wp2
                go_ret
                exact ⟨rfl, HB1.out⟩
              · have d6 : decide (v < y) = false := by simpa using c6
                obtain ⟨a, rfl⟩ : ∃ a : Nat, x = (a : Int) := ⟨x.toNat, by omega⟩
                obtain ⟨b, rfl⟩ : ∃ b : Nat, y = (b : Int) := ⟨y.toNat, by omega⟩
                obtain ⟨c, rfl⟩ : ∃ c : Nat, u = (c : Int) := ⟨u.toNat, by omega⟩
                obtain ⟨d, rfl⟩ : ∃ d : Nat, v = (d : Int) := ⟨v.toNat, by omega⟩
                have hx : a ≤ 40 := by omega
                have hu : c ≤ 40 := by omega
                have hyv : b ≤ d := by omega
                have hv : d ≤ 200 := by omega
                have HW := hidM (way_any a b c d w hx hu hyv hv)
                obtain ⟨n, hn⟩ : ∃ n, wayN a b c d = n := ⟨_, rfl⟩
                have HN := hidM hn
                have hn2 : n ≤ 240 := by rw [← hn]; unfold wayN; split <;> omega
                rw [hn] at HW
                have hside : (a < c → (d : Int) - (b : Int) + ((c : Int) - (a : Int)) = (n : Int)) ∧ (¬ a < c → (d : Int) - (b : Int) + -((c : Int) - (a : Int)) = (n : Int)) := by
                  constructor
                  · intro h; rw [← hn]; unfold wayN; rw [if_pos h]; omega
                  · intro h; rw [← hn]; unfold wayN; rw [if_neg h]; omega
                clear hn
                have HWU : Hid (Calls Tryd.prog 16 #[.complex .f64 (floatOfInt .f64 (a : Int)) (floatOfInt .f64 (b : Int)), .complex .f64 (floatOfInt .f64 (c : Int)) (floatOfInt .f64 (d : Int))] w fun e w' => ∃ wv, e = .returned wv ∧ OwnV 40 w' w.heap.size wv (wayL a b c d n) ∧ Below w.heap.size w w') := HW.out
                clear HW
                go_enter Tryd.func4, Tryd.ntmps4
                go_wp2_with fail
                refine HWU.out.mono ?_
                rintro _ w1 ⟨wv, rfl, ho1, hb1⟩
                have HB1 := hidM hb1
                obtain ⟨wa, wc, hwv, -, hws⟩ := ho1.shape
                rw [wayL_len] at hwv
                subst hwv
                have HWS := hidM hws
                clear hb1 HWU ho1 hws
                by_cases hac : a < c
                · have hs1 : ¬ (c : Int) - (a : Int) < 0 := by omega
                  have hs2 := hside.1 hac
                  clear hside hac
                  go_wp2
                  go_loop [0, 1, 69] (fun xv yv iv => ∃ (k : Nat), k ≤ n ∧ iv = .int .i64 k ∧ xv = .int .i64 (wayX a c (d - b) k : Nat) ∧ yv = .int .i64 (wayY b d k : Nat)) (fun _ _ iv => n - (intOf iv).toNat)
                  case atStart => exact ⟨0, Nat.zero_le _, rfl, by unfold wayX; rw [if_pos (Nat.zero_le _)], by unfold wayY; rw [if_pos (Nat.zero_le _)]; rfl⟩
                  case round =>
                    obtain ⟨k, hk, rfl, rfl, rfl⟩ := hrel
                    by_cases hlt : k < n
                    · obtain ⟨g, hga, -, -, -, hat⟩ := HWS.out (by rw [wayL_len]; omega)
                      have HAT := hidM hat
                      subst hga
                      clear hat
                      have kk : (k : Int) < (n : Int) := by omega
                      have ca := HAT.out k (by rw [wayL_len]; exact hlt)
                      have hca : (wayL a b c d n)[k]'(by rw [wayL_len]; exact hlt) = cz (wayX a c (d - b) (k + 1)) (wayY b d (k + 1)) := by unfold wayL; simp
                      rw [hca] at ca
                      clear hca
                      have hstep := way_step (x := a) (y := b) (u := c) (v := d) (k := k) hx hu hyv hv (by rw [HN.out]; exact hlt)
                      obtain ⟨X, hX⟩ : ∃ X, wayX a c (d - b) k = X := ⟨_, rfl⟩
                      obtain ⟨Y, hY⟩ : ∃ Y, wayY b d k = Y := ⟨_, rfl⟩
                      obtain ⟨X2, hX2⟩ : ∃ X2, wayX a c (d - b) (k + 1) = X2 := ⟨_, rfl⟩
                      obtain ⟨Y2, hY2⟩ : ∃ Y2, wayY b d (k + 1) = Y2 := ⟨_, rfl⟩
                      rw [hX, hY, hX2, hY2] at hstep
                      rw [hX2, hY2] at ca
                      rw [hX, hY]
                      have HX2 := hidM hX2
                      have HY2 := hidM hY2
                      obtain ⟨hb1, hb2, hb3, hb4, hcases⟩ := hstep
                      have hf1 := float_self (q := X2) hb3
                      have hf2 := float_self (q := Y2) hb4
                      have hf3 := float_self2 (q := X2) hb3
                      have hf4 := float_self2 (q := Y2) hb4
                      unfold cz fz at ca
                      clear hX hY hX2 hY2
                      rcases hcases with ⟨h1, hxx, hyy⟩ | ⟨h1, h2, hxx, hyy⟩ | ⟨h1, h2, hxx, hyy⟩
                      · subst hxx
                        subst hyy
                        have g1 : (Y : Int) < (d : Int) := by omega
                        have g1d : decide (Y < d) = true := by simpa using h1
                        rw [Int.natCast_add, Int.natCast_one] at ca hf2 hf4
                        clear h1
                        go_wp2
                        go_round
                        case rel => exact ⟨k + 1, by omega, by go_num, by rw [HX2.out], by rw [HY2.out]; go_num⟩
                        case measure => (show n - ((k : Int) + 1).toNat < n - ((k : Int)).toNat); omega
                      · subst hxx
                        subst hyy
                        have g1 : ¬ (Y : Int) < (d : Int) := by omega
                        have g1d : decide (Y < d) = false := by simpa using h1
                        have g2 : (X : Int) < (c : Int) := by omega
                        have g2d : decide (X < c) = true := by simpa using h2
                        rw [Int.natCast_add, Int.natCast_one] at ca hf1 hf3
                        clear h1 h2
                        go_wp2
                        go_round
                        case rel => exact ⟨k + 1, by omega, by go_num, by rw [HX2.out]; go_num, by rw [HY2.out]⟩
                        case measure => (show n - ((k : Int) + 1).toNat < n - ((k : Int)).toNat); omega
                      · subst hxx
                        subst hyy
                        have g1 : ¬ (Y : Int) < (d : Int) := by omega
                        have g1d : decide (Y < d) = false := by simpa using h1
                        have g2 : ¬ ((X2 + 1 : Nat) : Int) < (c : Int) := by omega
                        have g2d : decide (X2 + 1 < c) = false := by simpa using h2
                        have g3 : ((X2 + 1 : Nat) : Int) - 1 = (X2 : Int) := by omega
                        clear h1 h2
                        obtain ⟨X3, hX3⟩ : ∃ X3, X2 + 1 = X3 := ⟨_, rfl⟩
                        rw [hX3] at g2 g2d g3 ⊢
                        clear hX3
                        go_wp2
                        go_round
                        case rel => exact ⟨k + 1, by omega, by go_num, by rw [HX2.out], by rw [HY2.out]⟩
                        case measure => (show n - ((k : Int) + 1).toNat < n - ((k : Int)).toNat); omega
                    · have hkn : k = n := by omega
                      have hend : wayX a c (d - b) k = c ∧ wayY b d k = d := by
                        rw [hkn, ← HN.out]
                        unfold wayN wayX wayY
                        split <;> (constructor <;> (split <;> (try split) <;> omega))
                      rw [hend.1, hend.2]
                      subst hkn
                      have kk : ¬ (k : Int) < (k : Int) := by omega
                      clear hend
                      go_wp2_with fail
                      refine (awake_any w1).mono ?_
                      rintro _ w2 ⟨rfl, hb2⟩
                      have HB2 := hidM (HB1.out.trans (hb2.mono HB1.out.size))
                      clear hb2
                      go_wp2
                      go_ret
                      exact ⟨rfl, HB2.out⟩
                · by_cases hac2 : a = c
                  · subst hac2
                    have hs1 : ¬ (a : Int) - (a : Int) < 0 := by omega
                    have hs2 : (d : Int) - (b : Int) + ((a : Int) - (a : Int)) = (n : Int) := by have := hside.2 hac; omega
                    clear hside hac
                    go_wp2
                    go_loop [0, 1, 69] (fun xv yv iv => ∃ (k : Nat), k ≤ n ∧ iv = .int .i64 k ∧ xv = .int .i64 (wayX a a (d - b) k : Nat) ∧ yv = .int .i64 (wayY b d k : Nat)) (fun _ _ iv => n - (intOf iv).toNat)
                    case atStart => exact ⟨0, Nat.zero_le _, rfl, by unfold wayX; rw [if_pos (Nat.zero_le _)], by unfold wayY; rw [if_pos (Nat.zero_le _)]; rfl⟩
                    case round =>
                      obtain ⟨k, hk, rfl, rfl, rfl⟩ := hrel
                      by_cases hlt : k < n
                      · obtain ⟨g, hga, -, -, -, hat⟩ := HWS.out (by rw [wayL_len]; omega)
                        have HAT := hidM hat
                        subst hga
                        clear hat
                        have kk : (k : Int) < (n : Int) := by omega
                        have ca := HAT.out k (by rw [wayL_len]; exact hlt)
                        have hca : (wayL a b a d n)[k]'(by rw [wayL_len]; exact hlt) = cz (wayX a a (d - b) (k + 1)) (wayY b d (k + 1)) := by unfold wayL; simp
                        rw [hca] at ca
                        clear hca
                        have hstep := way_step (x := a) (y := b) (u := a) (v := d) (k := k) hx hu hyv hv (by rw [HN.out]; exact hlt)
                        obtain ⟨X, hX⟩ : ∃ X, wayX a a (d - b) k = X := ⟨_, rfl⟩
                        obtain ⟨Y, hY⟩ : ∃ Y, wayY b d k = Y := ⟨_, rfl⟩
                        obtain ⟨X2, hX2⟩ : ∃ X2, wayX a a (d - b) (k + 1) = X2 := ⟨_, rfl⟩
                        obtain ⟨Y2, hY2⟩ : ∃ Y2, wayY b d (k + 1) = Y2 := ⟨_, rfl⟩
                        rw [hX, hY, hX2, hY2] at hstep
                        rw [hX2, hY2] at ca
                        rw [hX, hY]
                        have HX2 := hidM hX2
                        have HY2 := hidM hY2
                        obtain ⟨hb1, hb2, hb3, hb4, hcases⟩ := hstep
                        have hf1 := float_self (q := X2) hb3
                        have hf2 := float_self (q := Y2) hb4
                        have hf3 := float_self2 (q := X2) hb3
                        have hf4 := float_self2 (q := Y2) hb4
                        unfold cz fz at ca
                        clear hX hY hX2 hY2
                        rcases hcases with ⟨h1, hxx, hyy⟩ | ⟨h1, h2, hxx, hyy⟩ | ⟨h1, h2, hxx, hyy⟩
                        · subst hxx
                          subst hyy
                          have g1 : (Y : Int) < (d : Int) := by omega
                          have g1d : decide (Y < d) = true := by simpa using h1
                          rw [Int.natCast_add, Int.natCast_one] at ca hf2 hf4
                          clear h1
                          go_wp2
                          go_round
                          case rel => exact ⟨k + 1, by omega, by go_num, by rw [HX2.out], by rw [HY2.out]; go_num⟩
                          case measure => (show n - ((k : Int) + 1).toNat < n - ((k : Int)).toNat); omega
                        · subst hxx
                          subst hyy
                          have g1 : ¬ (Y : Int) < (d : Int) := by omega
                          have g1d : decide (Y < d) = false := by simpa using h1
                          have g2 : (X : Int) < (a : Int) := by omega
                          have g2d : decide (X < a) = true := by simpa using h2
                          rw [Int.natCast_add, Int.natCast_one] at ca hf1 hf3
                          clear h1 h2
                          go_wp2
                          go_round
                          case rel => exact ⟨k + 1, by omega, by go_num, by rw [HX2.out]; go_num, by rw [HY2.out]⟩
                          case measure => (show n - ((k : Int) + 1).toNat < n - ((k : Int)).toNat); omega
                        · subst hxx
                          subst hyy
                          have g1 : ¬ (Y : Int) < (d : Int) := by omega
                          have g1d : decide (Y < d) = false := by simpa using h1
                          have g2 : ¬ ((X2 + 1 : Nat) : Int) < (a : Int) := by omega
                          have g2d : decide (X2 + 1 < a) = false := by simpa using h2
                          have g3 : ((X2 + 1 : Nat) : Int) - 1 = (X2 : Int) := by omega
                          clear h1 h2
                          obtain ⟨X3, hX3⟩ : ∃ X3, X2 + 1 = X3 := ⟨_, rfl⟩
                          rw [hX3] at g2 g2d g3 ⊢
                          clear hX3
                          go_wp2
                          go_round
                          case rel => exact ⟨k + 1, by omega, by go_num, by rw [HX2.out], by rw [HY2.out]⟩
                          case measure => (show n - ((k : Int) + 1).toNat < n - ((k : Int)).toNat); omega
                      · have hkn : k = n := by omega
                        have hend : wayX a a (d - b) k = a ∧ wayY b d k = d := by
                          rw [hkn, ← HN.out]
                          unfold wayN wayX wayY
                          split <;> (constructor <;> (split <;> (try split) <;> omega))
                        rw [hend.1, hend.2]
                        subst hkn
                        have kk : ¬ (k : Int) < (k : Int) := by omega
                        clear hend
                        go_wp2_with fail
                        refine (awake_any w1).mono ?_
                        rintro _ w2 ⟨rfl, hb2⟩
                        have HB2 := hidM (HB1.out.trans (hb2.mono HB1.out.size))
                        clear hb2
                        go_wp2
                        go_ret
                        exact ⟨rfl, HB2.out⟩
                  · have hs1 : (c : Int) - (a : Int) < 0 := by omega
                    have hs2 := hside.2 hac
                    clear hside hac hac2
                    go_wp2
                    go_loop [0, 1, 69] (fun xv yv iv => ∃ (k : Nat), k ≤ n ∧ iv = .int .i64 k ∧ xv = .int .i64 (wayX a c (d - b) k : Nat) ∧ yv = .int .i64 (wayY b d k : Nat)) (fun _ _ iv => n - (intOf iv).toNat)
                    case atStart => exact ⟨0, Nat.zero_le _, rfl, by unfold wayX; rw [if_pos (Nat.zero_le _)], by unfold wayY; rw [if_pos (Nat.zero_le _)]; rfl⟩
                    case round =>
                      obtain ⟨k, hk, rfl, rfl, rfl⟩ := hrel
                      by_cases hlt : k < n
                      · obtain ⟨g, hga, -, -, -, hat⟩ := HWS.out (by rw [wayL_len]; omega)
                        have HAT := hidM hat
                        subst hga
                        clear hat
                        have kk : (k : Int) < (n : Int) := by omega
                        have ca := HAT.out k (by rw [wayL_len]; exact hlt)
                        have hca : (wayL a b c d n)[k]'(by rw [wayL_len]; exact hlt) = cz (wayX a c (d - b) (k + 1)) (wayY b d (k + 1)) := by unfold wayL; simp
                        rw [hca] at ca
                        clear hca
                        have hstep := way_step (x := a) (y := b) (u := c) (v := d) (k := k) hx hu hyv hv (by rw [HN.out]; exact hlt)
                        obtain ⟨X, hX⟩ : ∃ X, wayX a c (d - b) k = X := ⟨_, rfl⟩
                        obtain ⟨Y, hY⟩ : ∃ Y, wayY b d k = Y := ⟨_, rfl⟩
                        obtain ⟨X2, hX2⟩ : ∃ X2, wayX a c (d - b) (k + 1) = X2 := ⟨_, rfl⟩
                        obtain ⟨Y2, hY2⟩ : ∃ Y2, wayY b d (k + 1) = Y2 := ⟨_, rfl⟩
                        rw [hX, hY, hX2, hY2] at hstep
                        rw [hX2, hY2] at ca
                        rw [hX, hY]
                        have HX2 := hidM hX2
                        have HY2 := hidM hY2
                        obtain ⟨hb1, hb2, hb3, hb4, hcases⟩ := hstep
                        have hf1 := float_self (q := X2) hb3
                        have hf2 := float_self (q := Y2) hb4
                        have hf3 := float_self2 (q := X2) hb3
                        have hf4 := float_self2 (q := Y2) hb4
                        unfold cz fz at ca
                        clear hX hY hX2 hY2
                        rcases hcases with ⟨h1, hxx, hyy⟩ | ⟨h1, h2, hxx, hyy⟩ | ⟨h1, h2, hxx, hyy⟩
                        · subst hxx
                          subst hyy
                          have g1 : (Y : Int) < (d : Int) := by omega
                          have g1d : decide (Y < d) = true := by simpa using h1
                          rw [Int.natCast_add, Int.natCast_one] at ca hf2 hf4
                          clear h1
                          go_wp2
                          go_round
                          case rel => exact ⟨k + 1, by omega, by go_num, by rw [HX2.out], by rw [HY2.out]; go_num⟩
                          case measure => (show n - ((k : Int) + 1).toNat < n - ((k : Int)).toNat); omega
                        · subst hxx
                          subst hyy
                          have g1 : ¬ (Y : Int) < (d : Int) := by omega
                          have g1d : decide (Y < d) = false := by simpa using h1
                          have g2 : (X : Int) < (c : Int) := by omega
                          have g2d : decide (X < c) = true := by simpa using h2
                          rw [Int.natCast_add, Int.natCast_one] at ca hf1 hf3
                          clear h1 h2
                          go_wp2
                          go_round
                          case rel => exact ⟨k + 1, by omega, by go_num, by rw [HX2.out]; go_num, by rw [HY2.out]⟩
                          case measure => (show n - ((k : Int) + 1).toNat < n - ((k : Int)).toNat); omega
                        · subst hxx
                          subst hyy
                          have g1 : ¬ (Y : Int) < (d : Int) := by omega
                          have g1d : decide (Y < d) = false := by simpa using h1
                          have g2 : ¬ ((X2 + 1 : Nat) : Int) < (c : Int) := by omega
                          have g2d : decide (X2 + 1 < c) = false := by simpa using h2
                          have g3 : ((X2 + 1 : Nat) : Int) - 1 = (X2 : Int) := by omega
                          clear h1 h2
                          obtain ⟨X3, hX3⟩ : ∃ X3, X2 + 1 = X3 := ⟨_, rfl⟩
                          rw [hX3] at g2 g2d g3 ⊢
                          clear hX3
                          go_wp2
                          go_round
                          case rel => exact ⟨k + 1, by omega, by go_num, by rw [HX2.out], by rw [HY2.out]⟩
                          case measure => (show n - ((k : Int) + 1).toNat < n - ((k : Int)).toNat); omega
                      · have hkn : k = n := by omega
                        have hend : wayX a c (d - b) k = c ∧ wayY b d k = d := by
                          rw [hkn, ← HN.out]
                          unfold wayN wayX wayY
                          split <;> (constructor <;> (split <;> (try split) <;> omega))
                        rw [hend.1, hend.2]
                        subst hkn
                        have kk : ¬ (k : Int) < (k : Int) := by omega
                        clear hend
                        go_wp2_with fail
                        refine (awake_any w1).mono ?_
                        rintro _ w2 ⟨rfl, hb2⟩
                        have HB2 := hidM (HB1.out.trans (hb2.mono HB1.out.size))
                        clear hb2
                        go_wp2
                        go_ret
                        exact ⟨rfl, HB2.out⟩
end Go.Proofs.YthgmabbnmoembaaDoor
