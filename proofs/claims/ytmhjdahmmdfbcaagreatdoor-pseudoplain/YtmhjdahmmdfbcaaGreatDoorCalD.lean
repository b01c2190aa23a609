/-
  Walks of calendar: dayOf, From.
-/
import Derived.Laws.ResultCell
import Derived.Test.YtmhjdahmmdfbcaaGreatDoorCalC
namespace Go.Proofs.YtmhjdahmmdfbcaaGreatDoor
open Go.RowKit
theorem size23K : (Tryz.prog.info? 111).map (·.size) = some 7 := by kernel_rfl
/-- the box of a date -/
def dCells (y m d h mi s k : Int) : Obj := .cells #[.int .i64 y, .int .i64 m, .int .i64 d, .int .i64 h, .int .i64 mi, .int .i64 s, .int .i64 k] 111
def natAt (w : World) (p : Addr) : Nat := match w.cell? p with | some v => (intOf v).toNat | none => 0
set_option maxHeartbeats 2000000 in
set_option maxRecDepth 100000 in
theorem dayOf_any (D y m d : Nat) (w : World) (hG : GT w) (hd : IsDay D y m d) :
    Calls Tryz.prog 113 #[.int .i64 (D : Int)] w fun e w' => e = .returned (.agg #[.int .i64 (y : Int), .int .i64 (m : Int), .int .i64 (d : Int), .int .i64 0, .int .i64 0, .int .i64 0, .int .i64 (((1 + D) % 7 : Nat) : Int)]) ∧ Below w.heap.size w w' := by
  have HD := hidM hd
  have HDL := hd.lt
  have HIY := hidM hd.inYear
  have HIM := hidM hd.inMonth
  have y1 := hd.y1
  have y2 := hd.y2
  have m1 := hd.m1
  have m2 := hd.m2
  have HAH := hidM (fun V (n : Nat) (a : 1 ≤ n) (b : n ≤ 10000) => ahead_any n V a b)
  have HDS : Hid (∀ V, GT V → ∀ j : Nat, Calls Tryz.prog 121 #[.int .i64 (y : Int), .int .i64 (j : Int)] V fun e w' => e = .returned (.int .i64 (dmN y j : Nat)) ∧ w' = V) := fun V hV j => by
    have := days_any y j V hV
    rw [days_cast] at this
    exact this
  have HBB : Hid (∀ o, Below w.heap.size w ((w.alloc (dCells 0 0 0 0 0 0 0)).alloc o)) := fun o => ((Below.refl _ w).alloc (Nat.le_refl _) _).alloc (by simp) _
  have HG := hidM hG
  have q1 : ((1 : Int) + (D : Int)).tmod 7 = (((1 + D) % 7 : Nat) : Int) := by
    have := tmod_cast (1 + D) 7
    rw [← this]; rfl
  have q2 : (D : Int).tdiv 366 = ((D / 366 : Nat) : Int) := Int.ofNat_tdiv D 366
  have HY0 : Hid (aheadN (1 + D / 366) ≤ D) := by
    unfold Hid aheadN; omega
  have kW : (1 + D) % 7 ≤ 6 := by omega
  have b366 : D / 366 ≤ 9978 := by omega
  generalize (1 + D) % 7 = K at *
  generalize hQ : D / 366 = Q at *
  have HQ := hidM hQ
  unfold dCells at HBB
  clear hG hd hQ
  have HYL : Hid (1 + Q ≤ y) := by
    unfold Hid
    refine Classical.byContradiction fun hn => ?_
    have h1 := ahead_mono (show y + 1 ≤ 1 + Q by omega)
    have h2 := HIY.out
    have h3 := HY0.out
    omega
  go_enter Tryz.func113, Tryz.ntmps113
  go_wp2
  go_loopw [] (fun wr => ∃ n : Nat, 1 ≤ n ∧ n ≤ y ∧ wr = (w.alloc (.cells #[.int .i64 0, .int .i64 0, .int .i64 0, .int .i64 0, .int .i64 0, .int .i64 0, .int .i64 0] 111)).alloc (.cells #[.int .i64 (n : Int), .int .i64 1, .int .i64 0, .int .i64 0, .int .i64 0, .int .i64 0, .int .i64 (K : Int)] 111)) (fun wr => y - natAt wr ⟨w.heap.size + 1, 0, none⟩)
  case atStart => exact ⟨1 + Q, by omega, HYL.out, by go_num⟩
  case round =>
    obtain ⟨n, n1, n2, hwr⟩ := hrel
    subst hwr
    by_cases hlt : n < y
    · have HAn : Hid (∀ V, Calls Tryz.prog 120 #[.int .i64 ((n : Int) + 1)] V fun e w' => e = .returned (.int .i64 (aheadN (n + 1) : Nat)) ∧ w' = V) := fun V => HAH.out V (n + 1) (by omega) (by omega)
      have hle : aheadN (n + 1) ≤ D := Nat.le_trans (ahead_mono hlt) HIY.out.1
      generalize aheadN (n + 1) = B at *
      have gB : (B : Int) ≤ (D : Int) := by omega
      go_wp2_with fail
      refine (HAn.out _).mono ?_
      rintro _ _ ⟨rfl, rfl⟩
      go_wp2
      go_roundw
      case rel => exact ⟨n + 1, by omega, by omega, by go_num⟩
      case measure => simp [natAt, intOf]; omega
    · obtain rfl : n = y := by omega
      have HAn : Hid (∀ V, Calls Tryz.prog 120 #[.int .i64 ((n : Int) + 1)] V fun e w' => e = .returned (.int .i64 (aheadN (n + 1) : Nat)) ∧ w' = V) := fun V => HAH.out V (n + 1) (by omega) (by omega)
      have HAm := hidM (fun V => HAH.out V n (by omega) (by omega))
      have hgt := HIY.out.2
      have hge := HIY.out.1
      have HIM2 := HIM
      obtain ⟨A, hA⟩ : ∃ A, A = aheadN n := ⟨_, rfl⟩
      rw [← hA] at HAm hge HIM2
      have HAE := hidM hA
      clear hA HIM
      generalize aheadN (n + 1) = B at *
      have gB : ¬ (B : Int) ≤ (D : Int) := by omega
      go_wp2_with fail
      refine (HAn.out _).mono ?_
      rintro _ _ ⟨rfl, rfl⟩
      go_wp2_with fail
      refine (HAm.out _).mono ?_
      rintro _ _ ⟨rfl, rfl⟩
      go_wp2
      go_loopw [0] (fun dv wr => ∃ j : Nat, 1 ≤ j ∧ j ≤ m ∧ dv = .int .i64 ((D - A - mA n j : Nat) : Int) ∧ wr = (w.alloc (.cells #[.int .i64 0, .int .i64 0, .int .i64 0, .int .i64 0, .int .i64 0, .int .i64 0, .int .i64 0] 111)).alloc (.cells #[.int .i64 (n : Int), .int .i64 (j : Int), .int .i64 0, .int .i64 0, .int .i64 0, .int .i64 0, .int .i64 (K : Int)] 111)) (fun _ wr => m - natAt wr ⟨w.heap.size + 1, 1, none⟩)
      case atStart => exact ⟨1, by decide, m1, by rw [mA_one]; go_num, by go_num⟩
      case round =>
        obtain ⟨j, j1, j2, rfl, hwr⟩ := hrel
        subst hwr
        have HDj := hidM (fun V hV => HDS.out V hV j)
        have HGj : Hid (GT ((w.alloc (.cells #[.int .i64 0, .int .i64 0, .int .i64 0, .int .i64 0, .int .i64 0, .int .i64 0, .int .i64 0] 111)).alloc (.cells #[.int .i64 (n : Int), .int .i64 (j : Int), .int .i64 0, .int .i64 0, .int .i64 0, .int .i64 0, .int .i64 (K : Int)] 111))) := HG.out.below (HBB.out _)
        have h31 := dm_le n j
        have hI := HIM2.out
        have hS := mA_succ n j
        by_cases hj : j < m
        · have hM := mA_mono n (show j + 1 ≤ m by omega)
          rw [hS] at hM
          have hge2 : dmN n j ≤ D - A - mA n j := by omega
          generalize dmN n j = q at *
          have e2 : D - A - mA n (j + 1) = D - A - mA n j - q := by omega
          have HE2 := hidM e2
          generalize D - A - mA n j = R at *
          have gR : (q : Int) ≤ (R : Int) := by omega
          have rR : R ≤ 4000000 := by omega
          clear e2 hI hS hM
          go_wp2_with fail
          refine (HDj.out _ HGj.out).mono ?_
          rintro _ _ ⟨rfl, rfl⟩
          go_wp2_with fail
          refine (HDj.out _ HGj.out).mono ?_
          rintro _ _ ⟨rfl, rfl⟩
          go_wp2
          go_roundw
          case rel => exact ⟨j + 1, by omega, by omega, by rw [HE2.out]; go_num, by go_num⟩
          case measure => simp [natAt, intOf]; omega
        · obtain rfl : j = m := by omega
          have hlt2 : D - A - mA n j < dmN n j := by omega
          have e2 : D - A - mA n j + 1 = d := by have := HD.out.d1; omega
          have HE2 := hidM e2
          generalize dmN n j = q at *
          generalize D - A - mA n j = R at *
          have gR : ¬ (q : Int) ≤ (R : Int) := by omega
          clear e2 hI hS
          go_wp2_with fail
          refine (HDj.out _ HGj.out).mono ?_
          rintro _ _ ⟨rfl, rfl⟩
          go_wp2
          exact bodyPost_ret (results_cell_row rfl _ _ w.heap.size 111 _ (0, 0) _ rfl (heap_alloc2_old w _ _) Tryz.underlying111 rfl size23K) rfl ⟨by rw [← HE2.out]; rfl, ((Below.refl _ w).alloc (Nat.le_refl _) _).alloc (by simp) _⟩
theorem ones7 (y m d h mi s k : Int) : (#[Value.int .i64 y, .int .i64 m, .int .i64 d, .int .i64 h, .int .i64 mi, .int .i64 s, .int .i64 k] : Array Value).all (·.oneCell') = true := by simp [Value.oneCell']
set_option maxHeartbeats 1000000 in
set_option maxRecDepth 100000 in
theorem from_no (t : Int) (w : World) (ht : t < -62135596800 ∨ 253402300799 < t) :
    Calls Tryz.prog 87 #[.int .i64 t] w fun e w' => e = .returned (.tuple #[.agg #[.int .i64 0, .int .i64 0, .int .i64 0, .int .i64 0, .int .i64 0, .int .i64 0, .int .i64 0], .int .i64 1]) ∧ Below w.heap.size w w' := by
  by_cases h1 : t < -62135596800
  · have b1 : decide (t < -62135596800) = true := by simpa using h1
    go_enter Tryz.func87, Tryz.ntmps87
    go_wp2
    exact bodyPost_ret (results_box rfl _ _ w.heap.size _ rfl (run_loadVar_row _ w.heap.size 111 111 _ (0, 0) _ (heap_alloc_new w _) Tryz.underlying111 rfl size23K)) rfl ⟨rfl, (Below.refl _ w).alloc (Nat.le_refl _) _⟩
  · have b1 : decide (t < -62135596800) = false := by simpa using h1
    have b2 : decide (253402300799 < t) = true := by simp; omega
    go_enter Tryz.func87, Tryz.ntmps87
    go_wp2
    exact bodyPost_ret (results_box rfl _ _ w.heap.size _ rfl (run_loadVar_row _ w.heap.size 111 111 _ (0, 0) _ (heap_alloc_new w _) Tryz.underlying111 rfl size23K)) rfl ⟨rfl, (Below.refl _ w).alloc (Nat.le_refl _) _⟩
set_option maxHeartbeats 2000000 in
set_option maxRecDepth 100000 in
theorem from_yes (T y m d h mi s : Nat) (w : World) (hG : GT w) (hd : IsDate T y m d h mi s) :
    Calls Tryz.prog 87 #[.int .i64 ((T : Int) - 62135596800)] w fun e w' => e = .returned (.tuple #[.agg #[.int .i64 (y : Int), .int .i64 (m : Int), .int .i64 (d : Int), .int .i64 (h : Int), .int .i64 (mi : Int), .int .i64 (s : Int), .int .i64 (((1 + T / 86400) % 7 : Nat) : Int)], .int .i64 0]) ∧ Below w.heap.size w w' := by
  have hlt := hd.lt
  have e1 : (T : Int) - 62135596800 - -62135596800 = (T : Int) := by omega
  have e2 : (T : Int).tdiv 86400 = ((T / 86400 : Nat) : Int) := Int.ofNat_tdiv T 86400
  have e3 : (T : Int).tmod 86400 = ((T % 86400 : Nat) : Int) := tmod_cast T 86400
  have e4 : ((T % 86400 : Nat) : Int).tdiv 3600 = (h : Int) := by rw [hd.h2]; exact Int.ofNat_tdiv _ 3600
  have e5 : ((T % 86400 : Nat) : Int).tdiv 60 = ((T % 86400 / 60 : Nat) : Int) := Int.ofNat_tdiv _ 60
  have e6 : ((T % 86400 / 60 : Nat) : Int).tmod 60 = (mi : Int) := by rw [hd.mi2]; exact tmod_cast _ 60
  have e7 : ((T % 86400 : Nat) : Int).tmod 60 = (s : Int) := by rw [hd.s2]; exact tmod_cast _ 60
  have b1 : decide ((T : Int) - 62135596800 < -62135596800) = false := by simp; omega
  have b2 : decide (253402300799 < (T : Int) - 62135596800) = false := by simp; omega
  have r1 : T % 86400 < 86400 := by omega
  have h24 : h ≤ 23 := by rw [hd.h2]; omega
  have HB0 : Hid (Below w.heap.size w (w.alloc (.cells #[.int .i64 0, .int .i64 0, .int .i64 0, .int .i64 0, .int .i64 0, .int .i64 0, .int .i64 0] 111))) := (Below.refl _ w).alloc (Nat.le_refl _) _
  have HX := hidM (heap_alloc_new w (.cells #[.int .i64 0, .int .i64 0, .int .i64 0, .int .i64 0, .int .i64 0, .int .i64 0, .int .i64 0] 111))
  have HD := hidM (dayOf_any (T / 86400) y m d _ (hG.below HB0.out) hd.day)
  have hdl := hd.day.lt
  clear hG hd
  generalize hR : T % 86400 = R at *
  generalize hM : R / 60 = M at *
  have m60 : M < 1440 := by omega
  generalize T / 86400 = D at *
  generalize (1 + D) % 7 = K at *
  clear hR hM
  go_enter Tryz.func87, Tryz.ntmps87
  go_wp2_with fail
  refine HD.out.mono ?_
  rintro _ w1 ⟨rfl, hb1⟩
  have HB1 := hidM (HB0.out.trans (hb1.mono HB0.out.size))
  have HX1 := hidM (box_kept HX.out hb1)
  have HXA : Hid (∀ o, (w1.alloc o).heap[w.heap.size]? = some (.cells #[.int .i64 0, .int .i64 0, .int .i64 0, .int .i64 0, .int .i64 0, .int .i64 0, .int .i64 0] 111)) := fun o => by
    exact (_root_.Go.heap_alloc_old _ _ (Array.getElem?_eq_some_iff.1 HX1.out).1).trans HX1.out
  clear hb1 HD
  go_upto_region 8 with fail
  have HBW : Hid (Below w.heap.size w (w1.alloc (.cells #[.int .i64 (y : Int), .int .i64 (m : Int), .int .i64 (d : Int), .int .i64 (h : Int), .int .i64 (mi : Int), .int .i64 (s : Int), .int .i64 (K : Int)] 111))) := HB1.out.alloc HB1.out.size _
  have HXW := hidM (HXA.out (.cells #[.int .i64 (y : Int), .int .i64 (m : Int), .int .i64 (d : Int), .int .i64 (h : Int), .int .i64 (mi : Int), .int .i64 (s : Int), .int .i64 (K : Int)] 111))
  have HNW := hidM (_root_.Go.heap_alloc_new w1 (.cells #[.int .i64 (y : Int), .int .i64 (m : Int), .int .i64 (d : Int), .int .i64 (h : Int), .int .i64 (mi : Int), .int .i64 (s : Int), .int .i64 (K : Int)] 111))
  generalize (w1.alloc (.cells #[.int .i64 (y : Int), .int .i64 (m : Int), .int .i64 (d : Int), .int .i64 (h : Int), .int .i64 (mi : Int), .int .i64 (s : Int), .int .i64 (K : Int)] 111)) = W at *
  generalize w1.heap.size = B at *
  obtain ⟨c0, c1, c2, c3, c4, c5, c6⟩ := cells7 HNW.out
  go_wp2_with (refine wpList_store_row rfl 111 (.tmp 2) (.tmp 32) rfl w.heap.size #[.int .i64 (y : Int), .int .i64 (m : Int), .int .i64 (d : Int), .int .i64 (h : Int), .int .i64 (mi : Int), .int .i64 (s : Int), .int .i64 (K : Int)] rfl rfl 111 #[.int .i64 0, .int .i64 0, .int .i64 0, .int .i64 0, .int .i64 0, .int .i64 0, .int .i64 0] HXW.out size23K rfl (ones7 _ _ _ _ _ _ _) ?_)
  exact bodyPost_ret (results_box rfl _ _ w.heap.size _ rfl (run_loadVar_row _ w.heap.size 111 111 _ (0, 0) _ (setRow_heap _ _ _ _ 111 _ HXW.out) Tryz.underlying111 rfl size23K)) rfl ⟨rfl, below_setRow HBW.out (Nat.le_refl _)⟩
end Go.Proofs.YtmhjdahmmdfbcaaGreatDoor
