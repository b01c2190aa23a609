/-
  The law of what stands apart: GraphApart.
-/
import Derived.Test.YthgmabbnmoembaaDoorGraO
namespace Go.Proofs.YthgmabbnmoembaaDoor
open Go.RowKit

theorem way_end {x y u v : Nat} (hyv : y ≤ v) : wayX x u (v - y) (wayN x y u v) = u ∧ wayY y v (wayN x y u v) = v := by
  unfold wayN wayX wayY
  split <;> (constructor <;> (split <;> (try split) <;> omega))
set_option maxHeartbeats 8000000 in
set_option maxRecDepth 50000 in
theorem graphApart_any (v : Value) (L : List (List Int)) (w : World) (hv : RowsV w v L) :
    Calls Tryd.prog 5 #[v] w fun e w' => e = .returned (.bool true) ∧ Below w.heap.size w w' := by
  have HV := hidM hv
  obtain ⟨a, cp, rfl, -, -⟩ := hv
  obtain ⟨n0, hn0⟩ : ∃ n0, L.length = n0 := ⟨_, rfl⟩
  rw [hn0] at HV ⊢
  clear hn0
  have HFW := hidM (few_any _ L w HV.out)
  have HF2 := hidM (few_le L)
  have HF3 := hidM (few_row L)
  unfold FewPost at HFW
  generalize fewL L = F at *
  obtain ⟨n, hn⟩ : ∃ n, F.length = n := ⟨_, rfl⟩
  have HN := hidM hn
  clear hn
  go_enter Tryd.func5, Tryd.ntmps5
  go_wp2_with fail
  refine HFW.out.mono ?_
  rintro _ w1 ⟨v1, rfl, ho1, hb1⟩
  have HI1 := hidM ho1.rows
  have HB1 := hidM hb1
  obtain ⟨ia, ic, hiv⟩ := ho1.len
  rw [HN.out] at hiv
  subst hiv
  clear ho1 hb1 HFW
  have HPL := hidM (places_any _ F w1 HI1.out (by have := HF2.out; omega) HF3.out)
  go_wp2_with fail
  refine HPL.out.mono ?_
  rintro _ w2 (⟨hne, rfl, hb2⟩ | ⟨he, av, rv, rfl, ha2, hr2, hb2⟩)
  · have HB2 := hidM (HB1.out.trans (hb2.mono HB1.out.size))
    obtain ⟨z, hz⟩ : ∃ z, placesE F = z := ⟨_, rfl⟩
    rw [hz] at hne ⊢
    have zz : ((z : Int) == 0) = false := by simp; omega
    clear hz hb2 HPL hne
    go_wp2_with fail
    refine (awake_any w2).mono ?_
    rintro _ w3 ⟨rfl, hb3⟩
    have HB3 := hidM (HB2.out.trans (hb3.mono HB2.out.size))
    clear hb3
    go_wp2
    go_ret
    exact ⟨rfl, HB3.out⟩
  · have HE := hidM he
    rw [HN.out] at ha2 hr2
    have HA2 := hidM ha2
    have HR2 := hidM hr2
    have HI2 := hidM (HI1.out.below hb2)
    have HB2 := hidM (HB1.out.trans (hb2.mono HB1.out.size))
    obtain ⟨aa, ac, hav, hac, -⟩ := ha2.shape
    rw [atL_len] at hav hac
    subst hav
    obtain ⟨ra, rc, hrv⟩ := hr2.len
    rw [rowsL_len] at hrv
    subst hrv
    have HOL : Hid (∀ i (hi : i < F.length), olderB i F.length F[i] = true) := (check_ok (places_zero he).1).2
    clear he ha2 hr2 hb2 HPL HI1 HB1
    have HG : Hid (0 < n → ∃ g, aa = some ⟨g, 0, none⟩ ∧ g < w2.heap.size ∧ ∀ i, i < n → w2.cell? ⟨g, i, none⟩ = some (.complex .f64 (floatOfInt .f64 ((takeK (lanes F i) i : Nat) : Int)) (floatOfInt .f64 (i : Int)))) := by
      intro h0
      obtain ⟨x1, x2, x3, -, x4⟩ := HA2.out.shape
      obtain ⟨ga, x5, -, -, hlt, x6⟩ := x4 (by rw [atL_len]; omega)
      refine ⟨ga, by rw [x5] at x3; simp at x3; exact x3.1, hlt, fun i hi => ?_⟩
      have ca := x6 i (by rw [atL_len]; omega)
      have hca : (atL F n)[i]'(by rw [atL_len]; omega) = cz (takeK (lanes F i) i) i := by unfold atL; simp
      rw [hca] at ca
      exact ca
    have hn220 : n ≤ 220 := by have := HF2.out; have := HN.out; omega
    go_wp2
    go_loopw [37] (fun iv wr => ∃ (k : Nat), k ≤ n ∧ iv = .int .i64 k ∧ Hid (Below w2.heap.size w2 wr)) (fun iv _ => n - (intOf iv).toNat)
    case atStart => exact ⟨0, Nat.zero_le _, rfl, Below.refl _ _⟩
    case round =>
      obtain ⟨k, hk, rfl, HB⟩ := hrel
      by_cases hlt : k < n
      · have kk : (k : Int) < (n : Int) := by omega
        have hkl : k < F.length := by rw [HN.out]; exact hlt
        obtain ⟨ga, hga, hgl, hca⟩ := HG.out (by omega)
        subst hga
        have HCA := hidM hca
        have ca := (HB.out.cell (p := ⟨ga, k, none⟩) hgl).trans (hca k hlt)
        have hq40 := (pic_line HE.out hkl).2.1
        obtain ⟨q, hq⟩ : ∃ q, takeK (lanes F k) k = q := ⟨_, rfl⟩
        rw [hq] at ca hq40
        have kac : (k : Int) ≤ (ac : Int) := by omega
        clear hq hca HG
        go_wp2
        go_loopw [46] (fun jv wx => ∃ (j : Nat), j ≤ k ∧ jv = .int .i64 j ∧ Hid (Below w2.heap.size w2 wx)) (fun jv _ => k - (intOf jv).toNat)
        case atStart => exact ⟨0, Nat.zero_le _, rfl, HB⟩
        case round =>
          obtain ⟨j, hj, rfl, HB5⟩ := hrel
          clear HB ca
          by_cases hlj : j < k
          · have kj : (j : Int) < (k : Int) := by omega
            have cj := (HB5.out.cell (p := ⟨ga, j, none⟩) hgl).trans (HCA.out j (by omega))
            obtain ⟨q2, hq2⟩ : ∃ q2, takeK (lanes F j) j = q2 := ⟨_, rfl⟩
            rw [hq2] at cj
            clear hq2
            have hne : ((FloatKind.f64.format.order (floatOfInt .f64 (q : Int)) (floatOfInt .f64 (q2 : Int)) == some .eq) && (FloatKind.f64.format.order (floatOfInt .f64 (k : Int)) (floatOfInt .f64 (j : Int)) == some .eq)) = false := by
              have h1 := ord_is_eq (a := k) (b := j) (by omega) (by omega)
              unfold fz at h1
              rw [h1]
              have : ¬ k = j := by omega
              simp [this]
            generalize floatOfInt .f64 (q : Int) = f1 at *
            generalize floatOfInt .f64 (q2 : Int) = f2 at *
            generalize floatOfInt .f64 (k : Int) = f3 at *
            generalize floatOfInt .f64 (j : Int) = f4 at *
            go_wp2
            go_roundw
            case rel => exact ⟨j + 1, by omega, by go_num, HB5⟩
            case measure => (show k - ((j : Int) + 1).toNat < k - ((j : Int)).toNat); omega
          · have hjk : j = k := by omega
            subst hjk
            have kj : ¬ (j : Int) < (j : Int) := by omega
            obtain ⟨x1, x2, x3, -, x4⟩ := HI2.out.below HB5.out
            obtain ⟨gi, io, x5, -, x6⟩ := x4 (fun h => by rw [h] at hkl; simp at hkl)
            obtain ⟨u, cr, hu⟩ := x6 j hkl
            have hiq : ia = some ⟨gi, io, none⟩ := by rw [x5] at x3; simp at x3; exact x3.1
            subst hiq
            clear x3 x4 x5 x6
            have HO := hidM (older_at (HOL.out j hkl))
            have hl60 := HF3.out _ (List.getElem_mem hkl)
            generalize F[j] = ps at *
            obtain ⟨ua, uc, rfl, -, -, hus⟩ := hu
            obtain ⟨m, hm⟩ : ∃ m, ps.length = m := ⟨_, rfl⟩
            have HM := hidM hm
            rw [hm] at cr hl60
            have HUS := hidM hus
            obtain ⟨w0, hw0⟩ : ∃ w0, wr = w0 := ⟨_, rfl⟩
            have HST0 : Hid (Below w0.heap.size w0 wr) := by rw [← hw0]; exact Below.refl _ _
            rw [hw0] at HUS
            have HB50 : Hid (Below w2.heap.size w2 w0) := by rw [← hw0]; exact HB5.out
            clear hus hm hw0 HB5
            go_wp2
            go_loopw [59] (fun mv wy => ∃ (s : Nat), s ≤ m ∧ mv = .int .i64 s ∧ Hid (Below w0.heap.size w0 wy)) (fun mv _ => m - (intOf mv).toNat)
            case atStart => exact ⟨0, Nat.zero_le _, rfl, HST0⟩
            case round =>
              obtain ⟨s, hs, rfl, HB6⟩ := hrel
              clear HST0
              have HB7 := hidM (HB50.out.trans (HB6.out.mono HB50.out.size))
              by_cases hls : s < m
              · have ks : (s : Int) < (m : Int) := by omega
                have hsl : s < ps.length := by rw [HM.out]; exact hls
                obtain ⟨g1, o1, hg1, hb1, h1⟩ := HUS.out (fun h => by rw [h] at hsl; simp at hsl)
                have c1 := (HB6.out.cell (p := ⟨g1, o1 + s, none⟩) hb1).trans (h1 s hsl)
                have hol := HO.out s hsl
                generalize ps[s] = p at *
                obtain ⟨pn, rfl⟩ : ∃ pn : Nat, p = (pn : Int) := ⟨p.toNat, by omega⟩
                have hp1 : j < pn := by omega
                have hp2 : pn < n := by have := HN.out; omega
                have kp : (pn : Int) < (n : Int) := by omega
                subst hg1
                clear hol h1
                have cp := (HB7.out.cell (p := ⟨ga, pn, none⟩) hgl).trans (HCA.out pn hp2)
                have hqp40 := (pic_line HE.out (i := pn) (by rw [HN.out]; exact hp2)).2.1
                obtain ⟨qp, hqp⟩ : ∃ qp, takeK (lanes F pn) pn = qp := ⟨_, rfl⟩
                rw [hqp] at cp hqp40
                clear hqp
                have HW := hidM (way_any q j qp pn wr (by omega) (by omega) (by omega) (by have h1 := (check_ok (places_zero HE.out).1).1; have h2 := HN.out; omega))
                obtain ⟨N, hN⟩ : ∃ N, wayN q j qp pn = N := ⟨_, rfl⟩
                have hN0 : 0 < N := by rw [← hN]; unfold wayN; omega
                have hN2 : N ≤ 400 := by rw [← hN]; unfold wayN; split <;> omega
                have HEND := hidM (way_end (x := q) (y := j) (u := qp) (v := pn) (by omega))
                rw [hN] at HW HEND
                clear hN
                have HW2 : Hid (Calls Tryd.prog 16 #[.complex .f64 (floatOfInt .f64 (q : Int)) (floatOfInt .f64 (j : Int)), .complex .f64 (floatOfInt .f64 (qp : Int)) (floatOfInt .f64 (pn : Int))] wr fun e w' => ∃ wv, e = .returned wv ∧ OwnV 40 w' wr.heap.size wv (wayL q j qp pn N) ∧ Below wr.heap.size wr w') := HW.out
                clear HW
                go_wp2_with fail
                refine HW2.out.mono ?_
                rintro _ w6 ⟨wv, rfl, ho6, hb6⟩
                have HB8 := hidM (HB6.out.trans (hb6.mono HB6.out.size))
                have hgr : ga < wr.heap.size := Nat.lt_of_lt_of_le hgl HB7.out.size
                have cp6 : w6.cell? ⟨ga, pn, none⟩ = some (.complex .f64 (floatOfInt .f64 (qp : Int)) (floatOfInt .f64 (pn : Int))) := (hb6.cell (p := ⟨ga, pn, none⟩) hgr).trans cp
                obtain ⟨wa, wc, hwv, -, hws⟩ := ho6.shape
                rw [wayL_len] at hwv
                subst hwv
                obtain ⟨gw, hwa, -, -, -, hat⟩ := hws (by rw [wayL_len]; exact hN0)
                subst hwa
                obtain ⟨N1, hN1⟩ : ∃ N1, N = N1 + 1 := ⟨N - 1, by omega⟩
                have cw := hat N1 (by rw [wayL_len]; omega)
                have hcw : (wayL q j qp pn N)[N1]'(by rw [wayL_len]; omega) = cz qp pn := by
                  unfold wayL
                  simp only [List.getElem_map, List.getElem_range]
                  rw [← hN1, HEND.out.1, HEND.out.2]
                rw [hcw] at cw
                unfold cz fz at cw
                have e1 : (N : Int) - 1 = (N1 : Int) := by omega
                have e2 : ((N : Int) == 0) = false := by simp; omega
                have e3 : (N1 : Int) < (N : Int) := by omega
                have hg1 : (FloatKind.f64.format.order (floatOfInt .f64 (pn : Int)) (floatOfInt .f64 (j : Int)) == some .lt || FloatKind.f64.format.order (floatOfInt .f64 (pn : Int)) (floatOfInt .f64 (j : Int)) == some .eq) = false := by
                  have h1 := ord_gt (a := pn) (b := j) (by omega) (by omega) hp1
                  unfold fz at h1
                  rw [h1]; rfl
                have hg2 := float_self2 (q := qp) (by omega)
                have hg3 := float_self2 (q := pn) (by omega)
                clear hws hat hcw ho6 hb6 cp HW2 hN1
                go_wp2
                go_quiet (fail)
                go_wp2
                go_roundw
                case rel => exact ⟨s + 1, by omega, by go_num, below_drewN HB8.out _⟩
                case measure => (show m - ((s : Int) + 1).toNat < m - ((s : Int)).toNat); omega
              · have hsm : s = m := by omega
                subst hsm
                have ks : ¬ (s : Int) < (s : Int) := by omega
                go_wp2
                go_roundw
                case rel => exact ⟨j + 1, by omega, by go_num, HB7⟩
                case measure => (show n - ((j : Int) + 1).toNat < n - ((j : Int)).toNat); omega
      · have hkn : k = n := by omega
        subst hkn
        have kk : ¬ (k : Int) < (k : Int) := by omega
        go_wp2_with fail
        refine (awake_any wr).mono ?_
        rintro _ w9 ⟨rfl, hb9⟩
        have HB9 := hidM ((HB2.out.trans (HB.out.mono HB2.out.size)).trans (hb9.mono (Nat.le_trans HB2.out.size HB.out.size)))
        clear hb9
        go_wp2
        go_ret
        exact ⟨rfl, HB9.out⟩
end Go.Proofs.YthgmabbnmoembaaDoor
