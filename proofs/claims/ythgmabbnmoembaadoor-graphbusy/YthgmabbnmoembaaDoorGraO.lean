/-
  The law of places: GraphPlaces.
-/
import Derived.Test.YthgmabbnmoembaaDoorGraK
import Derived.Test.YthgmabbnmoembaaDoorGraW
import Derived.Test.YthgmabbnmoembaaDoorGraL
namespace Go.Proofs.YthgmabbnmoembaaDoor
open Go.RowKit

theorem few_le (L : List (List Int)) : (fewL L).length ≤ 220 := by rw [fewL_len]; omega
theorem few_row (L : List (List Int)) : ∀ l ∈ fewL L, l.length ≤ 10000 := by
  intro l hl
  unfold fewL at hl
  obtain ⟨x, _, rfl⟩ := List.mem_map.1 hl
  simp; omega
theorem float_self {q : Nat} (h : q ≤ 240) : (FloatKind.f64.format.order (floatOfInt .f64 (q : Int)) (floatOfInt .f64 (q : Int)) != some .eq) = false := by
  have := ord_eq h
  unfold fz at this
  rw [this]; rfl
theorem float_self2 {q : Nat} (h : q ≤ 240) : (FloatKind.f64.format.order (floatOfInt .f64 (q : Int)) (floatOfInt .f64 (q : Int)) == some .eq) = true := by
  have := ord_eq h
  unfold fz at this
  rw [this]; rfl
set_option maxHeartbeats 8000000 in
set_option maxRecDepth 50000 in
theorem graphPlaces_any (v : Value) (L : List (List Int)) (w : World) (hv : RowsV w v L) :
    Calls Tryd.prog 3 #[v] w fun e w' => e = .returned (.bool true) ∧ Below w.heap.size w w' := by
  have HV := hidM hv
  obtain ⟨a, cp, rfl, -, -⟩ := hv
  obtain ⟨n0, hn0⟩ : ∃ n0, L.length = n0 := ⟨_, rfl⟩
  rw [hn0] at HV ⊢
  clear hn0
  have HFW := hidM (fun V (h : Below w.heap.size w V) => few_any _ L V (HV.out.below h))
  have HF2 := hidM (few_le L)
  have HF3 := hidM (few_row L)
  unfold FewPost at HFW
  generalize fewL L = F at *
  obtain ⟨n, hn⟩ : ∃ n, F.length = n := ⟨_, rfl⟩
  have HN := hidM hn
  clear hn
  go_enter Tryd.func3, Tryd.ntmps3
  go_wp2_with fail
  refine (HFW.out _ (Below.refl _ _)).mono ?_
  rintro _ w1 ⟨v1, rfl, ho1, hb1⟩
  have HI1 := hidM ho1.rows
  have HB1 := hidM hb1
  obtain ⟨ia, ic, hiv⟩ := ho1.len
  rw [HN.out] at hiv
  subst hiv
  clear ho1 hb1
  have HPL := hidM (places_any _ F w1 HI1.out (by have := HF2.out; omega) HF3.out)
  go_wp2_with fail
  refine HPL.out.mono ?_
  intro e2 w2 hp2
  have hb2 : Below w1.heap.size w1 w2 := by rcases hp2 with ⟨_, _, h⟩ | ⟨_, _, _, _, _, _, h⟩ <;> exact h
  have HI2 := hidM (HI1.out.below hb2)
  have HB2 := hidM (HB1.out.trans (hb2.mono HB1.out.size))
  clear HPL
  by_cases he : placesE F = 0
  · obtain ⟨av, rv, rfl, ha2, hr2⟩ : ∃ av rv, e2 = .returned (.tuple #[av, rv, .int .i64 0]) ∧ OwnV 40 w2 w1.heap.size av (atL F n) ∧ OwnR w2 w1.heap.size rv (rowsL F n) (fun _ => False) := by
      rcases hp2 with ⟨h, _⟩ | ⟨_, av, rv, h1, h2, h3, _⟩
      · exact absurd he h
      · rw [HN.out] at h2 h3
        exact ⟨av, rv, h1, h2, h3⟩
    have HA2 := hidM ha2
    have HR2 := hidM hr2
    obtain ⟨aa, ac, hav, -, -⟩ := ha2.shape
    rw [atL_len] at hav
    subst hav
    obtain ⟨ra, rc, hrv⟩ := hr2.len
    rw [rowsL_len] at hrv
    subst hrv
    clear hp2 ha2 hr2 hb2 HI1 HB1
    go_wp2_with fail
    refine (HFW.out _ HB2.out).mono ?_
    rintro _ w3 ⟨v3, rfl, ho3, hb3⟩
    have HI3 := hidM (HI2.out.below hb3)
    have HA3 := hidM (OwnV.below HA2.out hb3)
    have HR3 := hidM (OwnR.below HR2.out hb3)
    have HB3 := hidM (HB2.out.trans (hb3.mono HB2.out.size))
    have HJ3 := hidM ho3.rows
    obtain ⟨ja, jc, hjv⟩ := ho3.len
    rw [HN.out] at hjv
    subst hjv
    clear ho3 hb3 HI2 HA2 HR2 HB2
    have HRP := hidM (rplaces_any _ F w3 HJ3.out (by have := HF2.out; omega) HF3.out)
    go_wp2_with fail
    refine HRP.out.mono ?_
    rintro _ w4 (⟨hne, _⟩ | ⟨_, lv, ev, rfl, hl4, hd4, hb4⟩)
    · exact absurd he hne
    rw [HN.out] at hl4 hd4
    have HI4 := hidM (HI3.out.below hb4)
    have HA4 := hidM (OwnV.below HA3.out hb4)
    have HR4 := hidM (OwnR.below HR3.out hb4)
    have HB4 := hidM (HB3.out.trans (hb4.mono HB3.out.size))
    have HL4 := hidM hl4
    have HD4 := hidM hd4
    obtain ⟨la, lc, hlv, -, -⟩ := OwnI.shape hl4
    rw [latL_len] at hlv
    subst hlv
    obtain ⟨da, dc, hdv⟩ := hd4.len
    rw [rowsL_len] at hdv
    subst hdv
    clear hl4 hd4 hb4 HI3 HA3 HR3 HB3 HJ3 HRP
    have HPI := hidM (picture_any _ F w4 HI4.out (by have := HF2.out; omega) HF3.out)
    go_wp2_with fail
    refine HPI.out.mono ?_
    rintro _ w5 (⟨hne, _⟩ | ⟨_, pv, rfl, hp5, hb5⟩)
    · exact absurd he hne
    have HI5 := hidM (HI4.out.below hb5)
    have HA5 := hidM (OwnV.below HA4.out hb5)
    have HR5 := hidM (OwnR.below HR4.out hb5)
    have HL5 := hidM (OwnV.below HL4.out hb5)
    have HD5 := hidM (OwnR.below HD4.out hb5)
    have HB5 := hidM (HB4.out.trans (hb5.mono HB4.out.size))
    have HP5 := hidM hp5.strs
    rw [HN.out] at hp5 HP5
    obtain ⟨pa, pc, hpv, -⟩ := hp5.strs
    rw [picL_len] at hpv
    subst hpv
    clear hp5 hb5 HI4 HA4 HR4 HL4 HD4 HB4 HPI
    go_wp2_with fail
    refine (HFW.out _ HB5.out).mono ?_
    rintro _ w6 ⟨v6, rfl, ho6, hb6⟩
    have HI6 := hidM (HI5.out.below hb6)
    have HA6 := hidM (OwnV.below HA5.out hb6)
    have HR6 := hidM (OwnR.below HR5.out hb6)
    have HL6 := hidM (OwnV.below HL5.out hb6)
    have HD6 := hidM (OwnR.below HD5.out hb6)
    have HP6 := hidM (HP5.out.below hb6)
    have HB6 := hidM (HB5.out.trans (hb6.mono HB5.out.size))
    have HJ6 := hidM ho6.rows
    obtain ⟨ka, kc, hkv⟩ := ho6.len
    rw [HN.out] at hkv
    subst hkv
    clear ho6 hb6 HI5 HA5 HR5 HL5 HD5 HP5 HB5 HFW
    have HRQ := hidM (rpicture_any _ F w6 HJ6.out (by have := HF2.out; omega) HF3.out)
    go_wp2_with fail
    refine HRQ.out.mono ?_
    rintro _ w7 (⟨hne, _⟩ | ⟨_, qv, rfl, hq7, hb7⟩)
    · exact absurd he hne
    have HI7 := hidM (HI6.out.below hb7)
    have HA7 := hidM (OwnV.below HA6.out hb7)
    have HR7 := hidM (OwnR.below HR6.out hb7)
    have HL7 := hidM (OwnV.below HL6.out hb7)
    have HD7 := hidM (OwnR.below HD6.out hb7)
    have HP7 := hidM (HP6.out.below hb7)
    have HB7 := hidM (HB6.out.trans (hb7.mono HB6.out.size))
    have HQ7 := hidM hq7.strs
    rw [HN.out] at hq7 HQ7
    obtain ⟨qa, qc, hqv, -⟩ := hq7.strs
    rw [picL_len] at hqv
    subst hqv
    clear hq7 hb7 HI6 HA6 HR6 HL6 HD6 HP6 HB6 HJ6 HRQ
    -- the first test
    go_wp2_with fail
    refine (awake_any w7).mono ?_
    rintro _ w8 ⟨rfl, hb8⟩
    have HI8 := hidM (HI7.out.below hb8)
    have HA8 := hidM (OwnV.below HA7.out hb8)
    have HR8 := hidM (OwnR.below HR7.out hb8)
    have HL8 := hidM (OwnV.below HL7.out hb8)
    have HD8 := hidM (OwnR.below HD7.out hb8)
    have HP8 := hidM (HP7.out.below hb8)
    have HQ8 := hidM (HQ7.out.below hb8)
    have HB8 := hidM (HB7.out.trans (hb8.mono HB7.out.size))
    clear hb8 HI7 HA7 HR7 HL7 HD7 HP7 HQ7 HB7
    have HE := hidM he
    have HC1 := hidM (check_any _ F w8 HI8.out (by have := HF2.out; omega) (fun l h => by have := HF3.out l h; omega))
    have HC2 := hidM (rcheck_any _ F w8 HI8.out (by have := HF2.out; omega) (fun l h => by have := HF3.out l h; omega))
    have hc0 := (places_zero he).1
    rw [hc0] at HC1 HC2
    have HSM := hidM (same_any _ _ (picL F n) (picL F n) w8 HP8.out HQ8.out (by rw [picL_len]; have := HF2.out; have := HN.out; omega))
    have hsb : sameB (picL F n) (picL F n) = true := by unfold sameB; simp
    rw [hsb] at HSM
    clear he hc0 hsb
    go_wp2_with fail
    refine HC1.out.mono ?_
    rintro _ wq ⟨rfl, hq⟩
    rw [hq]
    clear hq
    go_wp2_with fail
    refine HC2.out.mono ?_
    rintro _ wq ⟨rfl, hq⟩
    rw [hq]
    clear hq
    go_wp2_with fail
    refine HSM.out.mono ?_
    rintro _ w9 ⟨rfl, hb9⟩
    have HA9 := hidM (OwnV.below HA8.out hb9)
    have HR9 := hidM (OwnR.below HR8.out hb9).rows
    have HL9 := hidM (OwnV.below HL8.out hb9)
    have HD9 := hidM (OwnR.below HD8.out hb9).rows
    have HB9 := hidM (HB8.out.trans (hb9.mono HB8.out.size))
    clear hb9 HI8 HA8 HR8 HL8 HD8 HP8 HQ8 HB8 HC1 HC2 HSM
    go_wp2
    go_loopw [85] (fun iv wr => ∃ (k : Nat), k ≤ n ∧ iv = .int .i64 k ∧ Hid (Below w9.heap.size w9 wr)) (fun iv _ => n - (intOf iv).toNat)
    case atStart => exact ⟨0, Nat.zero_le _, rfl, Below.refl _ _⟩
    case round =>
      obtain ⟨k, hk, rfl, HB⟩ := hrel
      by_cases hlt : k < n
      · have kk : (k : Int) < (n : Int) := by omega
        have hkl : k < F.length := by rw [HN.out]; exact hlt
        have hq40 := (pic_line HE.out hkl).2.1
        obtain ⟨x1, x2, x3, -, x4⟩ := (OwnV.below HA9.out HB.out).shape
        obtain ⟨ga, x5, -, -, -, x6⟩ := x4 (by rw [atL_len]; omega)
        have ca := x6 k (by rw [atL_len]; omega)
        have hca : (atL F n)[k]'(by rw [atL_len]; omega) = cz (takeK (lanes F k) k) k := by unfold atL; simp
        rw [hca] at ca
        have haq : aa = some ⟨ga, 0, none⟩ := by rw [x5] at x3; simp at x3; exact x3.1
        subst haq
        clear x3 x4 x5 x6 hca
        obtain ⟨x1, x2, x3, -, x4⟩ := OwnI.shape (OwnV.below HL9.out HB.out)
        obtain ⟨gl, x5, -, -, -, x6⟩ := x4 (by rw [latL_len]; omega)
        have cl := x6 k (by rw [latL_len]; omega)
        rw [Nat.zero_add] at cl
        have hcl : (latL F n)[k]'(by rw [latL_len]; omega) = (takeK (lanes F k) k : Int) := by unfold latL; simp
        rw [hcl] at cl
        have hlq : la = some ⟨gl, 0, none⟩ := by rw [x5] at x3; simp at x3; exact x3.1
        subst hlq
        clear x3 x4 x5 x6 hcl
        have hru : (rowsL F n)[k]'(by rw [rowsL_len]; omega) = lanes F (k + 1) := by unfold rowsL; simp
        obtain ⟨x1, x2, x3, -, x4⟩ := HR9.out.below HB.out
        obtain ⟨gr, ro, x5, -, x6⟩ := x4 (rowsL_ne (by omega))
        obtain ⟨u, cr, hu⟩ := x6 k (by rw [rowsL_len]; omega)
        have hrq : ra = some ⟨gr, ro, none⟩ := by rw [x5] at x3; simp at x3; exact x3.1
        subst hrq
        clear x3 x4 x5 x6
        obtain ⟨x1, x2, x3, -, x4⟩ := HD9.out.below HB.out
        obtain ⟨gd, do_, x5, -, x6⟩ := x4 (rowsL_ne (by omega))
        obtain ⟨u2, cd, hu2⟩ := x6 k (by rw [rowsL_len]; omega)
        have hdq : da = some ⟨gd, do_, none⟩ := by rw [x5] at x3; simp at x3; exact x3.1
        subst hdq
        clear x3 x4 x5 x6
        rw [hru] at hu hu2
        clear hru
        obtain ⟨q, hq⟩ : ∃ q, takeK (lanes F k) k = q := ⟨_, rfl⟩
        rw [hq] at ca cl hq40
        clear hq
        have hk200 : k ≤ 240 := by have := HF2.out; omega
        have hf1 := float_self (q := q) (by omega)
        have hf2 := float_self (q := k) (by omega)
        have hf3 := float_self2 (q := q) (by omega)
        have hf4 := float_self2 (q := k) (by omega)
        unfold cz fz at ca
        have hR40 := (places_zero HE.out).2 k hkl
        generalize lanes F (k + 1) = R at *
        obtain ⟨ua, uc, rfl, -, -, hus⟩ := hu
        obtain ⟨u2a, u2c, rfl, -, -, hus2⟩ := hu2
        have HUS := hidM hus
        have HUS2 := hidM hus2
        obtain ⟨nr, hnr⟩ : ∃ nr, R.length = nr := ⟨_, rfl⟩
        have HNR := hidM hnr
        rw [hnr] at cr cd hR40
        clear hus hus2 hnr HE
        go_wp2
        go_quiet (fail)
        generalize hz : World.drewN wr _ = wz
        have HZS : Hid (Below wr.heap.size wr wz) := by rw [← hz]; exact drewN_below wr _
        have HZB := hidM (HB.out.trans (HZS.out.mono HB.out.size))
        have cz1 : wz.cell? ⟨gr, ro + k, none⟩ = some (.slice ua nr uc) := (HZS.out.cell (p := ⟨gr, ro + k, none⟩) (World.block_lt_of_cell? wr _ cr)).trans cr
        have cz2 : wz.cell? ⟨gd, do_ + k, none⟩ = some (.slice u2a nr u2c) := (HZS.out.cell (p := ⟨gd, do_ + k, none⟩) (World.block_lt_of_cell? wr _ cd)).trans cd
        obtain ⟨w0, hw0⟩ : ∃ w0, wr = w0 := ⟨_, rfl⟩
        rw [hw0] at HUS HUS2 HZS
        clear hz cr cd ca cl hf1 hf2 hf3 hf4 HB hw0
        go_wp2
        go_loopw [123] (fun jv wx => ∃ (j : Nat), j ≤ nr ∧ jv = .int .i64 j ∧ Hid (Below wz.heap.size wz wx)) (fun jv _ => nr - (intOf jv).toNat)
        case atStart => exact ⟨0, Nat.zero_le _, rfl, Below.refl _ _⟩
        case round =>
          obtain ⟨j, hj, rfl, HBX⟩ := hrel
          by_cases hlj : j < nr
          · have kj : (j : Int) < (nr : Int) := by omega
            have hjl : j < R.length := by rw [HNR.out]; exact hlj
            obtain ⟨g1, o1, hg1, hb1, h1⟩ := HUS.out (fun h => by rw [h] at hjl; simp at hjl)
            obtain ⟨g2, o2, hg2, hb2, h2⟩ := HUS2.out (fun h => by rw [h] at hjl; simp at hjl)
            subst hg1
            subst hg2
            have c1 : wr.cell? ⟨g1, o1 + j, none⟩ = some (.int .i64 R[j]) := (HBX.out.cell (p := ⟨g1, o1 + j, none⟩) (Nat.lt_of_lt_of_le hb1 HZS.out.size)).trans ((HZS.out.cell (p := ⟨g1, o1 + j, none⟩) hb1).trans (h1 j hjl))
            have c2 : wr.cell? ⟨g2, o2 + j, none⟩ = some (.int .i64 R[j]) := (HBX.out.cell (p := ⟨g2, o2 + j, none⟩) (Nat.lt_of_lt_of_le hb2 HZS.out.size)).trans ((HZS.out.cell (p := ⟨g2, o2 + j, none⟩) hb2).trans (h2 j hjl))
            have c3 : wr.cell? ⟨gd, do_ + k, none⟩ = some (.slice (some ⟨g2, o2, none⟩) nr u2c) := (HBX.out.cell (p := ⟨gd, do_ + k, none⟩) (World.block_lt_of_cell? wz _ cz2)).trans cz2
            generalize R[j] = y at *
            clear h1 h2
            go_wp2
            go_roundw
            case rel => exact ⟨j + 1, by omega, by go_num, HBX⟩
            case measure => (show nr - ((j : Int) + 1).toNat < nr - ((j : Int)).toNat); omega
          · have hjn : j = nr := by omega
            subst hjn
            have kj : ¬ (j : Int) < (j : Int) := by omega
            go_wp2
            go_roundw
            case rel => exact ⟨k + 1, by omega, by go_num, HZB.out.trans (HBX.out.mono HZB.out.size)⟩
            case measure => (show n - ((k : Int) + 1).toNat < n - ((k : Int)).toNat); omega
      · have hkn : k = n := by omega
        subst hkn
        have kk : ¬ (k : Int) < (k : Int) := by omega
        go_wp2
        go_ret
        exact ⟨rfl, HB9.out.trans (HB.out.mono HB9.out.size)⟩
  · obtain ⟨z, hz⟩ : ∃ z, placesE F = z := ⟨_, rfl⟩
    have HZ := hidM hz
    have hz0 : z ≠ 0 := by rw [← hz]; exact he
    obtain rfl : e2 = .returned (.tuple #[.slice none 0 0, .slice none 0 0, .int .i64 (z : Nat)]) := by
      rcases hp2 with ⟨_, h, _⟩ | ⟨h, _⟩
      · rw [h, hz]
      · exact absurd h he
    clear hp2 hb2 HI1 HB1
    go_wp2_with fail
    refine (HFW.out _ HB2.out).mono ?_
    rintro _ w3 ⟨v3, rfl, ho3, hb3⟩
    have HI3 := hidM (HI2.out.below hb3)
    have HB3 := hidM (HB2.out.trans (hb3.mono HB2.out.size))
    have HJ3 := hidM ho3.rows
    obtain ⟨ja, jc, hjv⟩ := ho3.len
    rw [HN.out] at hjv
    subst hjv
    clear ho3 hb3 HI2 HB2
    have HRP := hidM (rplaces_any _ F w3 HJ3.out (by have := HF2.out; omega) HF3.out)
    go_wp2_with fail
    refine HRP.out.mono ?_
    rintro _ w4 (⟨_, rfl, hb4⟩ | ⟨h, _⟩)
    case inr => exact absurd h he
    rw [hz]
    have HI4 := hidM (HI3.out.below hb4)
    have HB4 := hidM (HB3.out.trans (hb4.mono HB3.out.size))
    clear hb4 HI3 HB3 HJ3 HRP
    have HPI := hidM (picture_any _ F w4 HI4.out (by have := HF2.out; omega) HF3.out)
    go_wp2_with fail
    refine HPI.out.mono ?_
    rintro _ w5 (⟨_, rfl, hb5⟩ | ⟨h, _⟩)
    case inr => exact absurd h he
    rw [hz]
    have HI5 := hidM (HI4.out.below hb5)
    have HB5 := hidM (HB4.out.trans (hb5.mono HB4.out.size))
    clear hb5 HI4 HB4 HPI
    go_wp2_with fail
    refine (HFW.out _ HB5.out).mono ?_
    rintro _ w6 ⟨v6, rfl, ho6, hb6⟩
    have HI6 := hidM (HI5.out.below hb6)
    have HB6 := hidM (HB5.out.trans (hb6.mono HB5.out.size))
    have HJ6 := hidM ho6.rows
    obtain ⟨ka, kc, hkv⟩ := ho6.len
    rw [HN.out] at hkv
    subst hkv
    clear ho6 hb6 HI5 HB5 HFW
    have HRQ := hidM (rpicture_any _ F w6 HJ6.out (by have := HF2.out; omega) HF3.out)
    go_wp2_with fail
    refine HRQ.out.mono ?_
    rintro _ w7 (⟨_, rfl, hb7⟩ | ⟨h, _⟩)
    case inr => exact absurd h he
    rw [hz]
    have HI7 := hidM (HI6.out.below hb7)
    have HB7 := hidM (HB6.out.trans (hb7.mono HB6.out.size))
    clear hb7 HI6 HB6 HJ6 HRQ
    go_wp2_with fail
    refine (awake_any w7).mono ?_
    rintro _ w8 ⟨rfl, hb8⟩
    have HI8 := hidM (HI7.out.below hb8)
    have HB8 := hidM (HB7.out.trans (hb8.mono HB7.out.size))
    clear hb8 HI7 HB7
    have HC1 := hidM (check_any _ F w8 HI8.out (by have := HF2.out; omega) (fun l h => by have := HF3.out l h; omega))
    have HC2 := hidM (rcheck_any _ F w8 HI8.out (by have := HF2.out; omega) (fun l h => by have := HF3.out l h; omega))
    obtain ⟨c, hc⟩ : ∃ c, checkE F = c := ⟨_, rfl⟩
    rw [hc] at HC1 HC2
    have HS1 : Hid (StrsV w8 (.slice none 0 0) []) := ⟨none, 0, rfl, fun h => absurd rfl h⟩
    have HSM := hidM (same_any _ _ [] [] w8 HS1.out HS1.out (by decide))
    have hsb : sameB ([] : List ByteArray) [] = true := by unfold sameB; simp
    rw [hsb] at HSM
    have HSM2 : Hid (Calls Tryd.prog 15 #[.slice none 0 0, .slice none 0 0] w8 fun e w' => e = .returned (.bool true) ∧ Below w8.heap.size w8 w') := HSM.out
    clear he hc hsb hz HSM HS1
    go_wp2_with fail
    refine HC1.out.mono ?_
    rintro _ wq ⟨rfl, hq⟩
    rw [hq]
    clear hq
    go_wp2_with fail
    refine HC2.out.mono ?_
    rintro _ wq ⟨rfl, hq⟩
    rw [hq]
    clear hq
    go_wp2_with fail
    refine HSM2.out.mono ?_
    rintro _ w9 ⟨rfl, hb9⟩
    have HB9 := hidM (HB8.out.trans (hb9.mono HB8.out.size))
    clear hb9 HI8 HB8 HC1 HC2 HSM2
    go_wp2
    go_loopw [85] (fun iv wr => iv = .int .i64 0 ∧ Hid (Below w9.heap.size w9 wr)) (fun iv _ => 0)
    case atStart => exact ⟨rfl, Below.refl _ _⟩
    case round =>
      obtain ⟨rfl, HB⟩ := hrel
      go_wp2
      go_ret
      exact ⟨rfl, HB9.out.trans (HB.out.mono HB9.out.size)⟩
end Go.Proofs.YthgmabbnmoembaaDoor
