/-
  The picture of a history: the document's; what the document fixes.
-/
import Derived.Test.YthgmabbnmoembaaDoorGraJ
namespace Go.Proofs.YthgmabbnmoembaaDoor
open Go.RowKit

theorem app_one (P : List UInt8) (a : UInt8) : (⟨P.toArray⟩ : ByteArray) ++ ⟨#[a]⟩ = ⟨(P ++ [a]).toArray⟩ := by
  apply ByteArray.ext
  simp [ByteArray.data_append]
def strLen : Value → Nat | .string s => s.size | _ => 0
set_option maxHeartbeats 8000000 in
set_option maxRecDepth 50000 in
theorem rpicture_any (v : Value) (L : List (List Int)) (w : World) (hv : RowsV w v L) (hL : L.length ≤ 1000000) (hl : ∀ l ∈ L, l.length ≤ 10000) :
    Calls Tryd.prog 11 #[v] w fun e w' => PicP L w e w' := by
  have HPC := hidM (rplaces_any v L w hv hL hl)
  obtain ⟨a, cp, rfl, hcp, hst⟩ := hv
  obtain ⟨n, hn⟩ : ∃ n, L.length = n := ⟨_, rfl⟩
  have HN := hidM hn
  rw [hn] at hcp hL HPC ⊢
  clear hn hst
  go_enter Tryd.func11, Tryd.ntmps11
  go_wp2_with fail
  refine HPC.out.mono ?_
  rintro _ w1 (⟨hne, rfl, hb1⟩ | ⟨he, av, rv, rfl, ha1, hr1, hb1⟩)
  · have HNE := hidM hne
    have HB1 := hidM hb1
    clear hne hb1
    obtain ⟨z, hz⟩ : ∃ z, placesE L = z := ⟨_, rfl⟩
    rw [hz] at HNE ⊢
    have HZ := hidM hz
    clear hz
    have zz : ((z : Int) == 0) = false := by have := HNE.out; simp; omega
    go_wp2
    go_ret2
    exact .inl ⟨by rw [HZ.out]; exact HNE.out, by rw [HZ.out]; rfl, HB1.out⟩
  · have HE := hidM he
    have HAV := hidM ha1
    have HRV := hidM hr1
    have HB1 := hidM hb1
    obtain ⟨aa, ac, hav, -, -⟩ := OwnI.shape ha1
    obtain ⟨ra, rc, hrv⟩ := hr1.len
    rw [latL_len, HN.out] at hav
    rw [rowsL_len, HN.out] at hrv
    subst hav
    subst hrv
    have HM0 : Hid (OwnS (w1.alloc (.cells #[] 9)) w1.heap.size (.slice (some ⟨w1.heap.size, 0, none⟩) 0 0) (picL L 0)) := own_made 9 w1 _ (Nat.le_refl _)
    have HB0 : Hid (Below w1.heap.size w1 (w1.alloc (.cells #[] 9))) := (Below.refl _ w1).alloc (Nat.le_refl _) _
    clear he ha1 hr1 hb1 HPC
    go_wp2
    generalize w1.alloc (.cells #[] 9) = w1a at *
    generalize Value.slice (some ⟨w1.heap.size, 0, none⟩) 0 0 = n0 at *
    go_loopw [7, 25] (fun lv iv wr => ∃ (k : Nat), k ≤ n ∧ iv = .int .i64 k ∧ Hid (OwnS wr w1.heap.size lv (picL L k)) ∧ Hid (Below w1.heap.size w1 wr)) (fun _ iv _ => n - (intOf iv).toNat)
    case atStart => exact ⟨0, Nat.zero_le _, rfl, HM0, HB0⟩
    case round =>
      obtain ⟨k, hk, rfl, HS, HB⟩ := hrel
      clear HM0 HB0
      obtain ⟨la, lc, hlv, hlc, -⟩ := OwnV.shape HS.out
      rw [strsV_len, picL_len] at hlv hlc
      subst hlv
      by_cases hlt : k < n
      · have kk : (k : Int) < (n : Int) := by omega
        have hkl : k < L.length := by rw [HN.out]; exact hlt
        have HPL := hidM (pic_line HE.out hkl)
        obtain ⟨ab, ac2, hav2, -, has⟩ := OwnI.shape (OwnV.below HAV.out HB.out)
        obtain ⟨ga, haa, -, -, -, hat⟩ := has (by rw [latL_len]; omega)
        have ca := hat k (by rw [latL_len]; omega)
        rw [Nat.zero_add] at ca
        have hca : (latL L L.length)[k]'(by rw [latL_len]; omega) = (takeK (lanes L k) k : Int) := by unfold latL; simp
        rw [hca] at ca
        have haq : aa = some ⟨ga, 0, none⟩ := by rw [haa] at hav2; simp at hav2; exact hav2.1
        have HPN := hidM (picL_next L k)
        -- the row ahead
        have HROW : Hid (k ≠ 0 → ∃ gr ro u2 u3, ra = some ⟨gr, ro, none⟩ ∧ wr.cell? ⟨gr, ro + (k - 1), none⟩ = some (.slice u2 (lanes L k).length u3) ∧ ∀ j (h : j < (lanes L k).length), ∃ g o, u2 = some ⟨g, o, none⟩ ∧ wr.cell? ⟨g, o + j, none⟩ = some (.int .i64 (lanes L k)[j])) := fun hk0 => by
          obtain ⟨rb, rc2, hrv2, -, hrs⟩ := HRV.out.rows.below HB.out
          obtain ⟨gr, ro, hra, hgr, hrat⟩ := hrs (rowsL_ne (by omega))
          obtain ⟨u, cr, hu⟩ := hrat (k - 1) (by rw [rowsL_len]; omega)
          have hru : (rowsL L L.length)[k - 1]'(by rw [rowsL_len]; omega) = lanes L k := by
            unfold rowsL
            have : k - 1 + 1 = k := by omega
            simp [this]
          rw [hru] at hu
          obtain ⟨ua, uc, rfl, -, -, hus⟩ := hu
          have hrq : ra = some ⟨gr, ro, none⟩ := by rw [hra] at hrv2; simp at hrv2; exact hrv2.1
          refine ⟨gr, ro, ua, uc, hrq, cr, fun j hj => ?_⟩
          obtain ⟨g, o, h1, _, h2⟩ := hus (fun h => by rw [h] at hj; simp at hj)
          exact ⟨g, o, h1, h2 j hj⟩
        have HAZ : Hid (k = 0 → (lanes L k).length = 0) := fun h => by rw [h]; rfl
        subst haq
        obtain ⟨q, hq⟩ : ∃ q, takeK (lanes L k) k = q := ⟨_, rfl⟩
        rw [hq] at ca HPN HPL
        obtain ⟨A, hA⟩ : ∃ A, lanes L k = A := ⟨_, rfl⟩
        rw [hA] at HROW HAZ HPN HPL
        clear hA hq hat has hav2 haa hca
        go_wp2
        go_loop [10, 11] (fun sv jv => ∃ (j : Nat) (S : ByteArray), j ≤ 41 ∧ jv = .int .i64 j ∧ sv = .string S ∧ S = ⟨((List.range j).map (rmarkB k q A)).toArray⟩) (fun _ jv => 41 - (intOf jv).toNat)
        case atStart => exact ⟨0, _, Nat.zero_le _, rfl, rfl, rfl⟩
        case round =>
          obtain ⟨j, S9, hj, rfl, rfl, rfl⟩ := hrel
          by_cases hlj : j < 41
          · have kj : (j : Int) < 41 := by omega
            have HNX : Hid ((⟨((List.range (j + 1)).map (rmarkB k q A)).toArray⟩ : ByteArray) = ⟨((List.range j).map (rmarkB k q A)).toArray⟩ ++ ⟨#[rmarkB k q A j]⟩) := by
              unfold Hid
              rw [List.range_succ, List.map_append]
              exact (app_one _ _).symm
            have hss : (⟨((List.range j).map (rmarkB k q A)).toArray⟩ : ByteArray).size ≤ 41 := by simp [ByteArray.size]; omega
            have hss2 : ¬ 9223372036854775807 < (⟨((List.range j).map (rmarkB k q A)).toArray⟩ : ByteArray).size + 1 := by omega
            generalize (⟨((List.range j).map (rmarkB k q A)).toArray⟩ : ByteArray) = S at *
            by_cases hk0 : k = 0
            · have g0 : ¬ (0 : Int) < (k : Int) := by omega
              have g0d : decide (0 < k) = false := by simp; omega
              have HA0 : Hid (A.length = 0) := HAZ.out hk0
              clear hk0
              by_cases hjq : j = q
              · have e1 : ((j : Int) == (q : Int)) = true := by simp; omega
                have HJQ := hidM hjq
                clear hjq
                have HCH : Hid (rmarkB k q A j = 42) := by
                  unfold Hid rmarkB
                  rw [if_pos HJQ.out]
                rw [HCH.out] at HNX
                go_wp2
                go_round
                case rel => exact ⟨j + 1, _, by omega, by go_num, rfl, by rw [HNX.out]⟩
                case measure => (show 41 - ((j : Int) + 1).toNat < 41 - ((j : Int)).toNat); omega
              · have e1 : ((j : Int) == (q : Int)) = false := by simp; omega
                have HJQ := hidM hjq
                clear hjq
                have HCH : Hid (rmarkB k q A j = 32) := by
                  unfold Hid rmarkB
                  rw [if_neg HJQ.out, if_neg (by rw [HA0.out]; omega)]
                rw [HCH.out] at HNX
                go_wp2
                go_round
                case rel => exact ⟨j + 1, _, by omega, by go_num, rfl, by rw [HNX.out]⟩
                case measure => (show 41 - ((j : Int) + 1).toNat < 41 - ((j : Int)).toNat); omega
            · have g0 : (0 : Int) < (k : Int) := by omega
              have g0d : decide (0 < k) = true := by simp; omega
              have HK0 := hidM hk0
              have hkm : (k : Int) - 1 = ((k - 1 : Nat) : Int) := by omega
              obtain ⟨gr, ro, u2, u3, hraq, crow, hu⟩ := HROW.out hk0
              subst hraq
              obtain ⟨k1, hk1⟩ : ∃ k1, k - 1 = k1 := ⟨_, rfl⟩
              rw [hk1] at hkm crow
              have hk1n : (k1 : Int) < (n : Int) := by omega
              have hk1z : (0 : Int) ≤ (k1 : Int) := by omega
              clear hk0 hk1
              by_cases hja : j < A.length
              · have gj : decide (j < A.length) = true := by simpa using hja
                have gj2 : (j : Int) < (A.length : Int) := by omega
                have hx := hu j hja
                obtain ⟨g, o, hg1, cx⟩ := hx
                subst hg1
                have HGD := hidM (gd_at hja)
                have HJA := hidM hja
                obtain ⟨na, hna⟩ : ∃ na, A.length = na := ⟨_, rfl⟩
                rw [hna] at crow gj gj2
                generalize A[j]'hja = x at *
                clear hja hu hna
                by_cases hxk : (k : Int) < x
                · have gx : decide ((k : Int) < x) = true := by simpa using hxk
                  have gx2 := hxk
                  have HXK := hidM hxk
                  clear hxk
                  by_cases hjq : j = q
                  · have e1 : ((j : Int) == (q : Int)) = true := by simp; omega
                    have HJQ := hidM hjq
                    clear hjq
                    have HCH : Hid (rmarkB k q A j = 42) := by
                      unfold Hid rmarkB
                      rw [if_pos HJQ.out]
                    rw [HCH.out] at HNX
                    go_wp2
                    go_round
                    case rel => exact ⟨j + 1, _, by omega, by go_num, rfl, by rw [HNX.out]⟩
                    case measure => (show 41 - ((j : Int) + 1).toNat < 41 - ((j : Int)).toNat); omega
                  · have e1 : ((j : Int) == (q : Int)) = false := by simp; omega
                    have HJQ := hidM hjq
                    clear hjq
                    have HCH : Hid (rmarkB k q A j = 124) := by
                      unfold Hid rmarkB
                      rw [if_neg HJQ.out, if_pos ⟨HJA.out, by rw [HGD.out]; exact HXK.out⟩]
                    rw [HCH.out] at HNX
                    go_wp2
                    go_round
                    case rel => exact ⟨j + 1, _, by omega, by go_num, rfl, by rw [HNX.out]⟩
                    case measure => (show 41 - ((j : Int) + 1).toNat < 41 - ((j : Int)).toNat); omega
                · have gx : decide ((k : Int) < x) = false := by simpa using hxk
                  have gx2 := hxk
                  have HXK := hidM hxk
                  clear hxk
                  by_cases hjq : j = q
                  · have e1 : ((j : Int) == (q : Int)) = true := by simp; omega
                    have HJQ := hidM hjq
                    clear hjq
                    have HCH : Hid (rmarkB k q A j = 42) := by
                      unfold Hid rmarkB
                      rw [if_pos HJQ.out]
                    rw [HCH.out] at HNX
                    go_wp2
                    go_round
                    case rel => exact ⟨j + 1, _, by omega, by go_num, rfl, by rw [HNX.out]⟩
                    case measure => (show 41 - ((j : Int) + 1).toNat < 41 - ((j : Int)).toNat); omega
                  · have e1 : ((j : Int) == (q : Int)) = false := by simp; omega
                    have HJQ := hidM hjq
                    clear hjq
                    have HCH : Hid (rmarkB k q A j = 32) := by
                      unfold Hid rmarkB
                      rw [if_neg HJQ.out, if_neg (fun h => HXK.out (by have := h.2; rw [HGD.out] at this; exact this))]
                    rw [HCH.out] at HNX
                    go_wp2
                    go_round
                    case rel => exact ⟨j + 1, _, by omega, by go_num, rfl, by rw [HNX.out]⟩
                    case measure => (show 41 - ((j : Int) + 1).toNat < 41 - ((j : Int)).toNat); omega
              · have gj : decide (j < A.length) = false := by simpa using hja
                have gj2 : ¬ (j : Int) < (A.length : Int) := by omega
                have HJA := hidM hja
                obtain ⟨na, hna⟩ : ∃ na, A.length = na := ⟨_, rfl⟩
                rw [hna] at crow gj gj2
                clear hja hu hna
                by_cases hjq : j = q
                · have e1 : ((j : Int) == (q : Int)) = true := by simp; omega
                  have HJQ := hidM hjq
                  clear hjq
                  have HCH : Hid (rmarkB k q A j = 42) := by
                    unfold Hid rmarkB
                    rw [if_pos HJQ.out]
                  rw [HCH.out] at HNX
                  go_wp2
                  go_round
                  case rel => exact ⟨j + 1, _, by omega, by go_num, rfl, by rw [HNX.out]⟩
                  case measure => (show 41 - ((j : Int) + 1).toNat < 41 - ((j : Int)).toNat); omega
                · have e1 : ((j : Int) == (q : Int)) = false := by simp; omega
                  have HJQ := hidM hjq
                  clear hjq
                  have HCH : Hid (rmarkB k q A j = 32) := by
                    unfold Hid rmarkB
                    rw [if_neg HJQ.out, if_neg (fun h => HJA.out h.1)]
                  rw [HCH.out] at HNX
                  go_wp2
                  go_round
                  case rel => exact ⟨j + 1, _, by omega, by go_num, rfl, by rw [HNX.out]⟩
                  case measure => (show 41 - ((j : Int) + 1).toNat < 41 - ((j : Int)).toNat); omega
          · have hj41 : j = 41 := by omega
            subst hj41
            have HT0 : Hid (Lib.trimRightB (⟨((List.range 41).map (rmarkB k q A)).toArray⟩ : ByteArray).data.toList 32 = Lib.trimRightB (lineL q A) 32) := HPL.out.1
            have HS41 : Hid ((⟨((List.range 41).map (rmarkB k q A)).toArray⟩ : ByteArray).size ≤ 41) := by show (⟨((List.range 41).map (rmarkB k q A)).toArray⟩ : ByteArray).size ≤ 41; simp [ByteArray.size]
            generalize (⟨((List.range 41).map (rmarkB k q A)).toArray⟩ : ByteArray) = S0 at *
            obtain ⟨T, hT⟩ : ∃ T, Lib.trimRightB (lineL q A) 32 = T := ⟨_, rfl⟩
            rw [hT] at HT0 HPN
            clear hT HPL HROW HAZ
            go_wp2
            go_loop [10] (fun sv => ∃ S : ByteArray, sv = .string S ∧ Hid (Lib.trimRightB S.data.toList 32 = T) ∧ S.size ≤ 41) (fun sv => strLen sv)
            case atStart => exact ⟨_, rfl, HT0, HS41.out⟩
            case round =>
              obtain ⟨S, rfl, HT, hs41⟩ := hrel
              clear HT0 HS41
              by_cases hs0 : S.size = 0
              · have HTE : Hid (T = S.data.toList) := by
                  unfold Hid
                  rw [← HT.out]
                  have : S.data.toList = [] := List.eq_nil_of_length_eq_zero (by rw [len_size]; exact hs0)
                  rw [this]; rfl
                have g1 : decide ((0 : Int) < (S.size : Int)) = false := by rw [hs0]; rfl
                have g1n : ¬ (0 : Int) < (S.size : Int) := by omega
                have HSE : Hid (S = ⟨T.toArray⟩) := by unfold Hid; rw [HTE.out]
                have HBW : Hid (Below wr.heap.size wr (wr.alloc (.cells #[.string S] 9))) := (Below.refl _ wr).alloc (Nat.le_refl _) _
                have HS3 := hidM (OwnV.below HS.out HBW.out)
                have hs2 := HB.out.size
                go_wp2_with (at_builtin; go_loud (refine wpList_append_own_at _ rfl _ _ 31 rfl w1.heap.size 9 I9 (.string .empty) 1 16 Tryd.underlying31 I9a I9b I9c I9d rfl (by decide) (.slice la k lc) k (strsV (picL L k)) rfl ?rp0 ⟨wr.heap.size, 0, none⟩ 1 1 [.string S] ?rpd ?rp1 ?rp2 ?rp3 ?rp4 ?rp5 ?rp6 ?_))
                try (case rp0 => have h9 := HS3.out; unfold OwnV at h9; rw [strsV_len, picL_len] at h9; exact h9)
                try (case rpd => rfl)
                try (case rp1 => rfl)
                try (case rp2 => exact World.news_of_block (heap_alloc_new _ _))
                try (case rp3 => first | rfl | (intro u hu; simp at hu; subst hu; rfl))
                try (case rp4 => unfold maxLen; omega)
                try (case rp5 => omega)
                try (case rp6 => first | omega | (simp; omega))
                intro v3 w3 hown hgrow hnil hat3
                have HS4 : Hid (OwnS w3 w1.heap.size v3 (picL L (k + 1))) := by
                  unfold Hid OwnS OwnV
                  rw [HPN.out, strsV_app, List.length_append, strsV_len, picL_len, ← HSE.out]
                  exact hown
                have HB4 : Hid (Below w1.heap.size w1 w3) := (HB.out.alloc hs2 _).grown hgrow (by simp; omega) (fun b hb => (OwnV.lt HS3.out hb).1)
                clear hown hgrow hnil hat3 HS3 HBW
                go_wp2
                go_roundw
                case rel => exact ⟨k + 1, by omega, by go_num, HS4, HB4⟩
                case measure => (show n - ((k : Int) + 1).toNat < n - ((k : Int)).toNat); omega
              · obtain ⟨m, hm⟩ : ∃ m, S.size = m + 1 := ⟨S.size - 1, by omega⟩
                have hmS : m < S.size := by omega
                have e2 : (S.size : Int) - 1 = (m : Int) := by omega
                have g1n : (0 : Int) < (S.size : Int) := by omega
                have hm0 : (m : Int) < (S.size : Int) := by omega
                have HM := hidM hm
                have HLS : Hid (S.data.toList = S.data.toList.take m ++ [S[m]]) := by
                  unfold Hid
                  have h9 := List.take_succ_eq_append_getElem (l := S.data.toList) (i := m) (by rw [len_size]; exact hmS)
                  rw [List.take_of_length_le (by rw [len_size]; omega)] at h9
                  exact h9
                clear hm hs0
                by_cases hc : S[m] = 32
                · have e3 : ((S[m].toNat : Int) == 32) = true := by rw [hc]; rfl
                  have HT2 : Hid (Lib.trimRightB (S.extract 0 m).data.toList 32 = T) := by
                    unfold Hid
                    rw [← HT.out]
                    conv => rhs; rw [HLS.out, hc, trim_snoc]
                    congr 1
                    simp
                  have HSZ : Hid ((S.extract 0 m).size = m) := by unfold Hid; simp; omega
                  clear hc
                  go_wp2
                  go_round
                  case rel => exact ⟨_, rfl, HT2, by have := HSZ.out; have := HM.out; omega⟩
                  case measure => (show (S.extract 0 m).size < S.size); have := HSZ.out; omega
                · have e3 : ((S[m].toNat : Int) == 32) = false := by
                    simp
                    intro h
                    exact hc (UInt8.toNat_inj.1 (by show S[m].toNat = 32; omega))
                  have HTE : Hid (T = S.data.toList) := by
                    unfold Hid
                    rw [← HT.out]
                    refine trim_done _ fun b hb => ?_
                    rw [HLS.out] at hb
                    simp at hb
                    rw [← hb]; exact hc
                  clear hc
                  have HSE : Hid (S = ⟨T.toArray⟩) := by unfold Hid; rw [HTE.out]
                  have HBW : Hid (Below wr.heap.size wr (wr.alloc (.cells #[.string S] 9))) := (Below.refl _ wr).alloc (Nat.le_refl _) _
                  have HS3 := hidM (OwnV.below HS.out HBW.out)
                  have hs2 := HB.out.size
                  go_wp2_with (at_builtin; go_loud (refine wpList_append_own_at _ rfl _ _ 31 rfl w1.heap.size 9 I9 (.string .empty) 1 16 Tryd.underlying31 I9a I9b I9c I9d rfl (by decide) (.slice la k lc) k (strsV (picL L k)) rfl ?rq0 ⟨wr.heap.size, 0, none⟩ 1 1 [.string S] ?rqd ?rq1 ?rq2 ?rq3 ?rq4 ?rq5 ?rq6 ?_))
                  try (case rq0 => have h9 := HS3.out; unfold OwnV at h9; rw [strsV_len, picL_len] at h9; exact h9)
                  try (case rqd => rfl)
                  try (case rq1 => rfl)
                  try (case rq2 => exact World.news_of_block (heap_alloc_new _ _))
                  try (case rq3 => first | rfl | (intro u hu; simp at hu; subst hu; rfl))
                  try (case rq4 => unfold maxLen; omega)
                  try (case rq5 => omega)
                  try (case rq6 => first | omega | (simp; omega))
                  intro v3 w3 hown hgrow hnil hat3
                  have HS4 : Hid (OwnS w3 w1.heap.size v3 (picL L (k + 1))) := by
                    unfold Hid OwnS OwnV
                    rw [HPN.out, strsV_app, List.length_append, strsV_len, picL_len, ← HSE.out]
                    exact hown
                  have HB4 : Hid (Below w1.heap.size w1 w3) := (HB.out.alloc hs2 _).grown hgrow (by simp; omega) (fun b hb => (OwnV.lt HS3.out hb).1)
                  clear hown hgrow hnil hat3 HS3 HBW
                  go_wp2
                  go_roundw
                  case rel => exact ⟨k + 1, by omega, by go_num, HS4, HB4⟩
                  case measure => (show n - ((k : Int) + 1).toNat < n - ((k : Int)).toNat); omega
      · have hkn : k = n := by omega
        subst hkn
        have kk : ¬ (k : Int) < (k : Int) := by omega
        go_wp2
        go_ret2
        exact .inr ⟨HE.out, _, rfl, by rw [HN.out]; exact OwnV.mono HS.out HB1.out.size, HB1.out.trans (HB.out.mono HB1.out.size)⟩
end Go.Proofs.YthgmabbnmoembaaDoor
