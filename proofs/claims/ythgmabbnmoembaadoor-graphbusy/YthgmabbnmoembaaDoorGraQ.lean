/-
  The law of the lanes that lead on: GraphBusy.
-/
import Derived.Test.YthgmabbnmoembaaDoorGraO
namespace Go.Proofs.YthgmabbnmoembaaDoor
open Go.RowKit

/-- is k named by one of the first j? -/
def nmB (P : List (List Int)) (j k : Nat) : Bool := (List.range j).any fun t => decide ((k : Int) ∈ P.getD t [])
theorem nmB_next {P : List (List Int)} {j k : Nat} (h : j < P.length) : nmB P (j + 1) k = (nmB P j k || decide ((k : Int) ∈ P[j])) := by
  unfold nmB
  rw [List.range_succ, List.any_append]
  simp only [List.any_cons, List.any_nil, Bool.or_false, gdL_at h]
theorem nmB_iff {P : List (List Int)} {j k : Nat} : nmB P j k = true ↔ named P j (k : Int) := by
  unfold nmB named
  rw [List.any_eq_true]
  constructor
  · rintro ⟨t, ht, h⟩
    exact ⟨t, List.mem_range.1 ht, by simpa using h⟩
  · rintro ⟨t, ht, h⟩
    exact ⟨t, List.mem_range.2 ht, by simpa using h⟩
set_option maxHeartbeats 8000000 in
set_option maxRecDepth 50000 in
theorem graphBusy_any (v : Value) (L : List (List Int)) (w : World) (hv : RowsV w v L) :
    Calls Tryd.prog 6 #[v] w fun e w' => e = .returned (.bool true) ∧ Below w.heap.size w w' := by
  have HV := hidM hv
  obtain ⟨a, cp, rfl, -, -⟩ := hv
  obtain ⟨n0, hn0⟩ : ∃ n0, L.length = n0 := ⟨_, rfl⟩
  rw [hn0] at HV ⊢
  clear hn0
  have HFW := hidM (few_any _ L w HV.out)
  have HF2 := hidM (few_le L)
  have HF3 := hidM (few_row L)
  unfold FewPost at HFW
  generalize fewL L = F at *
  obtain ⟨n, hn⟩ : ∃ n, F.length = n := ⟨_, rfl⟩
  have HN := hidM hn
  clear hn
  go_enter Tryd.func6, Tryd.ntmps6
  go_wp2_with fail
  refine HFW.out.mono ?_
  rintro _ w1 ⟨v1, rfl, ho1, hb1⟩
  have HI1 := hidM ho1.rows
  have HB1 := hidM hb1
  obtain ⟨ia, ic, hiv⟩ := ho1.len
  rw [HN.out] at hiv
  subst hiv
  clear ho1 hb1 HFW
  have HPL := hidM (places_any _ F w1 HI1.out (by have := HF2.out; omega) HF3.out)
  go_wp2_with fail
  refine HPL.out.mono ?_
  rintro _ w2 (⟨hne, rfl, hb2⟩ | ⟨he, av, rv, rfl, ha2, hr2, hb2⟩)
  · have HB2 := hidM (HB1.out.trans (hb2.mono HB1.out.size))
    obtain ⟨z, hz⟩ : ∃ z, placesE F = z := ⟨_, rfl⟩
    rw [hz] at hne ⊢
    have zz : ((z : Int) == 0) = false := by simp; omega
    clear hz hb2 HPL hne
    go_wp2_with fail
    refine (awake_any w2).mono ?_
    rintro _ w3 ⟨rfl, hb3⟩
    have HB3 := hidM (HB2.out.trans (hb3.mono HB2.out.size))
    clear hb3
    go_wp2
    go_ret
    exact ⟨rfl, HB3.out⟩
  · have HE := hidM he
    rw [HN.out] at ha2 hr2
    have HA2 := hidM ha2
    have HR2 := hidM hr2
    have HI2 := hidM (HI1.out.below hb2)
    have HB2 := hidM (HB1.out.trans (hb2.mono HB1.out.size))
    obtain ⟨aa, ac, hav, hac, -⟩ := ha2.shape
    rw [atL_len] at hav hac
    subst hav
    obtain ⟨ra, rc, hrv⟩ := hr2.len
    rw [rowsL_len] at hrv
    subst hrv
    have HOL : Hid (∀ i (hi : i < F.length), olderB i F.length F[i] = true) := (check_ok (places_zero he).1).2
    clear he ha2 hr2 hb2 HPL HI1 HB1
    have HG : Hid (0 < n → ∃ g o, ra = some ⟨g, o, none⟩ ∧ ∀ i, i < n → ∃ ua uc, w2.cell? ⟨g, o + i, none⟩ = some (.slice ua (lanes F (i + 1)).length uc) ∧ ∀ s (hs : s < (lanes F (i + 1)).length), ∃ g1 o1, ua = some ⟨g1, o1, none⟩ ∧ w2.cell? ⟨g1, o1 + s, none⟩ = some (.int .i64 (lanes F (i + 1))[s])) := by
      intro h0
      obtain ⟨x1, x2, x3, -, x4⟩ := HR2.out.rows
      obtain ⟨g, o, x5, -, x6⟩ := x4 (rowsL_ne h0)
      refine ⟨g, o, by rw [x5] at x3; simp at x3; exact x3.1, fun i hi => ?_⟩
      obtain ⟨u, cr, hu⟩ := x6 i (by rw [rowsL_len]; exact hi)
      have hru : (rowsL F n)[i]'(by rw [rowsL_len]; exact hi) = lanes F (i + 1) := by unfold rowsL; simp
      rw [hru] at hu
      obtain ⟨ua, uc, rfl, -, -, hus⟩ := hu
      refine ⟨ua, uc, cr, fun s hs => ?_⟩
      obtain ⟨g1, o1, h1, _, h2⟩ := hus (fun h => by rw [h] at hs; simp at hs)
      exact ⟨g1, o1, h1, h2 s hs⟩
    have HIN : Hid (0 < n → ∃ g o, ia = some ⟨g, o, none⟩ ∧ ∀ i (hi : i < F.length), ∃ ua uc, w2.cell? ⟨g, o + i, none⟩ = some (.slice ua F[i].length uc) ∧ ∀ s (hs : s < F[i].length), ∃ g1 o1, ua = some ⟨g1, o1, none⟩ ∧ w2.cell? ⟨g1, o1 + s, none⟩ = some (.int .i64 F[i][s])) := by
      intro h0
      obtain ⟨x1, x2, x3, -, x4⟩ := HI2.out
      obtain ⟨g, o, x5, -, x6⟩ := x4 (fun h => by have := HN.out; rw [h] at this; simp at this; omega)
      refine ⟨g, o, by rw [x5] at x3; simp at x3; exact x3.1, fun i hi => ?_⟩
      obtain ⟨u, cr, hu⟩ := x6 i hi
      obtain ⟨ua, uc, rfl, -, -, hus⟩ := hu
      refine ⟨ua, uc, cr, fun s hs => ?_⟩
      obtain ⟨g1, o1, h1, _, h2⟩ := hus (fun h => by rw [h] at hs; simp at hs)
      exact ⟨g1, o1, h1, h2 s hs⟩
    have hic : n ≤ ic := by
      obtain ⟨x1, x2, x3, x4, _⟩ := HI2.out
      have := HN.out
      simp at x3
      omega
    have hn220 : n ≤ 220 := by have := HF2.out; have := HN.out; omega
    clear HR2 HI2 HA2
    go_wp2
    go_loop [46] (fun iv => ∃ (i : Nat), i ≤ n ∧ iv = .int .i64 i) (fun iv => n - (intOf iv).toNat)
    case atStart => exact ⟨0, Nat.zero_le _, rfl⟩
    case round =>
      obtain ⟨i, hi, rfl⟩ := hrel
      by_cases hlt : i < n
      · have kk : (i : Int) < (n : Int) := by omega
        obtain ⟨gr, ro, hra, hrows⟩ := HG.out (by omega)
        subst hra
        obtain ⟨ua, uc, cr, hcells⟩ := hrows i hlt
        obtain ⟨gi, io, hia, hins⟩ := HIN.out (by omega)
        subst hia
        have HINS := hidM hins
        have HCL := hidM hcells
        have hl40 := (places_zero HE.out).2 i (by rw [HN.out]; exact hlt)
        have HINV := hidM (lanes_inv (ok_of_check (places_zero HE.out).1) (i + 1) (by rw [HN.out]; omega))
        generalize lanes F (i + 1) = R at *
        obtain ⟨nr, hnr⟩ : ∃ nr, R.length = nr := ⟨_, rfl⟩
        have HNR := hidM hnr
        rw [hnr] at cr hl40
        have i1 : (i : Int) + 1 ≤ (ic : Int) := by omega
        clear hrows hins hcells hnr
        go_wp2
        go_loop [9] (fun kv => ∃ (k : Nat), k ≤ n ∧ kv = .int .i64 k) (fun kv => n - (intOf kv).toNat)
        case atStart => exact ⟨0, Nat.zero_le _, rfl⟩
        case round =>
          obtain ⟨k, hk, rfl⟩ := hrel
          clear cr
          by_cases hlk : k < n
          · have kk2 : (k : Int) < (n : Int) := by omega
            go_wp2
            go_loop [10, 62] (fun bv jv => ∃ (j : Nat), j ≤ i + 1 ∧ jv = .int .i64 j ∧ bv = .bool (nmB F j k)) (fun _ jv => i + 1 - (intOf jv).toNat)
            case atStart => exact ⟨0, Nat.zero_le _, rfl, rfl⟩
            case round =>
              obtain ⟨j, hj, rfl, rfl⟩ := hrel
              by_cases hlj : j < i + 1
              · have kj : (j : Int) < (i : Int) + 1 := by omega
                have hjF : j < F.length := by rw [HN.out]; omega
                obtain ⟨pa, pc, cp, hps⟩ := HINS.out j hjF
                have hp60 := HF3.out _ (List.getElem_mem hjF)
                have HNB := hidM (nmB_next (P := F) (k := k) hjF)
                generalize F[j] = ps at *
                obtain ⟨m, hm⟩ : ∃ m, ps.length = m := ⟨_, rfl⟩
                have HM := hidM hm
                rw [hm] at cp hp60
                have HPS := hidM hps
                obtain ⟨b, hb⟩ : ∃ b, nmB F j k = b := ⟨_, rfl⟩
                rw [hb] at HNB ⊢
                clear hps hm hb
                go_wp2
                go_loop [10, 68] (fun bv sv => ∃ (s : Nat), s ≤ m ∧ sv = .int .i64 s ∧ bv = .bool (b || decide ((k : Int) ∈ ps.take s))) (fun _ sv => m - (intOf sv).toNat)
                case atStart => exact ⟨0, Nat.zero_le _, rfl, by simp⟩
                case round =>
                  obtain ⟨s, hs, rfl, rfl⟩ := hrel
                  clear cp
                  by_cases hls : s < m
                  · have ks : (s : Int) < (m : Int) := by omega
                    have hsl : s < ps.length := by rw [HM.out]; exact hls
                    obtain ⟨g1, o1, hg1, cs⟩ := HPS.out s hsl
                    subst hg1
                    have hnx : decide ((k : Int) ∈ ps.take (s + 1)) = (decide ((k : Int) ∈ ps.take s) || decide (ps[s] = (k : Int))) := by
                      have h1 : ((k : Int) ∈ ps.take (s + 1)) ↔ ((k : Int) ∈ ps.take s ∨ (k : Int) = ps[s]) := by rw [List.take_succ_eq_append_getElem hsl, List.mem_append, List.mem_singleton]
                      by_cases h2 : (k : Int) ∈ ps.take s
                      · simp only [decide_eq_true h2, Bool.true_or, decide_eq_true (h1.2 (.inl h2))]
                      · by_cases h3 : ps[s] = (k : Int)
                        · rw [decide_eq_true (h1.2 (.inr h3.symm)), decide_eq_true h3]; simp
                        · rw [decide_eq_false (fun h => (h1.1 h).elim h2 (fun h4 => h3 h4.symm)), decide_eq_false h2, decide_eq_false h3]; rfl
                    have HNX := hidM hnx
                    clear hnx
                    generalize decide ((k : Int) ∈ ps.take s) = b1 at *
                    generalize ps[s] = x at *
                    by_cases hx : x = (k : Int)
                    · have e1 : (x == (k : Int)) = true := by simp [hx]
                      have HD : Hid (decide (x = (k : Int)) = true) := by unfold Hid; simp [hx]
                      rw [HD.out] at HNX
                      clear hx HD
                      cases b <;> cases b1
                      all_goals
                        go_wp2
                        go_round
                        case rel => exact ⟨s + 1, by omega, by go_num, by rw [HNX.out]; rfl⟩
                        case measure => (show m - ((s : Int) + 1).toNat < m - ((s : Int)).toNat); omega
                    · have e1 : (x == (k : Int)) = false := by simp [hx]
                      have HD : Hid (decide (x = (k : Int)) = false) := by unfold Hid; simp [hx]
                      rw [HD.out] at HNX
                      clear hx HD
                      cases b <;> cases b1
                      all_goals
                        go_wp2
                        go_round
                        case rel => exact ⟨s + 1, by omega, by go_num, by rw [HNX.out]; rfl⟩
                        case measure => (show m - ((s : Int) + 1).toNat < m - ((s : Int)).toNat); omega
                  · have hsm : s = m := by omega
                    subst hsm
                    have ks : ¬ (s : Int) < (s : Int) := by omega
                    have HNB2 : Hid (nmB F (j + 1) k = (b || decide ((k : Int) ∈ ps.take s))) := by unfold Hid; rw [HNB.out, List.take_of_length_le (by rw [HM.out]; exact Nat.le_refl _)]
                    generalize (b || decide ((k : Int) ∈ ps.take s)) = b2 at *
                    go_wp2
                    go_round
                    case rel => exact ⟨j + 1, by omega, by go_num, by rw [HNB2.out]⟩
                    case measure => (show i + 1 - ((j : Int) + 1).toNat < i + 1 - ((j : Int)).toNat); omega
              · have hji : j = i + 1 := by omega
                have kj : ¬ (j : Int) < (i : Int) + 1 := by omega
                have hjd : decide (j < i + 1) = false := by simp; omega
                have HCNT : Hid (R.count (k : Int) = if nmB F (i + 1) k = true ∧ i < k then 1 else 0) := by
                  unfold Hid
                  by_cases hnm : nmB F (i + 1) k = true ∧ i < k
                  · rw [if_pos hnm]
                    exact HINV.out.one k (by omega) (nmB_iff.1 hnm.1) (by omega)
                  · rw [if_neg hnm]
                    exact HINV.out.no k (by omega) (fun h => hnm ⟨nmB_iff.2 h.1, by omega⟩)
                rw [hji]
                obtain ⟨b, hb⟩ : ∃ b, nmB F (i + 1) k = b := ⟨_, rfl⟩
                rw [hb] at HCNT ⊢
                obtain ⟨j2, hj2⟩ : ∃ j2 : Nat, i + 1 = j2 := ⟨_, rfl⟩
                have kj2 : ¬ (j2 : Int) < (i : Int) + 1 := by omega
                rw [hj2]
                clear hb hji hjd kj hj hlj hj2
                go_wp2
                go_loop [15, 82] (fun nv sv => ∃ (s : Nat), s ≤ nr ∧ sv = .int .i64 s ∧ nv = .int .i64 ((R.take s).count (k : Int) : Nat)) (fun _ sv => nr - (intOf sv).toNat)
                case atStart => exact ⟨0, Nat.zero_le _, rfl, rfl⟩
                case round =>
                  obtain ⟨s, hs, rfl, rfl⟩ := hrel
                  by_cases hls : s < nr
                  · have ks : (s : Int) < (nr : Int) := by omega
                    have hsl : s < R.length := by rw [HNR.out]; exact hls
                    obtain ⟨g1, o1, hg1, cs⟩ := HCL.out s hsl
                    subst hg1
                    have HTC : Hid ((R.take (s + 1)).count (k : Int) = (R.take s).count (k : Int) + if R[s] = (k : Int) then 1 else 0) := by
                      unfold Hid
                      rw [List.take_succ_eq_append_getElem hsl, List.count_append]
                      simp [List.count_cons]
                    have hcl : (R.take s).count (k : Int) ≤ 40 := Nat.le_trans List.count_le_length (by rw [List.length_take]; omega)
                    generalize (R.take s).count (k : Int) = c at *
                    generalize R[s] = x at *
                    by_cases hx : x = (k : Int)
                    · have e1 : (x == (k : Int)) = true := by simp [hx]
                      rw [if_pos hx] at HTC
                      clear hx
                      go_wp2
                      go_round
                      case rel => exact ⟨s + 1, by omega, by go_num, by rw [HTC.out]; go_num⟩
                      case measure => (show nr - ((s : Int) + 1).toNat < nr - ((s : Int)).toNat); omega
                    · have e1 : (x == (k : Int)) = false := by simp [hx]
                      rw [if_neg hx] at HTC
                      clear hx
                      go_wp2
                      go_round
                      case rel => exact ⟨s + 1, by omega, by go_num, by rw [HTC.out]; go_num⟩
                      case measure => (show nr - ((s : Int) + 1).toNat < nr - ((s : Int)).toNat); omega
                  · have hsn : s = nr := by omega
                    subst hsn
                    have ks : ¬ (s : Int) < (s : Int) := by omega
                    rw [List.take_of_length_le (by rw [HNR.out]; exact Nat.le_refl _), HCNT.out]
                    clear HCNT
                    cases b with
                    | true =>
                      by_cases hik : i < k
                      · have h1 : (i : Int) < (k : Int) := by omega
                        have h2 : ¬ (k : Int) ≤ (i : Int) := by omega
                        rw [if_pos ⟨rfl, hik⟩]
                        go_wp2
                        go_round
                        case rel => exact ⟨k + 1, by omega, by go_num⟩
                        case measure => (show n - ((k : Int) + 1).toNat < n - ((k : Int)).toNat); omega
                      · have h1 : ¬ (i : Int) < (k : Int) := by omega
                        have h2 : (k : Int) ≤ (i : Int) := by omega
                        rw [if_neg (fun h => hik h.2)]
                        go_wp2
                        go_round
                        case rel => exact ⟨k + 1, by omega, by go_num⟩
                        case measure => (show n - ((k : Int) + 1).toNat < n - ((k : Int)).toNat); omega
                    | false =>
                      rw [if_neg (fun h => nomatch h.1)]
                      go_wp2
                      go_round
                      case rel => exact ⟨k + 1, by omega, by go_num⟩
                      case measure => (show n - ((k : Int) + 1).toNat < n - ((k : Int)).toNat); omega
          · have hkn : k = n := by omega
            subst hkn
            have kk2 : ¬ (k : Int) < (k : Int) := by omega
            by_cases h40 : 40 < i
            · have h41 : (40 : Int) < (i : Int) := by omega
              go_wp2_with fail
              refine (awake_any _).mono ?_
              rintro _ w3 ⟨rfl, hb3⟩
              have HB3 := hidM (HB2.out.trans (hb3.mono HB2.out.size))
              clear hb3
              go_wp2
              go_ret
              exact ⟨rfl, HB3.out⟩
            · have h41 : ¬ (40 : Int) < (i : Int) := by omega
              go_wp2
              go_round
              case rel => exact ⟨i + 1, by omega, by go_num⟩
              case measure => (show k - ((i : Int) + 1).toNat < k - ((i : Int)).toNat); omega
      · have hin : i = n := by omega
        subst hin
        have kk : ¬ (i : Int) < (i : Int) := by omega
        go_wp2_with fail
        refine (awake_any _).mono ?_
        rintro _ w3 ⟨rfl, hb3⟩
        have HB3 := hidM (HB2.out.trans (hb3.mono HB2.out.size))
        clear hb3
        go_wp2
        go_ret
        exact ⟨rfl, HB3.out⟩
end Go.Proofs.YthgmabbnmoembaaDoor
