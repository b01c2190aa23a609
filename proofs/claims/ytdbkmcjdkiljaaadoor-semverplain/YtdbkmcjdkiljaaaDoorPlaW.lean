/-
  The law SemverPlain, walked.
-/
import Derived.Test.YtdbkmcjdkiljaaaDoorSemN
namespace Go.Proofs.YtdbkmcjdkiljaaaDoor
open Go.RowKit

set_option maxHeartbeats 8000000 in
set_option maxRecDepth 100000 in
theorem plain_walk (s : ByteArray) (w : World) (hs : s.size ≤ 140737488355328) :
    Calls Tryd.prog 7 #[.string s] w fun e w' => e = .returned (.bool true) ∧ Below w.heap.size w w' := by
  have HCA := hidM (canonical_any s w (by omega))
  have HP := hidM (fun V => parse_any s V (by omega))
  have HM := hidM (fun V => major_any s V (by omega))
  have HAW := hidM (fun V => awake_any V)
  cases hv : parseR s with
  | none =>
    have e1 : canS s = ⟨#[]⟩ := by unfold canS; rw [hv]
    have e2 : majS s = ⟨#[]⟩ := by unfold majS; rw [hv]
    rw [e1] at HCA
    rw [e2] at HM
    rw [hv] at HP
    simp only [Option.getD_none, Option.isSome_none] at HP
    clear e1 e2 hv hs
    generalize noVer = x at *
    go_enter Tryd.func7, Tryd.ntmps7
    go_wp2_with fail
    refine HCA.out.mono ?_
    rintro _ v1 ⟨rfl, hb⟩
    have HB1 := hidM hb
    clear hb
    go_wp2_with fail
    refine (HP.out _).mono ?_
    rintro _ v2 ⟨rfl, hb⟩
    have HB2 := hidM (HB1.out.trans (hb.mono HB1.out.size))
    clear hb
    have HB3 : Hid (Below w.heap.size w (v2.alloc (.cells #[.string x.major, .string x.minor, .string x.patch, .string x.pre, .string x.build, .int .i64 (x.short : Int)] 23))) := HB2.out.alloc HB2.out.size _
    go_wp2_with fail
    generalize (v2.alloc (.cells #[.string x.major, .string x.minor, .string x.patch, .string x.pre, .string x.build, .int .i64 (x.short : Int)] 23)) = W2 at *
    refine (HAW.out W2).mono ?_
    rintro _ v4 ⟨rfl, hb⟩
    have HB4 := hidM (HB3.out.trans (hb.mono HB3.out.size))
    clear hb
    go_wp2_with fail
    refine (HM.out _).mono ?_
    rintro _ v5 ⟨rfl, hb⟩
    have HB5 := hidM (HB4.out.trans (hb.mono HB4.out.size))
    clear hb
    go_wp2
    go_ret
    exact ⟨rfl, HB5.out⟩
  | some v =>
    have hr := ver_right hv
    have e1 : canS s = canV v := by unfold canS; rw [hv]
    have b0 := can_size v
    rw [← empty_beq] at b0
    clear HP
    by_cases hz : (canV v).size ≤ 100
    · have hq := parse_can hr hz
      have e2 : canS (canV v) = canV v := by unfold canS; rw [hq]; rfl
      have e3 : cmpS s (canV v) = 0 := by
        unfold cmpS
        rw [hv, hq]
        exact cmp_bare v
      have e4 : majS (canV v) = majS s := by unfold majS; rw [hv, hq]; rfl
      have HCC := hidM (fun V => canonical_any (canV v) V (by omega))
      have HCM := hidM (fun V => compare_any s (canV v) V (by omega) (by omega))
      have HMC := hidM (fun V => major_any (canV v) V (by omega))
      rw [e1] at HCA
      rw [e2] at HCC
      rw [e3] at HCM
      rw [e4] at HMC
      clear hq e1 e2 e3 e4 hr hv hs
      generalize canV v = C at *
      generalize majS s = M at *
      have z1 : decide ((100 : Int) < (C.size : Int)) = false := decide_eq_false (by omega)
      have z2 : decide (100 < C.size) = false := decide_eq_false (by omega)
      clear hz
      go_enter Tryd.func7, Tryd.ntmps7
      go_wp2_with fail
      refine HCA.out.mono ?_
      rintro _ v1 ⟨rfl, hb⟩
      have HB1 := hidM hb
      clear hb
      go_wp2_with fail
      refine (HAW.out _).mono ?_
      rintro _ v2 ⟨rfl, hb⟩
      have HB2 := hidM (HB1.out.trans (hb.mono HB1.out.size))
      clear hb
      go_wp2_with fail
      refine (HCC.out _).mono ?_
      rintro _ v3 ⟨rfl, hb⟩
      have HB3 := hidM (HB2.out.trans (hb.mono HB2.out.size))
      clear hb
      go_wp2_with fail
      refine (HCM.out _).mono ?_
      rintro _ v4 ⟨rfl, hb⟩
      have HB4 := hidM (HB3.out.trans (hb.mono HB3.out.size))
      clear hb
      go_wp2_with fail
      refine (HM.out _).mono ?_
      rintro _ v5 ⟨rfl, hb⟩
      have HB5 := hidM (HB4.out.trans (hb.mono HB4.out.size))
      clear hb
      go_wp2_with fail
      refine (HMC.out _).mono ?_
      rintro _ v6 ⟨rfl, hb⟩
      have HB6 := hidM (HB5.out.trans (hb.mono HB5.out.size))
      clear hb
      go_wp2
      go_ret
      exact ⟨rfl, HB6.out⟩
    · rw [e1] at HCA
      clear e1 hr hv hs HM
      generalize canV v = C at *
      have z1 : decide ((100 : Int) < (C.size : Int)) = true := decide_eq_true (by omega)
      have z2 : decide (100 < C.size) = true := decide_eq_true (by omega)
      clear hz
      go_enter Tryd.func7, Tryd.ntmps7
      go_wp2_with fail
      refine HCA.out.mono ?_
      rintro _ v1 ⟨rfl, hb⟩
      have HB1 := hidM hb
      clear hb
      go_wp2_with fail
      refine (HAW.out _).mono ?_
      rintro _ v2 ⟨rfl, hb⟩
      have HB2 := hidM (HB1.out.trans (hb.mono HB1.out.size))
      clear hb
      go_wp2
      go_ret
      exact ⟨rfl, HB2.out⟩
end Go.Proofs.YtdbkmcjdkiljaaaDoor
