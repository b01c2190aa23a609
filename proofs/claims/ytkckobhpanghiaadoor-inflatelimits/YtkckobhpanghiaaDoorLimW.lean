/-
  The law InflateLimits, walked.
-/
import Derived.Test.YtkckobhpanghiaaDoorInfL
namespace Go.Proofs.YtkckobhpanghiaaDoor
open Go.RowKit

theorem InfQ.len0 {l : List UInt8} {a m : Int} {r : List UInt8 × Nat × Nat} (h : InfQ l a m r) (h0 : r.2.2 = 0) : (r.1.length : Int) ≤ m := by
  rcases h with ⟨_, rfl⟩ | ⟨A, M, _, rfl, _, _, ⟨n, hn, _, rfl⟩ | ⟨t, o, _, _, ho, rfl⟩⟩
  · cases h0
  · exact absurd h0 hn
  · show (o.length : Int) ≤ M
    omega
theorem InfQ.more {l : List UInt8} {a m m' : Int} {r r' : List UInt8 × Nat × Nat} (h : InfQ l a m r) (h' : InfQ l a m' r') (hm : 0 ≤ m) (hmm : m ≤ m') (h65 : m' ≤ 65536) (ha : 0 ≤ a) (hal : a ≤ l.length) (h2 : r.2.2 ≠ 2) : r = r' := by
  obtain ⟨A, rfl⟩ : ∃ A : Nat, a = A := ⟨a.toNat, by omega⟩
  obtain ⟨N, rfl⟩ : ∃ N : Nat, m' = N := ⟨m'.toNat, by omega⟩
  rcases h with ⟨h, _⟩ | ⟨A', M, ha, rfl, _, _, ⟨n, hn, hr, rfl⟩ | ⟨t, o, hr, _, ho, rfl⟩⟩
  · omega
  · obtain rfl : A = A' := by omega
    exact (h'.runBad (by omega) (by omega) (limit_run (by omega) hr (fun e => h2 (by cases e; rfl)))).symm
  · obtain rfl : A = A' := by omega
    exact (h'.run (by omega) (by omega) (limit_run (by omega) hr (fun e => by cases e))).symm
set_option maxHeartbeats 4000000 in
set_option maxRecDepth 100000 in
theorem limits_walk (s : ByteArray) (most more : Int) (w : World) (hG : GOk w) :
    Calls Tryd.prog 7 #[.string s, .int .i64 most, .int .i64 more] w fun e w' => e = .returned (.bool true) ∧ Below w.heap.size w w' := by
  have HG := hidM hG
  clear hG
  go_enter Tryd.func7, Tryd.ntmps7
  go_wp2_with fail
  refine (fewS_any s 400 w).mono ?_
  rintro _ w0 ⟨⟨T, rfl, hT, _⟩, h0⟩
  rw [h0]
  clear h0 w0
  go_wp2_with fail
  refine (inflate_any T 0 most w (by omega) HG.out.1 HG.out.2).mono ?_
  rintro _ w1 ⟨⟨⟨o1, n1, e1⟩, hq1, rfl⟩, hb1⟩
  have HQ1 := hidM hq1
  have HB1 := hidM hb1
  have HG1 := hidM (HG.out.below hb1)
  clear hq1 hb1
  go_wp2_with fail
  refine (inflate_any T 0 more w1 (by omega) HG1.out.1 HG1.out.2).mono ?_
  rintro _ w2 ⟨⟨⟨o2, n2, e2⟩, hq2, rfl⟩, hb2⟩
  have HQ2 := hidM hq2
  have HB2 : Hid (Below w.heap.size w w2) := HB1.out.trans (hb2.mono HB1.out.size)
  have HG2 := hidM (HG1.out.below hb2)
  clear hq2 hb2
  have HL1 : Hid (e1 = 0 → ((⟨o1.toArray⟩ : ByteArray).size : Int) ≤ most) := fun h => by
    have := HQ1.out.len0 h
    show ((o1.toArray.size : Nat) : Int) ≤ most
    rw [List.size_toArray]; exact this
  have HL2 : Hid (e2 = 0 → ((⟨o2.toArray⟩ : ByteArray).size : Int) ≤ more) := fun h => by
    have := HQ2.out.len0 h
    show ((o2.toArray.size : Nat) : Int) ≤ more
    rw [List.size_toArray]; exact this
  have HAW := hidM (awake_any w2 HG2.out)
  have HEND : Hid (∀ w3, Below w2.heap.size w2 w3 → Below w.heap.size w w3) := fun w3 h => HB2.out.trans (h.mono HB2.out.size)
  generalize hO1 : (⟨o1.toArray⟩ : ByteArray) = O1 at *
  generalize hO2 : (⟨o2.toArray⟩ : ByteArray) = O2 at *
  have HO : Hid (o1 = o2 → O1 = O2) := fun h => by rw [← hO1, ← hO2, h]
  clear hO1 hO2
  by_cases c1 : most < 0
  · clear HO HQ1 HQ2
    by_cases g1 : e1 = 0
    · exact absurd (HL1.out g1) (by omega)
    · have j1 : ((e1 : Int) == 0) = false := by simp; omega
      by_cases g2 : e2 = 0
      · as_aux_lemma =>
        have k2 : ¬ more < (O2.size : Int) := by have := HL2.out g2; omega
        have j2 : ((e2 : Int) == 0) = true := by simp; omega
        clear g1 g2 HL1 HL2
        go_wp2_with fail
        refine HAW.out.mono ?_
        rintro _ w3 ⟨rfl, hb3⟩
        have HB3 := hidM (HEND.out _ hb3)
        clear hb3 HAW
        go_wp2
        go_ret
        exact ⟨rfl, HB3.out⟩
      · as_aux_lemma =>
        have j2 : ((e2 : Int) == 0) = false := by simp; omega
        clear g1 g2 HL1 HL2
        go_wp2_with fail
        refine HAW.out.mono ?_
        rintro _ w3 ⟨rfl, hb3⟩
        have HB3 := hidM (HEND.out _ hb3)
        clear hb3 HAW
        go_wp2
        go_ret
        exact ⟨rfl, HB3.out⟩
  by_cases c2 : more < most
  · clear HO HQ1 HQ2
    by_cases g1 : e1 = 0
    · have k1 : ¬ most < (O1.size : Int) := by have := HL1.out g1; omega
      have j1 : ((e1 : Int) == 0) = true := by simp; omega
      by_cases g2 : e2 = 0
      · as_aux_lemma =>
        have k2 : ¬ more < (O2.size : Int) := by have := HL2.out g2; omega
        have j2 : ((e2 : Int) == 0) = true := by simp; omega
        clear g1 g2 HL1 HL2
        go_wp2_with fail
        refine HAW.out.mono ?_
        rintro _ w3 ⟨rfl, hb3⟩
        have HB3 := hidM (HEND.out _ hb3)
        clear hb3 HAW
        go_wp2
        go_ret
        exact ⟨rfl, HB3.out⟩
      · as_aux_lemma =>
        have j2 : ((e2 : Int) == 0) = false := by simp; omega
        clear g1 g2 HL1 HL2
        go_wp2_with fail
        refine HAW.out.mono ?_
        rintro _ w3 ⟨rfl, hb3⟩
        have HB3 := hidM (HEND.out _ hb3)
        clear hb3 HAW
        go_wp2
        go_ret
        exact ⟨rfl, HB3.out⟩
    · have j1 : ((e1 : Int) == 0) = false := by simp; omega
      by_cases g2 : e2 = 0
      · as_aux_lemma =>
        have k2 : ¬ more < (O2.size : Int) := by have := HL2.out g2; omega
        have j2 : ((e2 : Int) == 0) = true := by simp; omega
        clear g1 g2 HL1 HL2
        go_wp2_with fail
        refine HAW.out.mono ?_
        rintro _ w3 ⟨rfl, hb3⟩
        have HB3 := hidM (HEND.out _ hb3)
        clear hb3 HAW
        go_wp2
        go_ret
        exact ⟨rfl, HB3.out⟩
      · as_aux_lemma =>
        have j2 : ((e2 : Int) == 0) = false := by simp; omega
        clear g1 g2 HL1 HL2
        go_wp2_with fail
        refine HAW.out.mono ?_
        rintro _ w3 ⟨rfl, hb3⟩
        have HB3 := hidM (HEND.out _ hb3)
        clear hb3 HAW
        go_wp2
        go_ret
        exact ⟨rfl, HB3.out⟩
  by_cases c3 : 65536 < more
  · clear HO HQ1 HQ2
    by_cases g1 : e1 = 0
    · have k1 : ¬ most < (O1.size : Int) := by have := HL1.out g1; omega
      have j1 : ((e1 : Int) == 0) = true := by simp; omega
      by_cases g2 : e2 = 0
      · as_aux_lemma =>
        have k2 : ¬ more < (O2.size : Int) := by have := HL2.out g2; omega
        have j2 : ((e2 : Int) == 0) = true := by simp; omega
        clear g1 g2 HL1 HL2
        go_wp2_with fail
        refine HAW.out.mono ?_
        rintro _ w3 ⟨rfl, hb3⟩
        have HB3 := hidM (HEND.out _ hb3)
        clear hb3 HAW
        go_wp2
        go_ret
        exact ⟨rfl, HB3.out⟩
      · as_aux_lemma =>
        have j2 : ((e2 : Int) == 0) = false := by simp; omega
        clear g1 g2 HL1 HL2
        go_wp2_with fail
        refine HAW.out.mono ?_
        rintro _ w3 ⟨rfl, hb3⟩
        have HB3 := hidM (HEND.out _ hb3)
        clear hb3 HAW
        go_wp2
        go_ret
        exact ⟨rfl, HB3.out⟩
    · have j1 : ((e1 : Int) == 0) = false := by simp; omega
      by_cases g2 : e2 = 0
      · as_aux_lemma =>
        have k2 : ¬ more < (O2.size : Int) := by have := HL2.out g2; omega
        have j2 : ((e2 : Int) == 0) = true := by simp; omega
        clear g1 g2 HL1 HL2
        go_wp2_with fail
        refine HAW.out.mono ?_
        rintro _ w3 ⟨rfl, hb3⟩
        have HB3 := hidM (HEND.out _ hb3)
        clear hb3 HAW
        go_wp2
        go_ret
        exact ⟨rfl, HB3.out⟩
      · as_aux_lemma =>
        have j2 : ((e2 : Int) == 0) = false := by simp; omega
        clear g1 g2 HL1 HL2
        go_wp2_with fail
        refine HAW.out.mono ?_
        rintro _ w3 ⟨rfl, hb3⟩
        have HB3 := hidM (HEND.out _ hb3)
        clear hb3 HAW
        go_wp2
        go_ret
        exact ⟨rfl, HB3.out⟩
  by_cases c4 : e1 = 2
  · clear HO HQ1 HQ2
    subst c4
    have j1 : ((2 : Nat) : Int) = 2 := rfl
    by_cases g2 : e2 = 0
    · as_aux_lemma =>
      have k2 : ¬ more < (O2.size : Int) := by have := HL2.out g2; omega
      have j2 : ((e2 : Int) == 0) = true := by simp; omega
      clear g2 HL1 HL2
      go_wp2_with fail
      refine HAW.out.mono ?_
      rintro _ w3 ⟨rfl, hb3⟩
      have HB3 := hidM (HEND.out _ hb3)
      clear hb3 HAW
      go_wp2
      go_ret
      exact ⟨rfl, HB3.out⟩
    · as_aux_lemma =>
      have j2 : ((e2 : Int) == 0) = false := by simp; omega
      clear g2 HL1 HL2
      go_wp2_with fail
      refine HAW.out.mono ?_
      rintro _ w3 ⟨rfl, hb3⟩
      have HB3 := hidM (HEND.out _ hb3)
      clear hb3 HAW
      go_wp2
      go_ret
      exact ⟨rfl, HB3.out⟩
  have heq := HQ1.out.more HQ2.out (by omega) (by omega) (by omega) (by omega) (by omega) c4
  simp only [Prod.mk.injEq] at heq
  obtain ⟨ho, rfl, rfl⟩ := heq
  obtain rfl := HO.out ho
  have j3 : ((e1 : Int) == 2) = false := by simp; omega
  clear ho HO HQ1 HQ2 c4
  by_cases g1 : e1 = 0
  · as_aux_lemma =>
    have k1 : ¬ most < (O1.size : Int) := by have := HL1.out g1; omega
    have k2 : ¬ more < (O1.size : Int) := by have := HL2.out g1; omega
    have j1 : ((e1 : Int) == 0) = true := by simp; omega
    clear g1 HL1 HL2
    go_wp2_with fail
    refine HAW.out.mono ?_
    rintro _ w3 ⟨rfl, hb3⟩
    have HB3 := hidM (HEND.out _ hb3)
    clear hb3 HAW
    go_wp2
    go_ret
    exact ⟨rfl, HB3.out⟩
  · as_aux_lemma =>
    have j1 : ((e1 : Int) == 0) = false := by simp; omega
    clear g1 HL1 HL2
    go_wp2_with fail
    refine HAW.out.mono ?_
    rintro _ w3 ⟨rfl, hb3⟩
    have HB3 := hidM (HEND.out _ hb3)
    clear hb3 HAW
    go_wp2
    go_ret
    exact ⟨rfl, HB3.out⟩
end Go.Proofs.YtkckobhpanghiaaDoor
