/-
  The law InflateBegins, walked.
-/
import Derived.Test.YtkckobhpanghiaaDoorInfL
namespace Go.Proofs.YtkckobhpanghiaaDoor
open Go.RowKit

theorem InfQ.cut {l : List UInt8} {m : Int} {r r' : List UInt8 × Nat × Nat} {C : Nat} (h : InfQ l 0 m r) (h0 : r.2.2 = 0) (h' : InfQ (l.take C) 0 m r') (hC : C ≤ l.length) : (r.2.1 ≤ C → r' = r) ∧ (C < r.2.1 → r' = ([], 0, 6)) ∧ r.2.1 ≤ l.length := by
  rcases h with ⟨_, rfl⟩ | ⟨A, M, hA, rfl, _, hM, ⟨n, hn, _, rfl⟩ | ⟨t, o, hr, ht, ho, rfl⟩⟩
  · cases h0
  · exact absurd h0 hn
  · obtain rfl : A = 0 := by omega
    rw [List.drop_zero] at hr
    have hlen : (l.take C).length = C := by rw [List.length_take, Nat.min_eq_left hC]
    refine ⟨fun hc => ?_, fun hc => ?_, ?_⟩
    · have hrun := (cut_same hC).symm.run hr t o rfl (by have : (t + 7) / 8 ≤ C := hc; omega)
      exact InfQ.run (A := 0) h' (by omega) hM (by rw [List.drop_zero]; exact hrun)
    · have hrun := cut_run hC hr trivial t o rfl (Nat.zero_le _) (by have : C < (t + 7) / 8 := hc; omega)
      exact InfQ.runBad (A := 0) h' (by omega) hM (by rw [List.drop_zero]; exact hrun)
    · show (t + 7) / 8 ≤ l.length
      omega
set_option maxHeartbeats 4000000 in
set_option maxRecDepth 100000 in
theorem begins_walk (s : ByteArray) (cut most : Int) (w : World) (hG : GOk w) :
    Calls Tryd.prog 6 #[.string s, .int .i64 cut, .int .i64 most] w fun e w' => e = .returned (.bool true) ∧ Below w.heap.size w w' := by
  have HG := hidM hG
  clear hG
  go_enter Tryd.func6, Tryd.ntmps6
  go_wp2_with fail
  refine (fewS_any s 400 w).mono ?_
  rintro _ w0 ⟨⟨T, rfl, hT, _⟩, h0⟩
  rw [h0]
  clear h0 w0
  have HTL : Hid (T.data.toList.length = T.size) := Array.length_toList
  go_wp2_with fail
  refine (inflate_any T 0 most w (by omega) HG.out.1 HG.out.2).mono ?_
  rintro _ w1 ⟨⟨⟨o1, n1, e1⟩, hq1, rfl⟩, hb1⟩
  have HQ1 := hidM hq1
  have HB1 := hidM hb1
  have HG1 := hidM (HG.out.below hb1)
  have HEND1 : Hid (∀ w3, Below w1.heap.size w1 w3 → Below w.heap.size w w3) := fun w3 h => HB1.out.trans (h.mono HB1.out.size)
  clear hq1 hb1
  generalize hO1 : (⟨o1.toArray⟩ : ByteArray) = O1
  have HO1 := hidM hO1
  clear hO1
  by_cases g1 : e1 = 0
  · subst g1
    by_cases g2 : cut < 0
    · as_aux_lemma =>
      go_wp2_with fail
      refine (awake_any w1 HG1.out).mono ?_
      rintro _ w3 ⟨rfl, hb3⟩
      have HB3 := hidM (HEND1.out _ hb3)
      clear hb3
      go_wp2
      go_ret
      exact ⟨rfl, HB3.out⟩
    · obtain ⟨c, rfl⟩ : ∃ c : Nat, cut = c := ⟨cut.toNat, by omega⟩
      by_cases hc : c < T.size
      · have k1 : (c : Int) < (T.size : Int) := by omega
        have k2 : (c : Int) ≤ (T.size : Int) := by omega
        have k3 : ¬ (T.size : Int) < (c : Int) := by omega
        have hts : (T.extract 0 c).size = c := by rw [ByteArray.size_extract]; omega
        have HTX : Hid ((T.extract 0 c).data.toList = T.data.toList.take c) := by unfold Hid; rw [extract_list]; rfl
        have HIN := hidM (inflate_any (T.extract 0 c) 0 most w1 (by omega) HG1.out.1 HG1.out.2)
        go_wp2_with fail
        refine HIN.out.mono ?_
        rintro _ w2 ⟨⟨⟨o2, n2, e2⟩, hq2, rfl⟩, hb2⟩
        rw [HTX.out] at hq2
        obtain ⟨a1, a2, _⟩ := HQ1.out.cut rfl hq2 (by rw [HTL.out]; omega)
        have HG2 := hidM (HG1.out.below hb2)
        have HEND : Hid (∀ w3, Below w2.heap.size w2 w3 → Below w.heap.size w w3) := fun w3 h => HEND1.out w3 (hb2.trans (h.mono hb2.size))
        clear hq2 hb2 HIN hts HTX
        by_cases hn : n1 ≤ c
        · have j : (n1 : Int) ≤ (c : Int) := by omega
          have h3 := a1 hn
          simp only [Prod.mk.injEq] at h3
          obtain ⟨rfl, rfl, rfl⟩ := h3
          rw [HO1.out]
          clear a1 a2
          go_wp2_with fail
          refine (awake_any w2 HG2.out).mono ?_
          rintro _ w3 ⟨rfl, hb3⟩
          have HB3 := hidM (HEND.out _ hb3)
          clear hb3
          go_wp2
          go_ret
          exact ⟨rfl, HB3.out⟩
        · have j : ¬ (n1 : Int) ≤ (c : Int) := by omega
          have h3 := a2 (by show c < n1; omega)
          simp only [Prod.mk.injEq] at h3
          obtain ⟨rfl, rfl, rfl⟩ := h3
          clear a1 a2
          go_wp2_with fail
          refine (awake_any w2 HG2.out).mono ?_
          rintro _ w3 ⟨rfl, hb3⟩
          have HB3 := hidM (HEND.out _ hb3)
          clear hb3
          go_wp2
          go_ret
          exact ⟨rfl, HB3.out⟩
      · by_cases hce : c = T.size
        · subst hce
          have HTX : Hid (T.data.toList = T.data.toList.take T.size) := by unfold Hid; rw [List.take_of_length_le (by rw [HTL.out]; exact Nat.le_refl _)]
          have HIN := hidM (inflate_any T 0 most w1 (by omega) HG1.out.1 HG1.out.2)
          go_wp2_with fail
          refine HIN.out.mono ?_
          rintro _ w2 ⟨⟨⟨o2, n2, e2⟩, hq2, rfl⟩, hb2⟩
          rw [HTX.out] at hq2
          obtain ⟨a1, _, a3⟩ := HQ1.out.cut rfl hq2 (by rw [HTL.out]; omega)
          have a3' : n1 ≤ T.size := by rw [← HTL.out]; exact a3
          have j : (n1 : Int) ≤ (T.size : Int) := by omega
          have h3 := a1 a3'
          simp only [Prod.mk.injEq] at h3
          obtain ⟨rfl, rfl, rfl⟩ := h3
          have HG2 := hidM (HG1.out.below hb2)
          have HEND : Hid (∀ w3, Below w2.heap.size w2 w3 → Below w.heap.size w w3) := fun w3 h => HEND1.out w3 (hb2.trans (h.mono hb2.size))
          clear hq2 hb2 HIN HTX a1 a3 a3'
          rw [HO1.out]
          go_wp2_with fail
          refine (awake_any w2 HG2.out).mono ?_
          rintro _ w3 ⟨rfl, hb3⟩
          have HB3 := hidM (HEND.out _ hb3)
          clear hb3
          go_wp2
          go_ret
          exact ⟨rfl, HB3.out⟩
        · have k1 : (T.size : Int) < (c : Int) := by omega
          have k2 : ¬ (c : Int) ≤ (T.size : Int) := by omega
          have HTX : Hid (T.data.toList = T.data.toList.take T.size) := by unfold Hid; rw [List.take_of_length_le (by rw [HTL.out]; exact Nat.le_refl _)]
          have HIN := hidM (inflate_any T 0 most w1 (by omega) HG1.out.1 HG1.out.2)
          go_wp2_with fail
          refine HIN.out.mono ?_
          rintro _ w2 ⟨⟨⟨o2, n2, e2⟩, hq2, rfl⟩, hb2⟩
          rw [HTX.out] at hq2
          obtain ⟨a1, _, a3⟩ := HQ1.out.cut rfl hq2 (by rw [HTL.out]; omega)
          have a3' : n1 ≤ T.size := by rw [← HTL.out]; exact a3
          have j : (n1 : Int) ≤ (c : Int) := by omega
          have h3 := a1 a3'
          simp only [Prod.mk.injEq] at h3
          obtain ⟨rfl, rfl, rfl⟩ := h3
          have HG2 := hidM (HG1.out.below hb2)
          have HEND : Hid (∀ w3, Below w2.heap.size w2 w3 → Below w.heap.size w w3) := fun w3 h => HEND1.out w3 (hb2.trans (h.mono hb2.size))
          clear hq2 hb2 HIN HTX a1 a3 a3'
          rw [HO1.out]
          go_wp2_with fail
          refine (awake_any w2 HG2.out).mono ?_
          rintro _ w3 ⟨rfl, hb3⟩
          have HB3 := hidM (HEND.out _ hb3)
          clear hb3
          go_wp2
          go_ret
          exact ⟨rfl, HB3.out⟩
  · have j1 : ((e1 : Int) == 0) = false := by simp; omega
    go_wp2_with fail
    refine (awake_any w1 HG1.out).mono ?_
    rintro _ w3 ⟨rfl, hb3⟩
    have HB3 := hidM (HEND1.out _ hb3)
    clear hb3
    go_wp2
    go_ret
    exact ⟨rfl, HB3.out⟩
end Go.Proofs.YtkckobhpanghiaaDoor
