/-
  The law TreeReads, walked.
-/
import Derived.Test.YtccohagdfpcplaaDoorTpE
namespace Go.Proofs.YtccohagdfpcplaaDoor
open Go.RowKit

theorem parse_oks : ∀ (n : Nat) (l : List UInt8) (acc : List EntB), l.length ≤ n → n ≤ 140737488355328 → (∀ e ∈ acc, OkE e) → ∀ e ∈ (parseF l acc).2, OkE e := by
  intro n
  induction n with
  | zero =>
    intro l acc hl _ ha
    have : l = [] := List.length_eq_zero_iff.1 (by omega)
    subst this
    rw [parse_nil]
    simp only
    split
    · exact ha
    · intro e he; cases he
  | succ n ih =>
    intro l acc hl hn ha
    by_cases h0 : l = []
    · subst h0
      rw [parse_nil]
      simp only
      split
      · exact ha
      · intro e he; cases he
    · by_cases h1 : (firstR l).1 = 0
      · by_cases h5 : acc.length = 500
        · rw [parse_full h0 h1 h5]; intro e he; cases he
        · rw [parse_more h0 h1 h5]
          have hlt := first_less h1
          refine ih _ _ (by omega) (by omega) (fun e he => ?_)
          rcases List.mem_append.1 he with he | he
          · exact ha e he
          · rw [List.mem_singleton.1 he]; exact first_ok (by omega)
      · rw [parse_bad h0 h1]; intro e he; cases he
theorem parse_len {l : List UInt8} : (parseF l []).2.length ≤ 500 := by
  by_cases h : (parseF l []).1 = 0
  · exact (chk_steps (parse_form _ l [] (Nat.le_refl _) h).2).1
  · rw [parse_cases l _ (Nat.le_refl _) [] h]; decide
theorem few_law (s : ByteArray) (w : World) : ∃ t : ByteArray, t.size ≤ 2000 ∧ Calls Tryd.prog 20 #[.string s, .int .i64 2000] w fun e w' => e = .returned (.string t) ∧ w' = w := by
  by_cases h : 2000 < s.size
  · refine ⟨s.extract 0 2000, by rw [ByteArray.size_extract]; omega, ?_⟩
    have g1 : (2000 : Int) < (s.size : Int) := by omega
    have g2 : (2000 : Int) ≤ (s.size : Int) := by omega
    go_enter Tryd.func20, Tryd.ntmps20
    go_wp2
    go_ret
    exact ⟨rfl, rfl⟩
  · refine ⟨s, by omega, ?_⟩
    have g1 : ¬ (2000 : Int) < (s.size : Int) := by omega
    go_enter Tryd.func20, Tryd.ntmps20
    go_wp2
    go_ret
    exact ⟨rfl, rfl⟩
set_option maxHeartbeats 4000000 in
set_option maxRecDepth 100000 in
theorem treads_walk (s : ByteArray) (w : World) (hG : GT w) : Calls Tryd.prog 4 #[.string s] w fun e w' => e = .returned (.bool true) ∧ Below w.heap.size w w' := by
  obtain ⟨t, ht, hfew⟩ := few_law s w
  have HFEW := hidM hfew
  have HG := hidM hG
  have HP1 := hidM (fun V (hV : GT V) => tparse_any t V hV (by omega))
  have HP2 := hidM (fun V => rparse_any t V (by omega))
  have HAW := hidM (fun V (h : GT V) => awake_any V h)
  have HOK : Hid (∀ e ∈ (parseF t.data.toList []).2, OkE e) := parse_oks t.size _ _ (by rw [len_size]; omega) (by omega) (fun e he => by cases he)
  have h5 : (parseF t.data.toList []).2.length ≤ 500 := parse_len
  have HFM : Hid ((parseF t.data.toList []).1 = 0 → (⟨(formT (parseF t.data.toList []).2).toArray⟩ : ByteArray) = t ∧ checkV (parseF t.data.toList []).2 = 0) := fun h => by
    obtain ⟨e1, e2⟩ := parse_form _ t.data.toList [] (Nat.le_refl _) h
    refine ⟨?_, e2⟩
    have : formT (parseF t.data.toList []).2 = t.data.toList := by unfold formT; rw [if_pos e2, e1]; rfl
    rw [this]
  clear hfew hG
  generalize (parseF t.data.toList []).1 = er at *
  generalize (parseF t.data.toList []).2 = es at *
  go_enter Tryd.func4, Tryd.ntmps4
  go_wp2_with fail
  refine HFEW.out.mono ?_
  rintro _ w1 ⟨rfl, hw1⟩
  rw [hw1]
  clear hw1 HFEW
  go_wp2_with fail
  refine (HP1.out _ HG.out).mono ?_
  rintro _ w2 ⟨⟨v2, rfl, ho2⟩, hb2⟩
  have HO2 := hidM ho2
  have HB2 := hidM hb2
  have HG2 := hidM (HG.out.below hb2)
  clear ho2 hb2 HP1
  go_wp2_with fail
  refine (HP2.out _).mono ?_
  rintro _ w3 ⟨⟨v3, rfl, ho3⟩, hb3⟩
  have HO3 := hidM ho3
  have HO23 := hidM (own_below HO2.out hb3)
  have HB3 := hidM (HB2.out.trans (hb3.mono HB2.out.size))
  have HG3 := hidM (HG2.out.below hb3)
  clear ho3 hb3 HP2 HO2 HB2 HG2
  go_wp2_with fail
  refine (HAW.out _ HG3.out).mono ?_
  rintro _ w4 ⟨rfl, hb4⟩
  have HO34 := hidM (own_below HO3.out hb4)
  have HO24 := hidM (own_below HO23.out hb4)
  have HB4 := hidM (HB3.out.trans (hb4.mono HB3.out.size))
  have HG4 := hidM (HG3.out.below hb4)
  clear hb4 HO3 HO23 HB3 HG3 HAW
  obtain ⟨a2, c2, rfl, hc2, hE2⟩ := own_shape HO24.out
  obtain ⟨a3, c3, rfl, hc3, hE3⟩ := own_shape HO34.out
  have HSM := hidM (rsame_any a2 a3 c2 c3 es es w4 hE2 hE3 (by omega))
  rw [decide_eq_true rfl] at HSM
  have HE2 := hidM hE2
  clear hE2 hE3 hc2 hc3 HO24 HO34
  generalize hL : es.length = len at *
  have HL := hidM hL
  clear hL
  have b0 : (er == er) = true := by simp
  go_wp2_with fail
  refine HSM.out.mono ?_
  rintro _ w5 ⟨rfl, hb5⟩
  have HB5 := hidM (HB4.out.trans (hb5.mono HB4.out.size))
  have HG5 := hidM (HG4.out.below hb5)
  have HE5 := hidM (HE2.out.below hb5)
  clear hb5 HSM HB4 HG4 HE2
  by_cases he : er = 0
  · subst he
    obtain ⟨f1, f2⟩ := HFM.out rfl
    have HTF := hidM (treeFormat_any a2 c2 es w5 HG5.out HE5.out HOK.out)
    rw [f1, f2, HL.out] at HTF
    clear f1 f2 HFM
    go_wp2_with fail
    refine HTF.out.mono ?_
    rintro _ w6 ⟨rfl, hb6⟩
    have HB6 := hidM (HB5.out.trans (hb6.mono HB5.out.size))
    clear hb6
    go_wp2
    go_ret
    exact ⟨by simp, HB6.out⟩
  · have b1 : (er == 0) = false := by simp; exact he
    clear he HFM
    go_wp2
    go_ret
    exact ⟨rfl, HB5.out⟩
end Go.Proofs.YtccohagdfpcplaaDoor
