/-
  Walks of tree: Name.
-/
import Derived.Test.YtccohagdfpcplaaDoorTreC
namespace Go.Proofs.YtccohagdfpcplaaDoor
open Go.RowKit

theorem idx_both (c : UInt8) (l : List UInt8) : (c ∉ l → Lib.indexByte l c = -1) ∧ (c ∈ l → 0 ≤ Lib.indexByte l c) := by
  induction l with
  | nil => exact ⟨fun _ => rfl, fun h => by simp at h⟩
  | cons b l ih =>
    unfold Lib.indexByte
    by_cases hb : b = c
    · rw [if_pos (by simpa using hb)]
      exact ⟨fun h => absurd (by rw [hb]; exact List.mem_cons_self) h, fun _ => Int.le_refl _⟩
    · rw [if_neg (by simpa using hb)]
      by_cases hm : c ∈ l
      · have h1 := ih.2 hm
        rw [if_neg (by simp; omega)]
        exact ⟨fun h => absurd (List.mem_cons_of_mem _ hm) h, fun _ => by omega⟩
      · have h1 := ih.1 hm
        rw [if_pos (by rw [h1]; rfl)]
        exact ⟨fun _ => rfl, fun h => by rcases List.mem_cons.1 h with h | h; exact absurd h.symm hb; exact absurd h hm⟩
theorem idx_mem (c : UInt8) (l : List UInt8) : decide (0 ≤ Lib.indexByte l c) = decide (c ∈ l) := by
  by_cases h : c ∈ l
  · rw [decide_eq_true h, decide_eq_true ((idx_both c l).2 h)]
  · rw [decide_eq_false h, (idx_both c l).1 h]; rfl
theorem beq_list (s : ByteArray) (l : List UInt8) : (s.toList == l) = decide (s.data.toList = l) := by
  rw [Go.ByteArray.toList_eq]
  by_cases h : s.data.toList = l
  · rw [h]; simp
  · rw [decide_eq_false h]; exact beq_false_of_ne h
theorem nameB_iff (l : List UInt8) : nameB l = (decide (1 ≤ l.length) && decide (l.length ≤ 100) && decide ((47 : UInt8) ∉ l) && decide ((0 : UInt8) ∉ l) && decide (l ≠ [46]) && decide (l ≠ [46, 46]) && decide (l.map lowC ≠ dotGit)) := by
  unfold nameB
  simp only [Bool.decide_and, Bool.and_assoc]
set_option maxHeartbeats 2000000 in
set_option maxRecDepth 100000 in
theorem name_any (s : ByteArray) (w : World) (hG : GT w) :
    Calls Tryd.prog 15 #[.string s] w fun e w' => e = .returned (.bool (nameB s.data.toList)) ∧ Below w.heap.size w w' := by
  have HG := hidM hG
  have HLN : Hid (s.data.toList.length = s.size) := Array.length_toList
  have HC1 : Hid (Calls Tryd.prog 31 #[.string s, .string ⟨#[47]⟩] w fun e w' => e = .returned (.bool (decide ((47 : UInt8) ∈ s.data.toList))) ∧ w' = w) := by
    have h := Tryd.strings_Contains_one s 47 w
    rw [idx_mem] at h
    exact h
  have HC2 : Hid (Calls Tryd.prog 31 #[.string s, .string ⟨#[0]⟩] w fun e w' => e = .returned (.bool (decide ((0 : UInt8) ∈ s.data.toList))) ∧ w' = w) := by
    have h := Tryd.strings_Contains_one s 0 w
    rw [idx_mem] at h
    exact h
  have HNB := hidM (nameB_iff s.data.toList)
  have b0 := beq_list s []
  have b1 := beq_list s [46]
  have b2 := beq_list s [46, 46]
  clear hG
  go_enter Tryd.func15, Tryd.ntmps15
  by_cases h0 : s.data.toList = []
  · rw [decide_eq_true h0] at b0
    have HR : Hid (nameB s.data.toList = false) := by unfold Hid; rw [HNB.out, h0]; rfl
    clear HNB h0 b1 b2
    go_wp2
    go_ret
    exact ⟨by rw [HR.out]; rfl, Below.refl _ _⟩
  · rw [decide_eq_false h0] at b0
    have n0 : 1 ≤ s.data.toList.length := List.length_pos_iff.2 h0
    by_cases h1 : 100 < s.size
    · have g1 : (100 : Int) < (s.size : Int) := by omega
      have HR : Hid (nameB s.data.toList = false) := by unfold Hid; rw [HNB.out, decide_eq_false (show ¬ s.data.toList.length ≤ 100 by rw [HLN.out]; omega)]; simp
      clear HNB h0 b1 b2 n0
      go_wp2
      go_ret
      exact ⟨by rw [HR.out]; rfl, Below.refl _ _⟩
    · have g1 : ¬ (100 : Int) < (s.size : Int) := by omega
      clear h0
      go_wp2_with fail
      refine HC1.out.mono ?_
      rintro _ w0 ⟨rfl, h0⟩
      rw [h0]
      clear h0 w0
      by_cases h2 : (47 : UInt8) ∈ s.data.toList
      · have HR : Hid (nameB s.data.toList = false) := by unfold Hid; rw [HNB.out, decide_eq_false (p := (47 : UInt8) ∉ s.data.toList) (fun h => h h2)]; simp
        rw [decide_eq_true h2]
        clear HNB b1 b2 n0 h2
        go_wp2
        go_ret
        exact ⟨by rw [HR.out]; rfl, Below.refl _ _⟩
      · rw [decide_eq_false h2]
        go_wp2_with fail
        refine HC2.out.mono ?_
        rintro _ w0 ⟨rfl, h0⟩
        rw [h0]
        clear h0 w0
        by_cases h3 : (0 : UInt8) ∈ s.data.toList
        · have HR : Hid (nameB s.data.toList = false) := by unfold Hid; rw [HNB.out, decide_eq_false (p := (0 : UInt8) ∉ s.data.toList) (fun h => h h3)]; simp
          rw [decide_eq_true h3]
          clear HNB b1 b2 n0 h2 h3
          go_wp2
          go_ret
          exact ⟨by rw [HR.out]; rfl, Below.refl _ _⟩
        · rw [decide_eq_false h3]
          have HF := hidM (fold_any s w HG.out (by omega))
          have HN2 : Hid (nameB s.data.toList = (decide (s.data.toList ≠ [46]) && decide (s.data.toList ≠ [46, 46]) && decide (s.data.toList.map lowC ≠ dotGit))) := by
            unfold Hid
            rw [HNB.out, decide_eq_true n0, decide_eq_true (show s.data.toList.length ≤ 100 by rw [HLN.out]; omega), decide_eq_true h2, decide_eq_true h3]
            simp
          clear HNB n0 h2 h3
          by_cases h4 : s.data.toList = [46]
          · rw [decide_eq_true h4] at b1
            have HR : Hid (nameB s.data.toList = false) := by unfold Hid; rw [HN2.out, h4]; rfl
            clear HN2 h4 b2
            go_wp2
            go_ret
            exact ⟨by rw [HR.out]; rfl, Below.refl _ _⟩
          · rw [decide_eq_false h4] at b1
            by_cases h5 : s.data.toList = [46, 46]
            · rw [decide_eq_true h5] at b2
              have HR : Hid (nameB s.data.toList = false) := by unfold Hid; rw [HN2.out, h5]; rfl
              clear HN2 h4 h5
              go_wp2
              go_ret
              exact ⟨by rw [HR.out]; rfl, Below.refl _ _⟩
            · rw [decide_eq_false h5] at b2
              have HR : Hid (nameB s.data.toList = !decide (s.data.toList.map lowC = dotGit)) := by
                unfold Hid
                rw [HN2.out, decide_eq_true h4, decide_eq_true h5]
                simp
              clear HN2 h4 h5
              go_wp2_with fail
              refine HF.out.mono ?_
              rintro _ w1 ⟨rfl, hb⟩
              have HB := hidM hb
              clear hb HF
              generalize decide (s.data.toList.map lowC = dotGit) = q at *
              go_wp2
              go_ret
              exact ⟨by rw [HR.out]; rfl, HB.out⟩
end Go.Proofs.YtccohagdfpcplaaDoor
