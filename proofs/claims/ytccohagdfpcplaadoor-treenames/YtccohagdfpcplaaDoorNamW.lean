/-
  The law TreeNames, walked.
-/
import Derived.Test.YtccohagdfpcplaaDoorTreI
namespace Go.Proofs.YtccohagdfpcplaaDoor
open Go.RowKit Go.WideMaps Go.Maps

def oneE (s : ByteArray) : List EntB := [(33188, s, idS)]
theorem one_right (s : ByteArray) : stepB (oneE s) 0 = nameB s.data.toList := by
  unfold stepB rightB
  show ((decide ((33188 : Int) ∈ modesL) && nameB s.data.toList && idB idS.data.toList) && decide ((([] : List (List UInt8)).count s.data.toList) = 0) && (decide (0 = 0) || _)) = _
  rw [idS_ok]
  simp [modesL]
theorem one_no {s : ByteArray} (h : nameB s.data.toList = false) : checkV (oneE s) = 4 := by
  have h1 : checkV (oneE s) = checkZ (oneE s) := by unfold checkV; rw [if_neg (show ¬ 500 < (oneE s).length from (show ¬ 500 < 1 by decide))]
  rw [h1]
  exact chk_no (k := 0) (show 0 < 1 by decide) (by rw [one_right, h])
theorem one_yes {s : ByteArray} (h : nameB s.data.toList = true) : checkV (oneE s) = 0 := by
  have h1 : checkV (oneE s) = checkZ (oneE s) := by unfold checkV; rw [if_neg (show ¬ 500 < (oneE s).length from (show ¬ 500 < 1 by decide))]
  rw [h1]
  refine chk_yes fun i hi => ?_
  obtain rfl : i = 0 := by have : (oneE s).length = 1 := rfl; omega
  rw [one_right, h]
theorem one_len (s : ByteArray) : (formL (oneE s)).length = s.size + 28 := by
  unfold formL oneE entL
  simp only [List.flatMap_cons, List.flatMap_nil, List.append_nil, List.length_append, List.length_cons, List.length_nil, oct_plain, idS_len, Array.length_toList]
  show 6 + 1 + s.size + 1 + 20 = s.size + 28
  omega
theorem one_format (s : ByteArray) (w : World) (hG : GT w) (hs : s.size ≤ 140737488355328) :
    Calls Tryd.prog 10 #[.slice (some ⟨w.heap.size, 0, none⟩) 1 1] (w.alloc (.cells #[.int .i64 33188, .string s, .string idS] 29)) fun e w' => e = .returned (.tuple #[.string ⟨(formT (oneE s)).toArray⟩, .int .i64 (checkV (oneE s))]) ∧ Below w.heap.size w w' := by
  have hb0 : Below w.heap.size w (w.alloc (.cells #[.int .i64 33188, .string s, .string idS] 29)) := (Below.refl _ w).alloc (Nat.le_refl _) _
  have hn := heap_alloc_new w (.cells #[.int .i64 33188, .string s, .string idS] 29)
  have h := treeFormat_any (some ⟨w.heap.size, 0, none⟩) 1 (oneE s) _ (hG.below hb0) (.inr ⟨w.heap.size, 0, rfl, (Array.getElem?_eq_some_iff.1 hn).1, fun i hi => by
    obtain rfl : i = 0 := by have : (oneE s).length = 1 := rfl; omega
    refine ⟨?_, ?_, ?_⟩ <;> rw [cell_of_row _ _ _ _ 29 (0, 0) hn] <;> rfl⟩) (fun e he => by
    simp only [oneE, List.mem_cons, List.not_mem_nil, or_false] at he
    rcases he with rfl
    exact ⟨show (-9223372036854775808 : Int) ≤ 33188 by decide, show (33188 : Int) ≤ 9223372036854775807 by decide, hs, show idS.size ≤ 140737488355328 by decide⟩)
  refine h.mono ?_
  rintro e w' ⟨h1, h2⟩
  exact ⟨h1, hb0.trans (h2.mono hb0.size)⟩
set_option maxHeartbeats 4000000 in
set_option maxRecDepth 100000 in
theorem names_walk (s : ByteArray) (w : World) (hG : GT w) (hs : s.size ≤ 140737488355328) :
    Calls Tryd.prog 8 #[.string s] w fun e w' => e = .returned (.bool true) ∧ Below w.heap.size w w' := by
  have HG := hidM hG
  have HNA := hidM (name_any s w hG)
  clear hG
  go_enter Tryd.func8, Tryd.ntmps8
  go_wp2_with fail
  refine HNA.out.mono ?_
  rintro _ w1 ⟨rfl, hb1⟩
  have HB1 := hidM hb1
  have HG1 := hidM (HG.out.below hb1)
  clear hb1 HNA
  cases hn : nameB s.data.toList with
  | false =>
    as_aux_lemma =>
    have HF := hidM (one_format s w1 HG1.out hs)
    rw [one_no hn] at HF
    clear hn
    generalize (⟨(formT (oneE s)).toArray⟩ : ByteArray) = T at *
    unfold idS at HF
    go_wp2_with fail
    refine HF.out.mono ?_
    rintro _ w2 ⟨rfl, hb2⟩
    have HB2 : Hid (Below w.heap.size w w2) := HB1.out.trans (hb2.mono HB1.out.size)
    have HG2 := hidM (HG.out.below HB2.out)
    clear hb2 HF
    go_wp2_with fail
    refine (awake_any w2 HG2.out).mono ?_
    rintro _ w3 ⟨rfl, hb3⟩
    have HB3 : Hid (Below w.heap.size w w3) := HB2.out.trans (hb3.mono HB2.out.size)
    clear hb3
    go_wp2
    go_ret
    exact ⟨rfl, HB3.out⟩
  | true =>
    have HN := hidM hn
    have hnm := hn
    unfold nameB at hnm
    simp only [decide_eq_true_eq] at hnm
    obtain ⟨n1, n2, n3, n4, n5, n6, n7⟩ := hnm
    have hln : s.data.toList.length = s.size := Array.length_toList
    rw [hln] at n1 n2
    have HN3 := hidM n3
    have HN4 := hidM n4
    have HN6 := hidM n6
    clear hn n3 n4 n5 n6 n7 hln
    go_wp2
    go_loopw [5] (fun iv wr => ∃ k : Nat, k ≤ s.size ∧ iv = .int .i64 (k : Int) ∧ wr = w1) (fun i _ => s.size - (intOf i).toNat)
    case atStart => exact ⟨0, Nat.zero_le _, rfl, rfl⟩
    case round =>
      obtain ⟨k, hk, rfl, hwr⟩ := hrel
      subst hwr
      by_cases hlt : k < s.size
      · as_aux_lemma =>
        have gk : (k : Int) < (s.size : Int) := by omega
        have hm : s[k] ∈ s.data.toList := List.mem_of_getElem? (ba_list s k hlt)
        have b1 : ((s[k].toNat : Int) == 47) = false := by
          simp only [beq_eq_false_iff_ne]
          intro e
          exact HN3.out (by rw [← show s[k] = 47 from UInt8.toNat_inj.1 (by show _ = 47; omega)]; exact hm)
        have b2 : ((s[k].toNat : Int) == 0) = false := by
          simp only [beq_eq_false_iff_ne]
          intro e
          exact HN4.out (by rw [← show s[k] = 0 from UInt8.toNat_inj.1 (by show _ = 0; omega)]; exact hm)
        clear hm
        go_wp2
        go_roundw
        case rel => exact ⟨k + 1, hlt, by go_num, by first | rfl | trivial⟩
        case measure => simp [intOf]; omega
      · as_aux_lemma =>
        have gk : ¬ (k : Int) < (s.size : Int) := by omega
        have HF := hidM (one_format s wr HG1.out hs)
        have hf : formT (oneE s) = formL (oneE s) := by unfold formT; rw [if_pos (one_yes HN.out)]
        rw [one_yes HN.out, hf] at HF
        obtain ⟨T, hT⟩ : ∃ T : ByteArray, T = ⟨(formL (oneE s)).toArray⟩ := ⟨_, rfl⟩
        have hTs : T.size = s.size + 28 := by rw [hT]; show (formL (oneE s)).toArray.size = _; rw [List.size_toArray, one_len]
        rw [← hT] at HF
        clear hT hf
        obtain ⟨t, ht⟩ : ∃ t, t = T.size := ⟨_, rfl⟩
        have e1 : (s.size : Int) + 28 = (T.size : Int) := by omega
        have e2 : (1 : Int) ≤ (s.size : Int) := by omega
        have e3 : (s.size : Int) ≤ 100 := by omega
        have b2 := beq_list s [46, 46]
        rw [decide_eq_false HN6.out] at b2
        clear ht hTs
        unfold idS at HF
        have HNG : Hid (∀ V, GT V → Calls Tryd.prog 15 #[.string ⟨#[46, 103, 73, 116]⟩] V fun e w' => e = .returned (.bool false) ∧ Below V.heap.size V w') := fun V hV => by
          have h := name_any ⟨#[46, 103, 73, 116]⟩ V hV
          rw [git_no ⟨#[46, 103, 73, 116]⟩ (by decide)] at h
          exact h
        go_wp2_with fail
        refine HF.out.mono ?_
        rintro _ w2 ⟨rfl, hb2⟩
        have HB2 : Hid (Below w.heap.size w w2) := HB1.out.trans (hb2.mono HB1.out.size)
        have HG2 := hidM (HG.out.below HB2.out)
        clear hb2 HF
        go_wp2_with fail
        refine (awake_any w2 HG2.out).mono ?_
        rintro _ w3 ⟨rfl, hb3⟩
        have HB3 : Hid (Below w.heap.size w w3) := HB2.out.trans (hb3.mono HB2.out.size)
        have HG3 := hidM (HG.out.below HB3.out)
        clear hb3 HB2 HG2
        go_wp2_with fail
        refine (HNG.out w3 HG3.out).mono ?_
        rintro _ w4 ⟨rfl, hb4⟩
        have HB4 : Hid (Below w.heap.size w w4) := HB3.out.trans (hb4.mono HB3.out.size)
        clear hb4
        go_wp2
        go_ret
        exact ⟨rfl, HB4.out⟩
end Go.Proofs.YtccohagdfpcplaaDoor
