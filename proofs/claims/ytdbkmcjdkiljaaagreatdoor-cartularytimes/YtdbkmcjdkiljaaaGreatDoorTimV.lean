/-
  The law CartularyTimes, walked.
-/
import Derived.Test.YtdbkmcjdkiljaaaGreatDoorTimM
import Derived.Test.YtdbkmcjdkiljaaaGreatDoorSorC
namespace Go.Proofs.YtdbkmcjdkiljaaaGreatDoor
open Go.RowKit

/-- what Stamp says of any second -/
theorem stamp_any (t : Int) : ∃ (a : ByteArray) (e : Int), (∀ V, GT V → Calls Tryz.prog 4 #[.int .i64 t] V fun x w' => x = .returned (.tuple #[.string a, .int .i64 e]) ∧ Below V.heap.size V w') ∧
    (e = 1 ∨ (e = 0 ∧ ∃ T y m d h mi s : Nat, IsDate T y m d h mi s ∧ t = (T : Int) - 62135596800 ∧ a = stampT y m d h mi s)) := by
  by_cases h : t < -62135596800 ∨ 253402300799 < t
  · exact ⟨_, 1, fun V hV => stamp_no t V h, Or.inl rfl⟩
  · obtain ⟨T, hT⟩ : ∃ T : Nat, t = (T : Int) - 62135596800 := ⟨(t + 62135596800).toNat, by omega⟩
    obtain ⟨y, m, d, hd⟩ := date_ex T (by omega)
    refine ⟨_, 0, fun V hV => ?_, Or.inr ⟨rfl, T, y, m, d, _, _, _, hd, hT, rfl⟩⟩
    rw [hT]
    exact stamp_yes T y m d _ _ _ V hV hd
theorem date_1970 : IsDate 62135596800 1970 1 1 0 0 0 := by
  refine ⟨⟨by decide, by decide, by decide, by decide, by decide, by decide, by decide +kernel⟩, by decide, by decide, by decide⟩
theorem stamp_stm {T y m d h mi s : Nat} (H : IsDate T y m d h mi s) (hT : 62135596800 ≤ T) : Stm (stampT y m d h mi s).data.toList := by
  rw [stamp_list]
  obtain ⟨a1, a2, a3, a4, a5, a6⟩ := H.small
  refine ⟨rfl, fun c hc => ?_, ?_⟩
  · have := st_dig a1 a2 a3 a4 a5 a6 c hc
    unfold isDig at this
    unfold digC
    exact decide_eq_true this
  · have hk := date_lt_iff H date_1970
    have hy : 1970 ≤ y := by
      unfold keyN dkN at hk
      have : ¬ (T < 62135596800) := by omega
      rw [hk] at this
      omega
    show dig (y / 1000) ≠ 48
    intro e
    have := congrArg UInt8.toNat e
    rw [dig_nat _ (by omega)] at this
    have h48 : (48 : UInt8).toNat = 48 := rfl
    rw [h48] at this
    omega
theorem stamp_want {T y m d h mi s T' y' m' d' h' mi' s' : Nat} (H : IsDate T y m d h mi s) (H' : IsDate T' y' m' d' h' mi' s') :
    Lib.compareBytes (stampT y m d h mi s).data.toList (stampT y' m' d' h' mi' s').data.toList = if T < T' then -1 else if T' < T then 1 else 0 := by
  obtain ⟨h1, h2⟩ := stamp_order H H'
  obtain ⟨h3, _⟩ := stamp_order H' H
  rw [Lib.toList_data, Lib.toList_data, less_cmp, decide_eq_decide] at h1 h3
  rw [cmp_anti] at h3
  have hr := cb_rng (stampT y m d h mi s).data.toList (stampT y' m' d' h' mi' s').data.toList
  generalize Lib.compareBytes (stampT y m d h mi s).data.toList (stampT y' m' d' h' mi' s').data.toList = c at *
  split
  · rename_i n1; exact h1.2 n1
  · rename_i n1
    split
    · rename_i n2
      have := h3.2 n2
      omega
    · rename_i n2
      have a1 : ¬ c = -1 := fun e => n1 (h1.1 e)
      have a2 : ¬ -c = -1 := fun e => n2 (h3.1 e)
      omega
theorem tail_of {r A : List UInt8} (hA : A.length = 14) : (strOf (r ++ A)).size = r.length + 14 ∧ (strOf (r ++ A)).extract r.length (strOf (r ++ A)).size = strOf A := by
  refine ⟨by rw [strOf_size, List.length_append, hA], bytes_ext ?_⟩
  rw [ext_tail]
  show (r ++ A).drop r.length = A
  simp
set_option maxHeartbeats 8000000 in
set_option maxRecDepth 100000 in
theorem times_early (t u : Int) (f : ByteArray) (w : World) (hG : GT w) (hf : f.size ≤ 140737488355328) (a b : ByteArray) (e g : Int)
    (ha : ∀ V, GT V → Calls Tryz.prog 4 #[.int .i64 t] V fun x w' => x = .returned (.tuple #[.string a, .int .i64 e]) ∧ Below V.heap.size V w')
    (hb : ∀ V, GT V → Calls Tryz.prog 4 #[.int .i64 u] V fun x w' => x = .returned (.tuple #[.string b, .int .i64 g]) ∧ Below V.heap.size V w')
    (hor : e = 1 ∨ (e = 0 ∧ g = 1) ∨ (e = 0 ∧ g = 0 ∧ t < 0) ∨ (e = 0 ∧ g = 0 ∧ ¬ t < 0 ∧ u < 0) ∨ (e = 0 ∧ g = 0 ∧ ¬ t < 0 ∧ ¬ u < 0 ∧ 40 < f.size)) :
    Calls Tryz.prog 3 #[.int .i64 t, .int .i64 u, .string f] w fun x w' => x = .returned (.bool true) ∧ Below w.heap.size w w' := by
  have H0 := hidM (fun V hV => stamp_yes 63271811045 2006 1 2 15 4 5 V hV st_date)
  have e0 : (((63271811045 : Nat) : Int) - 62135596800) = 1136214245 := by decide
  rw [e0, st_text] at H0
  have HA := hidM ha
  have HB := hidM hb
  have HG := hidM hG
  clear e0 ha hb hG
  rcases hor with rfl | ⟨rfl, rfl⟩ | ⟨rfl, rfl, ht⟩ | ⟨rfl, rfl, ht, hu⟩ | ⟨rfl, rfl, ht, hu, h40⟩
  · as_aux_lemma =>
    go_enter Tryz.func3, Tryz.ntmps3
    go_wp2_with fail
    refine (H0.out _ HG.out).mono ?_
    rintro _ w1 ⟨rfl, hb1⟩
    have HB1 := hidM hb1
    clear hb1
    go_wp2_with fail
    refine (HA.out _ (HG.out.below HB1.out)).mono ?_
    rintro _ w2 ⟨rfl, hb2⟩
    have HB2 := hidM (HB1.out.trans (hb2.mono HB1.out.size))
    clear hb2
    go_wp2_with fail
    refine (HB.out _ (HG.out.below HB2.out)).mono ?_
    rintro _ w3 ⟨rfl, hb3⟩
    have HB3 := hidM (HB2.out.trans (hb3.mono HB2.out.size))
    clear hb3
    go_wp2
    go_ret
    exact ⟨rfl, HB3.out⟩
  · as_aux_lemma =>
    go_enter Tryz.func3, Tryz.ntmps3
    go_wp2_with fail
    refine (H0.out _ HG.out).mono ?_
    rintro _ w1 ⟨rfl, hb1⟩
    have HB1 := hidM hb1
    clear hb1
    go_wp2_with fail
    refine (HA.out _ (HG.out.below HB1.out)).mono ?_
    rintro _ w2 ⟨rfl, hb2⟩
    have HB2 := hidM (HB1.out.trans (hb2.mono HB1.out.size))
    clear hb2
    go_wp2_with fail
    refine (HB.out _ (HG.out.below HB2.out)).mono ?_
    rintro _ w3 ⟨rfl, hb3⟩
    have HB3 := hidM (HB2.out.trans (hb3.mono HB2.out.size))
    clear hb3
    go_wp2
    go_ret
    exact ⟨rfl, HB3.out⟩
  · as_aux_lemma =>
    have b1 : decide (t < 0) = true := decide_eq_true ht
    go_enter Tryz.func3, Tryz.ntmps3
    go_wp2_with fail
    refine (H0.out _ HG.out).mono ?_
    rintro _ w1 ⟨rfl, hb1⟩
    have HB1 := hidM hb1
    clear hb1
    go_wp2_with fail
    refine (HA.out _ (HG.out.below HB1.out)).mono ?_
    rintro _ w2 ⟨rfl, hb2⟩
    have HB2 := hidM (HB1.out.trans (hb2.mono HB1.out.size))
    clear hb2
    go_wp2_with fail
    refine (HB.out _ (HG.out.below HB2.out)).mono ?_
    rintro _ w3 ⟨rfl, hb3⟩
    have HB3 := hidM (HB2.out.trans (hb3.mono HB2.out.size))
    clear hb3
    go_wp2
    go_ret
    exact ⟨rfl, HB3.out⟩
  · as_aux_lemma =>
    have b1 : decide (t < 0) = false := decide_eq_false ht
    have b2 : decide (u < 0) = true := decide_eq_true hu
    go_enter Tryz.func3, Tryz.ntmps3
    go_wp2_with fail
    refine (H0.out _ HG.out).mono ?_
    rintro _ w1 ⟨rfl, hb1⟩
    have HB1 := hidM hb1
    clear hb1
    go_wp2_with fail
    refine (HA.out _ (HG.out.below HB1.out)).mono ?_
    rintro _ w2 ⟨rfl, hb2⟩
    have HB2 := hidM (HB1.out.trans (hb2.mono HB1.out.size))
    clear hb2
    go_wp2_with fail
    refine (HB.out _ (HG.out.below HB2.out)).mono ?_
    rintro _ w3 ⟨rfl, hb3⟩
    have HB3 := hidM (HB2.out.trans (hb3.mono HB2.out.size))
    clear hb3
    go_wp2
    go_ret
    exact ⟨rfl, HB3.out⟩
  · as_aux_lemma =>
    have b1 : decide (t < 0) = false := decide_eq_false ht
    have b2 : decide (u < 0) = false := decide_eq_false hu
    have b3 : decide ((40 : Int) < (f.size : Int)) = true := decide_eq_true (by omega)
    go_enter Tryz.func3, Tryz.ntmps3
    go_wp2_with fail
    refine (H0.out _ HG.out).mono ?_
    rintro _ w1 ⟨rfl, hb1⟩
    have HB1 := hidM hb1
    clear hb1
    go_wp2_with fail
    refine (HA.out _ (HG.out.below HB1.out)).mono ?_
    rintro _ w2 ⟨rfl, hb2⟩
    have HB2 := hidM (HB1.out.trans (hb2.mono HB1.out.size))
    clear hb2
    go_wp2_with fail
    refine (HB.out _ (HG.out.below HB2.out)).mono ?_
    rintro _ w3 ⟨rfl, hb3⟩
    have HB3 := hidM (HB2.out.trans (hb3.mono HB2.out.size))
    clear hb3
    go_wp2
    go_ret
    exact ⟨rfl, HB3.out⟩
end Go.Proofs.YtdbkmcjdkiljaaaGreatDoor
