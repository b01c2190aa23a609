/-
  The law PseudoMakes, walked.
-/
import Derived.Test.YtmhjdahmmdfbcaaGreatDoorJPtB
namespace Go.Proofs.YtmhjdahmmdfbcaaGreatDoor
open Go.RowKit

theorem big_zero {s : ByteArray} (h : (bigR s).2 = 0) : (bigR s).1 = s ∧ s.size ≤ 100 := by
  unfold bigR at h ⊢
  by_cases hb : 100 < s.size
  · rw [if_pos hb] at h; cases h
  · rw [if_neg hb]; exact ⟨rfl, by omega⟩
theorem makeR_zero {base st id : ByteArray} {er : Int} (h : (makeR base st id er).2 = 0) : er = 0 ∧ revB id = true ∧ ∃ v, parseR base = some v ∧ (makeR base st id er).1 = wriV (makeV v (st ++ ⟨#[45]⟩ ++ id)) ∧ (wriV (makeV v (st ++ ⟨#[45]⟩ ++ id))).size ≤ 100 := by
  unfold makeR at h ⊢
  by_cases her : er = 0
  · rw [if_pos her] at h ⊢
    cases hr : revB id with
    | false => rw [hr] at h; cases h
    | true =>
      rw [hr, if_pos rfl] at h
      rw [if_pos rfl]
      cases hv : parseR base with
      | none => rw [hv] at h; cases h
      | some v =>
        rw [hv] at h
        have := big_zero h
        exact ⟨her, rfl, v, rfl, this.1, this.2⟩
  · rw [if_neg her] at h; cases h
theorem makeN_zero {major st id : ByteArray} {er : Int} (h : (makeN major st id er).2 = 0) : er = 0 ∧ revB id = true ∧ okN major = true ∧ (makeN major st id er).1 = wriV (preV ((parseR major).getD noVer) (st ++ ⟨#[45]⟩ ++ id)) ∧ (wriV (preV ((parseR major).getD noVer) (st ++ ⟨#[45]⟩ ++ id))).size ≤ 100 := by
  unfold makeN at h ⊢
  by_cases her : er = 0
  · rw [if_pos her] at h ⊢
    cases hr : revB id with
    | false => rw [hr] at h; cases h
    | true =>
      rw [hr, if_pos rfl] at h
      rw [if_pos rfl]
      cases hv : okN major with
      | false => rw [hv] at h; cases h
      | true =>
        rw [hv, if_pos rfl] at h
        rw [if_pos rfl]
        have := big_zero h
        exact ⟨her, rfl, rfl, this.1, this.2⟩
  · rw [if_neg her] at h; cases h
theorem isEmpty_eq {b : ByteArray} (h : b.toList.isEmpty = true) : b = ⟨#[]⟩ := by
  apply bytes_ext
  rw [empty_beq] at h
  rw [List.isEmpty_iff.1 h]
theorem made_all (major base : ByteArray) (time : Int) (id : ByteArray) (hm : major.size ≤ 9223372036854775807) (hb : base.size ≤ 9223372036854775807) : ∃ R : ByteArray × Int,
    (∀ V, GT V → Calls Tryz.prog 8 #[.string major, .string base, .int .i64 time, .string id] V fun x w' => x = .returned (.tuple #[.string R.1, .int .i64 R.2]) ∧ Below V.heap.size V w') ∧
    (∀ V, Calls Tryz.prog 9 #[.string major, .string base, .int .i64 time, .string id] V fun x w' => x = .returned (.tuple #[.string R.1, .int .i64 R.2]) ∧ Below V.heap.size V w') ∧
    (R.2 = 0 → R.1.size ≤ 100 ∧ ∃ b, told R.1 = ⟨b, time, id, 0⟩ ∧ b.toList.isEmpty = base.toList.isEmpty) := by
  obtain ⟨st, er, hsec⟩ := sec_ex time
  obtain ⟨hst, hz⟩ := hsec.stp
  cases he : base.toList.isEmpty with
  | true =>
    obtain rfl := isEmpty_eq he
    refine ⟨makeN major st id er, fun V hV => make_none major time id st er V hV hm hst hz, fun V => rmake_none major time id st er V hm hsec, fun h0 => ?_⟩
    obtain ⟨rfl, hr, hok, h1, h2⟩ := makeN_zero h0
    obtain ⟨n, rfl, hn, hnz⟩ := (okN_iff major).1 hok
    rw [h1]
    exact ⟨h2, _, ((none_told hn hnz (hsec.seg hr)).2 h2).2, by decide +kernel⟩
  | false =>
    refine ⟨makeR base st id er, fun V hV => make_base major base time id st er V hV hb he hst hz, fun V => rmake_base major base time id st er V hb he hsec, fun h0 => ?_⟩
    obtain ⟨rfl, hr, v, hv, h1, h2⟩ := makeR_zero h0
    rw [h1]
    exact ⟨h2, (make_told hv (hsec.seg hr) h2).2⟩

set_option maxHeartbeats 4000000 in
set_option maxRecDepth 100000 in
theorem pmakes_walk (major base : ByteArray) (time : Int) (id : ByteArray) (w : World) (hG : GT w) (hm : major.size ≤ 140737488355328) (hb : base.size ≤ 140737488355328) :
    Calls Tryz.prog 3 #[.string major, .string base, .int .i64 time, .string id] w fun e w' => e = .returned (.bool true) ∧ Below w.heap.size w w' := by
  obtain ⟨R, hM, hRM, hback⟩ := made_all major base time id (by omega) (by omega)
  have HM := hidM (hM w hG)
  have HRM := hidM hRM
  have HBK := hidM hback
  have HAW := hidM (fun V (h : GT V) => pawake_any V h)
  have HPP : Hid (R.1.size ≤ 100 → ∀ V, GT V → Calls Tryz.prog 11 #[.string R.1] V fun x w' => x = .returned (toldR (told R.1)) ∧ Below V.heap.size V w') := fun h V hV => pparse_any R.1 V hV (by omega)
  have HRP : Hid (R.1.size ≤ 100 → ∀ V, Calls Tryz.prog 12 #[.string R.1] V fun x w' => x = .returned (told4 (told R.1)) ∧ Below V.heap.size V w') := fun h V => rpparse_any R.1 V (by omega)
  have HG0 := hidM hG
  clear hG hM hRM hback
  generalize R.1 = r1 at *
  generalize R.2 = r2 at *
  go_enter Tryz.func3, Tryz.ntmps3
  go_wp2_with fail
  refine HM.out.mono ?_
  rintro _ w1 ⟨rfl, hb1⟩
  have HB1 := hidM hb1
  have HG1 := hidM (HG0.out.below hb1)
  clear hb1 HM HG0
  go_wp2_with fail
  refine (HRM.out _).mono ?_
  rintro _ w2 ⟨rfl, hb2⟩
  have HB2 := hidM (HB1.out.trans (hb2.mono HB1.out.size))
  have HG2 := hidM (HG1.out.below hb2)
  clear hb2 HRM HG1 HB1
  go_wp2_with fail
  refine (HAW.out _ HG2.out).mono ?_
  rintro _ w3 ⟨rfl, hb3⟩
  have HB3 := hidM (HB2.out.trans (hb3.mono HB2.out.size))
  have HG3 := hidM (HG2.out.below hb3)
  clear hb3 HAW HG2 HB2
  by_cases h0 : r2 = 0
  · subst h0
    obtain ⟨hsz, b, htold, hbe⟩ := HBK.out rfl
    have HP := hidM (HPP.out hsz)
    have HQ := hidM (HRP.out hsz)
    rw [htold] at HP HQ
    unfold toldR at HP
    unfold told4 at HQ
    simp only at HP HQ
    clear HBK HPP HRP htold
    cases hbb : base.toList.isEmpty with
    | true =>
      as_aux_lemma =>
      rw [hbb] at hbe
      go_wp2_with fail
      refine (HP.out _ HG3.out).mono ?_
      rintro _ w4 ⟨rfl, hb4⟩
      have HB4 := hidM (HB3.out.trans (hb4.mono HB3.out.size))
      have HA := hidM (heap_alloc_new w4 (.cells #[.string ⟨#[]⟩, .int .i64 0, .string ⟨#[]⟩] 29))
      have HAB : Hid (Below w4.heap.size w4 ((w4.alloc (.cells #[.string ⟨#[]⟩, .int .i64 0, .string ⟨#[]⟩] 29)).setRow w4.heap.size #[.string b, .int .i64 time, .string id])) := below_setRow ((Below.refl _ _).alloc (Nat.le_refl _) _) (Nat.le_refl _)
      have HX5 : Hid (((w4.alloc (.cells #[.string ⟨#[]⟩, .int .i64 0, .string ⟨#[]⟩] 29)).setRow w4.heap.size #[.string b, .int .i64 time, .string id]).heap[w4.heap.size]? = some (.cells #[.string b, .int .i64 time, .string id] 29 (0, 0))) := setRow_heap _ _ _ _ 29 _ HA.out
      have HB5 := hidM (HB4.out.trans (HAB.out.mono HB4.out.size))
      clear hb4 HP
      go_wp2_with (refine wpList_store_row rfl 29 (.tmp 13) (.tmp 52) rfl w4.heap.size #[.string b, .int .i64 time, .string id] rfl rfl 29 #[.string ⟨#[]⟩, .int .i64 0, .string ⟨#[]⟩] HA.out size29 rfl (ones29 _ _ _) ?_)
      clear HA HAB
      generalize (w4.alloc (.cells #[.string ⟨#[]⟩, .int .i64 0, .string ⟨#[]⟩] 29)).setRow w4.heap.size #[.string b, .int .i64 time, .string id] = W at *
      generalize w4.heap.size = B at *
      refine (HQ.out _).mono ?_
      rintro _ w5 ⟨rfl, hb5⟩
      have HX6 := hidM (box_kept HX5.out hb5)
      have HB6 := hidM (HB5.out.trans (hb5.mono HB5.out.size))
      clear hb5 HQ HX5 HB5
      have c0 : w5.cell? ⟨B, 0, none⟩ = some (.string b) := by rw [cell_of_row _ _ _ _ 29 (0, 0) HX6.out]; rfl
      have c1 : w5.cell? ⟨B, 1, none⟩ = some (.int .i64 time) := by rw [cell_of_row _ _ _ _ 29 (0, 0) HX6.out]; rfl
      have c2 : w5.cell? ⟨B, 2, none⟩ = some (.string id) := by rw [cell_of_row _ _ _ _ 29 (0, 0) HX6.out]; rfl
      go_wp2
      go_ret
      exact ⟨rfl, HB6.out⟩
    | false =>
      as_aux_lemma =>
      rw [hbb] at hbe
      go_wp2_with fail
      refine (HP.out _ HG3.out).mono ?_
      rintro _ w4 ⟨rfl, hb4⟩
      have HB4 := hidM (HB3.out.trans (hb4.mono HB3.out.size))
      have HA := hidM (heap_alloc_new w4 (.cells #[.string ⟨#[]⟩, .int .i64 0, .string ⟨#[]⟩] 29))
      have HAB : Hid (Below w4.heap.size w4 ((w4.alloc (.cells #[.string ⟨#[]⟩, .int .i64 0, .string ⟨#[]⟩] 29)).setRow w4.heap.size #[.string b, .int .i64 time, .string id])) := below_setRow ((Below.refl _ _).alloc (Nat.le_refl _) _) (Nat.le_refl _)
      have HX5 : Hid (((w4.alloc (.cells #[.string ⟨#[]⟩, .int .i64 0, .string ⟨#[]⟩] 29)).setRow w4.heap.size #[.string b, .int .i64 time, .string id]).heap[w4.heap.size]? = some (.cells #[.string b, .int .i64 time, .string id] 29 (0, 0))) := setRow_heap _ _ _ _ 29 _ HA.out
      have HB5 := hidM (HB4.out.trans (HAB.out.mono HB4.out.size))
      clear hb4 HP
      go_wp2_with (refine wpList_store_row rfl 29 (.tmp 13) (.tmp 52) rfl w4.heap.size #[.string b, .int .i64 time, .string id] rfl rfl 29 #[.string ⟨#[]⟩, .int .i64 0, .string ⟨#[]⟩] HA.out size29 rfl (ones29 _ _ _) ?_)
      clear HA HAB
      generalize (w4.alloc (.cells #[.string ⟨#[]⟩, .int .i64 0, .string ⟨#[]⟩] 29)).setRow w4.heap.size #[.string b, .int .i64 time, .string id] = W at *
      generalize w4.heap.size = B at *
      refine (HQ.out _).mono ?_
      rintro _ w5 ⟨rfl, hb5⟩
      have HX6 := hidM (box_kept HX5.out hb5)
      have HB6 := hidM (HB5.out.trans (hb5.mono HB5.out.size))
      clear hb5 HQ HX5 HB5
      have c0 : w5.cell? ⟨B, 0, none⟩ = some (.string b) := by rw [cell_of_row _ _ _ _ 29 (0, 0) HX6.out]; rfl
      have c1 : w5.cell? ⟨B, 1, none⟩ = some (.int .i64 time) := by rw [cell_of_row _ _ _ _ 29 (0, 0) HX6.out]; rfl
      have c2 : w5.cell? ⟨B, 2, none⟩ = some (.string id) := by rw [cell_of_row _ _ _ _ 29 (0, 0) HX6.out]; rfl
      go_wp2
      go_ret
      exact ⟨rfl, HB6.out⟩
  · as_aux_lemma =>
    have b0 : (r2 != 0) = true := by simp only [bne_iff_ne, ne_eq]; exact h0
    clear HBK HPP HRP h0
    go_wp2
    go_ret
    exact ⟨rfl, HB3.out⟩
end Go.Proofs.YtmhjdahmmdfbcaaGreatDoor
