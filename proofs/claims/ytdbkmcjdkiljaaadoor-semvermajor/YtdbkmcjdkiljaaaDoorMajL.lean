/-
  The law SemverMajor, walked.
-/
import Derived.Test.YtdbkmcjdkiljaaaDoorMajW
namespace Go.Proofs.YtdbkmcjdkiljaaaDoor
open Go.RowKit

theorem majS_size (s : ByteArray) : (majS s).size ≤ 100 := by
  unfold majS
  cases h : parseR s with
  | none => exact Nat.zero_le _
  | some v =>
    show ((⟨#[118]⟩ : ByteArray) ++ v.major).size ≤ 100
    rw [ByteArray.size_append]
    have := (major_num h).2
    show 1 + v.major.size ≤ 100
    omega
theorem majS_none {s : ByteArray} (h : (parseR s).isSome = false) : majS s = ⟨#[]⟩ := by
  unfold majS
  cases hp : parseR s with
  | none => rfl
  | some v => rw [hp] at h; cases h
theorem majS_two {a b : ByteArray} (ha : (parseR a).isSome = true) (hb : (parseR b).isSome = true) :
    (majS a = majS b ∧ ((parseR a).getD noVer).major = ((parseR b).getD noVer).major) ∨ (majS a ≠ majS b ∧ cmpS (majS a) (majS b) = cmpS a b ∧ cmpS a b ≠ 0) := by
  cases hp : parseR a with
  | none => rw [hp] at ha; cases ha
  | some v =>
    cases hq : parseR b with
    | none => rw [hq] at hb; cases hb
    | some u =>
      have ea : majS a = majV v := by unfold majS; rw [hp]
      have eb : majS b = majV u := by unfold majS; rw [hq]
      rw [ea, eb]
      by_cases hn : v.major = u.major
      · exact Or.inl ⟨by unfold majV; rw [hn], hn⟩
      · obtain ⟨h1, h2, h3⟩ := maj_cmp hp hq hn
        exact Or.inr ⟨fun e => hn (maj_inj e), by rw [h1, h2], by rw [h1]; exact h3⟩
set_option maxHeartbeats 8000000 in
set_option maxRecDepth 100000 in
theorem major_walk (a b : ByteArray) (w : World) (ha : a.size ≤ 140737488355328) (hb : b.size ≤ 140737488355328) :
    Calls Tryd.prog 10 #[.string a, .string b] w fun e w' => e = .returned (.bool true) ∧ Below w.heap.size w w' := by
  have HA := hidM (parse_any a w (by omega))
  have HB := hidM (fun V => parse_any b V (by omega))
  have HMA := hidM (fun V => major_any a V (by omega))
  have HMB := hidM (fun V => major_any b V (by omega))
  have HC := hidM (fun V => compare_any a b V (by omega) (by omega))
  have za := majS_size a
  have zb := majS_size b
  have HCM := hidM (fun V => compare_any (majS a) (majS b) V (by omega) (by omega))
  have HAW := hidM (fun V => awake_any V)
  have fa := @majS_none a
  have fb := @majS_none b
  have fs := @majS_two a b
  clear za zb ha hb
  generalize cmpS (majS a) (majS b) = d at *
  generalize cmpS a b = c at *
  generalize majS a = MA at *
  generalize majS b = MB at *
  generalize (parseR a).isSome = oa at *
  generalize (parseR b).isSome = ob at *
  generalize (parseR a).getD noVer = x at *
  generalize (parseR b).getD noVer = y at *
  cases oa <;> cases ob
  · as_aux_lemma =>
    cases fa rfl
    cases fb rfl
    clear fa fb fs HC HCM
    go_enter Tryd.func10, Tryd.ntmps10
    go_wp2_with fail
    refine HA.out.mono ?_
    rintro _ w1 ⟨rfl, hb1⟩
    have HB1 : Hid (Below w.heap.size w (w1.alloc (.cells #[.string x.major, .string x.minor, .string x.patch, .string x.pre, .string x.build, .int .i64 (x.short : Int)] 23))) := hb1.alloc hb1.size _
    have HX1 := hidM (_root_.Go.heap_alloc_new w1 (.cells #[.string x.major, .string x.minor, .string x.patch, .string x.pre, .string x.build, .int .i64 (x.short : Int)] 23))
    clear hb1
    go_wp2_with fail
    generalize (w1.alloc (.cells #[.string x.major, .string x.minor, .string x.patch, .string x.pre, .string x.build, .int .i64 (x.short : Int)] 23)) = W1 at *
    generalize w1.heap.size = B1 at *
    refine (HB.out W1).mono ?_
    rintro _ w2 ⟨rfl, hb2⟩
    have HB2 := hidM (HB1.out.trans (hb2.mono HB1.out.size))
    have HX2 := hidM (box_kept HX1.out hb2)
    have HS0 : Hid (CmS w B1 w2.heap.size x y (w2.alloc (.cells #[.string y.major, .string y.minor, .string y.patch, .string y.pre, .string y.build, .int .i64 (y.short : Int)] 23))) := ⟨HB2.out.alloc HB2.out.size _, (_root_.Go.heap_alloc_old _ _ (Array.getElem?_eq_some_iff.1 HX2.out).1).trans HX2.out, _root_.Go.heap_alloc_new _ _⟩
    clear hb2 HA HB HB1 HX1 HB2 HX2
    go_upto_region 3 with fail
    generalize (w2.alloc (.cells #[.string y.major, .string y.minor, .string y.patch, .string y.pre, .string y.build, .int .i64 (y.short : Int)] 23)) = W2 at *
    generalize w2.heap.size = B2 at *
    go_wp2_with fail
    refine (HAW.out _).mono ?_
    rintro _ v1 ⟨rfl, hb⟩
    have HS1 := hidM (CmS.next HS0.out hb)
    clear hb
    go_wp2_with fail
    refine (HMA.out _).mono ?_
    rintro _ v2 ⟨rfl, hb⟩
    have HS2 := hidM (CmS.next HS1.out hb)
    clear hb
    go_wp2_with fail
    refine (HMB.out _).mono ?_
    rintro _ v3 ⟨rfl, hb⟩
    have HS3 := hidM (CmS.next HS2.out hb)
    clear hb
    go_wp2
    go_ret
    exact ⟨rfl, HS3.out.bel⟩
  · as_aux_lemma =>
    cases fa rfl
    clear fa fb fs HC HCM HMB
    go_enter Tryd.func10, Tryd.ntmps10
    go_wp2_with fail
    refine HA.out.mono ?_
    rintro _ w1 ⟨rfl, hb1⟩
    have HB1 : Hid (Below w.heap.size w (w1.alloc (.cells #[.string x.major, .string x.minor, .string x.patch, .string x.pre, .string x.build, .int .i64 (x.short : Int)] 23))) := hb1.alloc hb1.size _
    have HX1 := hidM (_root_.Go.heap_alloc_new w1 (.cells #[.string x.major, .string x.minor, .string x.patch, .string x.pre, .string x.build, .int .i64 (x.short : Int)] 23))
    clear hb1
    go_wp2_with fail
    generalize (w1.alloc (.cells #[.string x.major, .string x.minor, .string x.patch, .string x.pre, .string x.build, .int .i64 (x.short : Int)] 23)) = W1 at *
    generalize w1.heap.size = B1 at *
    refine (HB.out W1).mono ?_
    rintro _ w2 ⟨rfl, hb2⟩
    have HB2 := hidM (HB1.out.trans (hb2.mono HB1.out.size))
    have HX2 := hidM (box_kept HX1.out hb2)
    have HS0 : Hid (CmS w B1 w2.heap.size x y (w2.alloc (.cells #[.string y.major, .string y.minor, .string y.patch, .string y.pre, .string y.build, .int .i64 (y.short : Int)] 23))) := ⟨HB2.out.alloc HB2.out.size _, (_root_.Go.heap_alloc_old _ _ (Array.getElem?_eq_some_iff.1 HX2.out).1).trans HX2.out, _root_.Go.heap_alloc_new _ _⟩
    clear hb2 HA HB HB1 HX1 HB2 HX2
    go_upto_region 3 with fail
    generalize (w2.alloc (.cells #[.string y.major, .string y.minor, .string y.patch, .string y.pre, .string y.build, .int .i64 (y.short : Int)] 23)) = W2 at *
    generalize w2.heap.size = B2 at *
    go_wp2_with fail
    refine (HAW.out _).mono ?_
    rintro _ v1 ⟨rfl, hb⟩
    have HS1 := hidM (CmS.next HS0.out hb)
    clear hb
    go_wp2_with fail
    refine (HMA.out _).mono ?_
    rintro _ v2 ⟨rfl, hb⟩
    have HS2 := hidM (CmS.next HS1.out hb)
    clear hb
    go_wp2
    go_ret
    exact ⟨rfl, HS2.out.bel⟩
  · as_aux_lemma =>
    cases fb rfl
    clear fa fb fs HC HCM HMA
    go_enter Tryd.func10, Tryd.ntmps10
    go_wp2_with fail
    refine HA.out.mono ?_
    rintro _ w1 ⟨rfl, hb1⟩
    have HB1 : Hid (Below w.heap.size w (w1.alloc (.cells #[.string x.major, .string x.minor, .string x.patch, .string x.pre, .string x.build, .int .i64 (x.short : Int)] 23))) := hb1.alloc hb1.size _
    have HX1 := hidM (_root_.Go.heap_alloc_new w1 (.cells #[.string x.major, .string x.minor, .string x.patch, .string x.pre, .string x.build, .int .i64 (x.short : Int)] 23))
    clear hb1
    go_wp2_with fail
    generalize (w1.alloc (.cells #[.string x.major, .string x.minor, .string x.patch, .string x.pre, .string x.build, .int .i64 (x.short : Int)] 23)) = W1 at *
    generalize w1.heap.size = B1 at *
    refine (HB.out W1).mono ?_
    rintro _ w2 ⟨rfl, hb2⟩
    have HB2 := hidM (HB1.out.trans (hb2.mono HB1.out.size))
    have HX2 := hidM (box_kept HX1.out hb2)
    have HS0 : Hid (CmS w B1 w2.heap.size x y (w2.alloc (.cells #[.string y.major, .string y.minor, .string y.patch, .string y.pre, .string y.build, .int .i64 (y.short : Int)] 23))) := ⟨HB2.out.alloc HB2.out.size _, (_root_.Go.heap_alloc_old _ _ (Array.getElem?_eq_some_iff.1 HX2.out).1).trans HX2.out, _root_.Go.heap_alloc_new _ _⟩
    clear hb2 HA HB HB1 HX1 HB2 HX2
    go_upto_region 3 with fail
    generalize (w2.alloc (.cells #[.string y.major, .string y.minor, .string y.patch, .string y.pre, .string y.build, .int .i64 (y.short : Int)] 23)) = W2 at *
    generalize w2.heap.size = B2 at *
    go_wp2_with fail
    refine (HAW.out _).mono ?_
    rintro _ v1 ⟨rfl, hb⟩
    have HS1 := hidM (CmS.next HS0.out hb)
    clear hb
    go_wp2_with fail
    refine (HMB.out _).mono ?_
    rintro _ v2 ⟨rfl, hb⟩
    have HS2 := hidM (CmS.next HS1.out hb)
    clear hb
    go_wp2
    go_ret
    exact ⟨rfl, HS2.out.bel⟩
  · rcases fs rfl rfl with ⟨h1, h2⟩ | ⟨h1, h2, h3⟩
    · as_aux_lemma =>
      cases h1
      clear fa fb HC HCM
      have HE := hidM h2
      clear h2
      go_enter Tryd.func10, Tryd.ntmps10
      go_wp2_with fail
      refine HA.out.mono ?_
      rintro _ w1 ⟨rfl, hb1⟩
      have HB1 : Hid (Below w.heap.size w (w1.alloc (.cells #[.string x.major, .string x.minor, .string x.patch, .string x.pre, .string x.build, .int .i64 (x.short : Int)] 23))) := hb1.alloc hb1.size _
      have HX1 := hidM (_root_.Go.heap_alloc_new w1 (.cells #[.string x.major, .string x.minor, .string x.patch, .string x.pre, .string x.build, .int .i64 (x.short : Int)] 23))
      clear hb1
      go_wp2_with fail
      generalize (w1.alloc (.cells #[.string x.major, .string x.minor, .string x.patch, .string x.pre, .string x.build, .int .i64 (x.short : Int)] 23)) = W1 at *
      generalize w1.heap.size = B1 at *
      refine (HB.out W1).mono ?_
      rintro _ w2 ⟨rfl, hb2⟩
      have HB2 := hidM (HB1.out.trans (hb2.mono HB1.out.size))
      have HX2 := hidM (box_kept HX1.out hb2)
      have HS0 : Hid (CmS w B1 w2.heap.size x y (w2.alloc (.cells #[.string y.major, .string y.minor, .string y.patch, .string y.pre, .string y.build, .int .i64 (y.short : Int)] 23))) := ⟨HB2.out.alloc HB2.out.size _, (_root_.Go.heap_alloc_old _ _ (Array.getElem?_eq_some_iff.1 HX2.out).1).trans HX2.out, _root_.Go.heap_alloc_new _ _⟩
      clear hb2 HA HB HB1 HX1 HB2 HX2
      go_upto_region 3 with fail
      generalize (w2.alloc (.cells #[.string y.major, .string y.minor, .string y.patch, .string y.pre, .string y.build, .int .i64 (y.short : Int)] 23)) = W2 at *
      generalize w2.heap.size = B2 at *
      go_wp2_with fail
      refine (HMA.out _).mono ?_
      rintro _ v1 ⟨rfl, hb⟩
      have HS1 := hidM (CmS.next HS0.out hb)
      clear hb
      go_wp2_with fail
      refine (HMB.out _).mono ?_
      rintro _ v2 ⟨rfl, hb⟩
      have HS2 := hidM (CmS.next HS1.out hb)
      clear hb
      go_wp2_with fail
      refine (HAW.out _).mono ?_
      rintro _ v3 ⟨rfl, hb⟩
      have HS3 := hidM (CmS.next HS2.out hb)
      clear hb
      obtain ⟨y0, _, _, _, y4, _, _, _, _⟩ := CmS.full HS3.out
      rw [← HE.out] at y4
      go_wp2
      go_ret
      exact ⟨rfl, HS3.out.bel⟩
    · as_aux_lemma =>
      cases h2
      clear fa fb
      have hm : (MA.toList == MB.toList) = false := beq_false_of_ne (fun e => h1 (bytes_ext (by rw [Go.ByteArray.toList_eq, Go.ByteArray.toList_eq] at e; exact e)))
      have hc : (d != 0) = true := by simpa using h3
      go_enter Tryd.func10, Tryd.ntmps10
      go_wp2_with fail
      refine HA.out.mono ?_
      rintro _ w1 ⟨rfl, hb1⟩
      have HB1 : Hid (Below w.heap.size w (w1.alloc (.cells #[.string x.major, .string x.minor, .string x.patch, .string x.pre, .string x.build, .int .i64 (x.short : Int)] 23))) := hb1.alloc hb1.size _
      have HX1 := hidM (_root_.Go.heap_alloc_new w1 (.cells #[.string x.major, .string x.minor, .string x.patch, .string x.pre, .string x.build, .int .i64 (x.short : Int)] 23))
      clear hb1
      go_wp2_with fail
      generalize (w1.alloc (.cells #[.string x.major, .string x.minor, .string x.patch, .string x.pre, .string x.build, .int .i64 (x.short : Int)] 23)) = W1 at *
      generalize w1.heap.size = B1 at *
      refine (HB.out W1).mono ?_
      rintro _ w2 ⟨rfl, hb2⟩
      have HB2 := hidM (HB1.out.trans (hb2.mono HB1.out.size))
      have HX2 := hidM (box_kept HX1.out hb2)
      have HS0 : Hid (CmS w B1 w2.heap.size x y (w2.alloc (.cells #[.string y.major, .string y.minor, .string y.patch, .string y.pre, .string y.build, .int .i64 (y.short : Int)] 23))) := ⟨HB2.out.alloc HB2.out.size _, (_root_.Go.heap_alloc_old _ _ (Array.getElem?_eq_some_iff.1 HX2.out).1).trans HX2.out, _root_.Go.heap_alloc_new _ _⟩
      clear hb2 HA HB HB1 HX1 HB2 HX2
      go_upto_region 3 with fail
      generalize (w2.alloc (.cells #[.string y.major, .string y.minor, .string y.patch, .string y.pre, .string y.build, .int .i64 (y.short : Int)] 23)) = W2 at *
      generalize w2.heap.size = B2 at *
      go_wp2_with fail
      refine (HMA.out _).mono ?_
      rintro _ v1 ⟨rfl, hb⟩
      have HS1 := hidM (CmS.next HS0.out hb)
      clear hb
      go_wp2_with fail
      refine (HMB.out _).mono ?_
      rintro _ v2 ⟨rfl, hb⟩
      have HS2 := hidM (CmS.next HS1.out hb)
      clear hb
      go_wp2_with fail
      refine (HAW.out _).mono ?_
      rintro _ v3 ⟨rfl, hb⟩
      have HS3 := hidM (CmS.next HS2.out hb)
      clear hb
      go_wp2_with fail
      refine (HC.out _).mono ?_
      rintro _ v4 ⟨rfl, hb⟩
      have HS4 := hidM (CmS.next HS3.out hb)
      clear hb
      go_wp2_with fail
      refine (HMA.out _).mono ?_
      rintro _ v5 ⟨rfl, hb⟩
      have HS5 := hidM (CmS.next HS4.out hb)
      clear hb
      go_wp2_with fail
      refine (HMB.out _).mono ?_
      rintro _ v6 ⟨rfl, hb⟩
      have HS6 := hidM (CmS.next HS5.out hb)
      clear hb
      go_wp2_with fail
      refine (HCM.out _).mono ?_
      rintro _ v7 ⟨rfl, hb⟩
      have HS7 := hidM (CmS.next HS6.out hb)
      clear hb
      go_wp2_with fail
      refine (HC.out _).mono ?_
      rintro _ v8 ⟨rfl, hb⟩
      have HS8 := hidM (CmS.next HS7.out hb)
      clear hb
      go_wp2
      go_ret
      exact ⟨rfl, HS8.out.bel⟩
end Go.Proofs.YtdbkmcjdkiljaaaDoor
