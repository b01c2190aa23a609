/-
  The law SemverSorts, walked.
-/
import Derived.Test.YtdbkmcjdkiljaaaDoorSrtA
import Derived.Laws.AppendOwnNone
namespace Go.Proofs.YtdbkmcjdkiljaaaDoor
open Go.RowKit

set_option maxHeartbeats 4000000 in
set_option maxRecDepth 100000 in
theorem sorts_walk (v : Value) (l : List ByteArray) (w : World) (hs : ∀ x ∈ l, x.size ≤ 9223372036854775807) (hml : l.length ≤ 9223372036854775807) (hv : SliV w v l) (hnil : ∀ n c, v = .slice none n c → c = 0) :
    Calls Tryd.prog 5 #[v] w fun e w' => e = .returned (.bool true) ∧ Below w.heap.size w w' := by
  obtain ⟨i0, hi, hz0, hz1, hz2⟩ := info_parts info9
  have HS := hidM hs
  have HNI := hidM hnil
  obtain ⟨a, cap, rfl, hcap, hor⟩ := hv
  have HOR := hidM hor
  clear hor hs hnil
  have HAW := hidM (fun V => awake_any V)
  go_enter Tryd.func5, Tryd.ntmps5
  go_upto_if 6 with fail
  go_cut [0] (fun v0 wx => w = wx ∧ SliV w v0 (l.take 60) ∧ ∀ n c, v0 = .slice none n c → c = 0)
  case first =>
    by_cases h60 : 60 < l.length
    · have b1 : decide ((60 : Int) < (l.length : Int)) = true := decide_eq_true (by omega)
      have hne : l ≠ [] := fun e => by rw [e] at h60; simp at h60
      rcases HOR.out with h | ⟨b, off, rfl, hlt, hc⟩
      · exact absurd h hne
      · have HX : Hid (SliV w (.slice (some ⟨b, off, none⟩) 60 cap) (l.take 60)) := by
          have hl : (l.take 60).length = 60 := by rw [List.length_take]; omega
          refine ⟨_, cap, by rw [hl], by rw [hl]; omega, Or.inr ⟨b, off, rfl, hlt, fun j hj => ?_⟩⟩
          rw [hl] at hj
          rw [List.getElem_take]
          exact hc j (by omega)
        have q1 : (60 : Int) ≤ (cap : Int) := by omega
        clear HOR hne
        go_wp2_with fail
        go_meet
        case rel => exact ⟨rfl, HX.out, fun n c h => by cases h⟩
    · have b1 : decide ((60 : Int) < (l.length : Int)) = false := decide_eq_false (by omega)
      have HX : Hid (SliV w (.slice a l.length cap) (l.take 60)) := by
        rw [List.take_of_length_le (by omega)]
        exact ⟨a, cap, rfl, hcap, HOR.out⟩
      go_wp2_with fail
      go_meet
      case rel => exact ⟨rfl, HX.out, HNI.out⟩
  case rest =>
    obtain ⟨hw, hsl, hni⟩ := hcut
    subst hw
    have hl60 : (l.take 60).length ≤ 60 := by rw [List.length_take]; omega
    have HSZ : Hid (∀ x ∈ l.take 60, x.size ≤ 9223372036854775807) := fun x hx => HS.out x (List.mem_of_mem_take hx)
    have HSL := hidM hsl
    clear HS HOR hcap hml HNI
    generalize l.take 60 = L at *
    have HS1 := hidM (fun v V (h : SliV V v L) => sort_sli v L V HSZ.out (by omega) h)
    have HS2 := hidM (fun v V (h : SliV V v L) => rsort_any v L V HSZ.out (by omega) h)
    have HS3 := hidM (fun v1 v2 V (h1 : SliV V v1 (sortL L)) (h2 : SliV V v2 (sortL L)) => rsame_yes v1 v2 (sortL L) V h1 h2 (by rw [sortL_len]; omega))
    have HS4 := hidM (fun v1 v2 V (h1 : SliV V v1 L) (h2 : SliV V v2 L) => rsame_yes v1 v2 L V h1 h2 (by omega))
    obtain ⟨a0, c0, rfl, hc0, hor0⟩ := hsl
    have HO0 := hidM (own_none w)
    have HB0 : Hid (Below w.heap.size w (w.alloc (.cells #[] 9))) := (Below.refl _ _).alloc (Nat.le_refl _) _
    have HSZ0 : Hid (w.heap.size ≤ (w.alloc (.cells #[] 9)).heap.size) := by unfold Hid; simp
    cases a0 with
    | none =>
      as_aux_lemma =>
      have hL : L = [] := by
        rcases hor0 with h | ⟨b, o, h, _⟩
        · exact h
        · cases h
      obtain rfl : c0 = 0 := hni _ _ rfl
      subst hL
      clear hor0 hni hc0
      have HB3 := HB0
      have HO3 := HO0
      go_wp2_with (at_builtin; refine wpList_append_own_none _ rfl _ _ 35 rfl w.heap.size 9 i0 1 Tryd.underlying35 hi _ 0 [] rfl HO0.out rfl ?_)
      generalize w.alloc (.cells #[] 9) = w3 at *
      have HV3 := hidM (HO3.out.sli)
      go_wp2_with fail
      refine (HAW.out _).mono ?_
      rintro _ w4 ⟨rfl, hb4⟩
      have HB4 := hidM (HB3.out.trans (hb4.mono HB3.out.size))
      have HV4 := hidM (HV3.out.kept hb4)
      clear hb4
      go_wp2_with fail
      refine (HS1.out _ _ HV4.out).mono ?_
      rintro _ w5 ⟨⟨r1, rfl, hr1⟩, hb5⟩
      have HB5 := hidM (HB4.out.trans (hb5.mono HB4.out.size))
      have HV5 := hidM (HV4.out.kept hb5)
      have HR5 := hidM hr1
      clear hb5 hr1
      go_wp2_with fail
      refine (HS2.out _ _ (HSL.out.kept HB5.out)).mono ?_
      rintro _ w6 ⟨⟨r2, rfl, hr2⟩, hb6⟩
      have HB6 := hidM (HB5.out.trans (hb6.mono HB5.out.size))
      have HV6 := hidM (HV5.out.kept hb6)
      have HR6 := hidM (HR5.out.kept hb6)
      have HQ6 := hidM hr2
      clear hb6 hr2
      go_wp2_with fail
      refine (HS3.out _ _ _ HR6.out HQ6.out).mono ?_
      rintro _ w7 ⟨rfl, hb7⟩
      have HB7 := hidM (HB6.out.trans (hb7.mono HB6.out.size))
      have HV7 := hidM (HV6.out.kept hb7)
      clear hb7
      go_wp2_with fail
      refine (HS4.out _ _ _ HV7.out (HSL.out.kept HB7.out)).mono ?_
      rintro _ w8 ⟨rfl, hb8⟩
      have HB8 := hidM (HB7.out.trans (hb8.mono HB7.out.size))
      clear hb8
      go_wp2
      go_ret
      exact ⟨rfl, HB8.out⟩
    | some ad =>
      as_aux_lemma =>
      have HAD : Hid (∀ V, Below w.heap.size w V → ∀ j u, (strsV L)[j]? = some u → V.cell? (ad.add j) = some u) := fun V hV j u hj => by
        unfold strsV at hj
        rw [List.getElem?_map] at hj
        cases hx : L[j]? with
        | none => rw [hx] at hj; cases hj
        | some x =>
          rw [hx] at hj
          obtain ⟨hjl, rfl⟩ := List.getElem?_eq_some_iff.1 hx
          cases hj
          rcases hor0 with h | ⟨b, o, h, hlt, hst⟩
          · rw [h] at hjl; simp at hjl
          · cases h
            rw [Addr.add_lit]
            exact (hV.cell (p := ⟨b, o + j, none⟩) hlt).trans (hst j hjl)
      clear hor0 hni
      go_wp2_with (at_builtin; refine wpList_append_own _ rfl _ _ 35 rfl w.heap.size 9 i0 (.string .empty) 1 16 Tryd.underlying35 hi hz0 hz1 hz2 rfl (by decide) _ 0 [] rfl HO0.out ad L.length c0 (strsV L) rfl ?s0 ?s1 ?s2 ?s3 ?s4 HSZ0.out ?_)
      case s0 => unfold strsV; simp
      case s1 => exact HAD.out _ HB0.out
      case s2 => intro u hu; unfold strsV at hu; obtain ⟨x, _, rfl⟩ := List.mem_map.1 hu; rfl
      case s3 => unfold maxLen; omega
      case s4 => omega
      intro v3 w3 hown hgrow _
      have HO3 : Hid (OwnS w3 w.heap.size v3 L) := by
        unfold Hid OwnS
        exact hown
      have HB3 : Hid (Below w.heap.size w w3) := HB0.out.grown hgrow HSZ0.out (fun k hk => by have hk' : some w.heap.size = some k := hk; cases hk'; exact Nat.le_refl _)
      clear hown hgrow HO0 HB0 HSZ0 HAD
      have HV3 := hidM (HO3.out.sli)
      go_wp2_with fail
      refine (HAW.out _).mono ?_
      rintro _ w4 ⟨rfl, hb4⟩
      have HB4 := hidM (HB3.out.trans (hb4.mono HB3.out.size))
      have HV4 := hidM (HV3.out.kept hb4)
      clear hb4
      go_wp2_with fail
      refine (HS1.out _ _ HV4.out).mono ?_
      rintro _ w5 ⟨⟨r1, rfl, hr1⟩, hb5⟩
      have HB5 := hidM (HB4.out.trans (hb5.mono HB4.out.size))
      have HV5 := hidM (HV4.out.kept hb5)
      have HR5 := hidM hr1
      clear hb5 hr1
      go_wp2_with fail
      refine (HS2.out _ _ (HSL.out.kept HB5.out)).mono ?_
      rintro _ w6 ⟨⟨r2, rfl, hr2⟩, hb6⟩
      have HB6 := hidM (HB5.out.trans (hb6.mono HB5.out.size))
      have HV6 := hidM (HV5.out.kept hb6)
      have HR6 := hidM (HR5.out.kept hb6)
      have HQ6 := hidM hr2
      clear hb6 hr2
      go_wp2_with fail
      refine (HS3.out _ _ _ HR6.out HQ6.out).mono ?_
      rintro _ w7 ⟨rfl, hb7⟩
      have HB7 := hidM (HB6.out.trans (hb7.mono HB6.out.size))
      have HV7 := hidM (HV6.out.kept hb7)
      clear hb7
      go_wp2_with fail
      refine (HS4.out _ _ _ HV7.out (HSL.out.kept HB7.out)).mono ?_
      rintro _ w8 ⟨rfl, hb8⟩
      have HB8 := hidM (HB7.out.trans (hb8.mono HB7.out.size))
      clear hb8
      go_wp2
      go_ret
      exact ⟨rfl, HB8.out⟩
end Go.Proofs.YtdbkmcjdkiljaaaDoor
