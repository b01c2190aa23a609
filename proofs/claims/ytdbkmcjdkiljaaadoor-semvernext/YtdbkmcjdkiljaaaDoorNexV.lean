/-
  The law SemverNext, walked.
-/
import Derived.Test.YtdbkmcjdkiljaaaDoorSemP
namespace Go.Proofs.YtdbkmcjdkiljaaaDoor
open Go.RowKit

/-- the box of the version that was read -/
structure NxS (w : World) (B1 : Nat) (x : Ver) (V : World) : Prop where
  bel : Below w.heap.size w V
  b1 : V.heap[B1]? = some (.cells #[.string x.major, .string x.minor, .string x.patch, .string x.pre, .string x.build, .int .i64 (x.short : Int)] 23)
variable {w V w' : World} {B1 : Nat} {x : Ver}
theorem NxS.next (H : NxS w B1 x V) (hb : Below V.heap.size V w') : NxS w B1 x w' := ⟨H.bel.trans (hb.mono H.bel.size), box_kept H.b1 hb⟩
theorem NxS.alloc {o : Obj} (H : NxS w B1 x V) : NxS w B1 x (V.alloc o) := H.next ((Below.refl _ _).alloc (Nat.le_refl _) _)
theorem NxS.full (H : NxS w B1 x w') : w'.cell? ⟨B1, 0, none⟩ = some (.string x.major) ∧ w'.cell? ⟨B1, 1, none⟩ = some (.string x.minor) ∧ w'.cell? ⟨B1, 2, none⟩ = some (.string x.patch) ∧ w'.cell? ⟨B1, 3, none⟩ = some (.string x.pre) := by
  refine ⟨?_, ?_, ?_, ?_⟩ <;> (rw [cell_of_row _ _ _ _ 23 (0, 0) H.b1]; rfl)
set_option maxHeartbeats 8000000 in
set_option maxRecDepth 100000 in
theorem next_walk (s b : ByteArray) (w : World) (hs : s.size ≤ 140737488355328) (hb0 : b.size ≤ 140737488355328) :
    Calls Tryd.prog 8 #[.string s, .string b] w fun e w' => e = .returned (.bool true) ∧ Below w.heap.size w w' := by
  have HP := hidM (parse_any s w (by omega))
  have HAW := hidM (fun V => awake_any V)
  cases hv : parseR s with
  | none =>
    rw [hv] at HP
    simp only [Option.getD_none, Option.isSome_none] at HP
    clear hv hs hb0
    generalize noVer = x at *
    go_enter Tryd.func8, Tryd.ntmps8
    go_wp2_with fail
    refine HP.out.mono ?_
    rintro _ w1 ⟨rfl, hb⟩
    have HS0 : Hid (NxS w w1.heap.size x (w1.alloc (.cells #[.string x.major, .string x.minor, .string x.patch, .string x.pre, .string x.build, .int .i64 (x.short : Int)] 23))) := ⟨hb.alloc hb.size _, _root_.Go.heap_alloc_new _ _⟩
    clear hb
    go_upto_region 2 with fail
    generalize (w1.alloc (.cells #[.string x.major, .string x.minor, .string x.patch, .string x.pre, .string x.build, .int .i64 (x.short : Int)] 23)) = W1 at *
    generalize w1.heap.size = B1 at *
    go_wp2_with fail
    refine (HAW.out _).mono ?_
    rintro _ v1 ⟨rfl, hb⟩
    have HS1 := hidM (NxS.next HS0.out hb)
    clear hb
    go_wp2
    go_ret
    exact ⟨rfl, HS1.out.bel⟩
  | some x =>
    by_cases hz : s.size ≤ 60
    · have z1 : decide ((60 : Int) < (s.size : Int)) = false := decide_eq_false (by omega)
      have z2 : decide (60 < s.size) = false := decide_eq_false (by omega)
      have hsum := nums_sum hv
      have hsm := ver_small hv
      have hcz : (canV x).size ≤ 400 := by
        have := one_size x
        have hq : (canV x).size ≤ (oneT x).size + 1 + x.pre.size := by
          unfold canV
          split
          · show (oneT x).size ≤ _
            omega
          · show (oneT x ++ (⟨#[45]⟩ ++ x.pre)).size ≤ _
            rw [ByteArray.size_append, ByteArray.size_append]
            show (oneT x).size + (1 + x.pre.size) ≤ _
            omega
        omega
      have htz : (canV x ++ ⟨#[43]⟩ ++ b).size ≤ 140737488356000 := by
        rw [ByteArray.size_append, ByteArray.size_append]
        show (canV x).size + 1 + b.size ≤ _
        omega
      have H9 := hidM (fun V => compare_any s (nineT x) V (by omega) (by rw [nine_size]; omega))
      rw [next_nine hv hz] at H9
      have HCA := hidM (fun V => canonical_any s V (by omega))
      have e1 : canS s = canV x := by unfold canS; rw [hv]
      rw [e1] at HCA
      have HE := hidM (fun V => compare_any ⟨#[]⟩ s V (by decide) (by omega))
      rw [next_none hv] at HE
      have HPT := hidM (fun V => parse_any (canV x ++ ⟨#[43]⟩ ++ b) V (by omega))
      have HCT := hidM (fun V => compare_any s (canV x ++ ⟨#[43]⟩ ++ b) V (by omega) (by omega))
      have hct := next_build hv b
      have H1 := hidM (fun V => compare_any s (oneT x) V (by omega) (by rw [one_size]; omega))
      have h1 := next_one hv hz
      rw [hv] at HP
      simp only [Option.getD_some, Option.isSome_some] at HP
      rw [← empty_beq] at h1
      clear hv e1
      generalize cmpS s (oneT x) = c1 at *
      generalize cmpS s (canV x ++ ⟨#[43]⟩ ++ b) = ct at *
      generalize (parseR (canV x ++ ⟨#[43]⟩ ++ b)).isSome = ot at *
      generalize (parseR (canV x ++ ⟨#[43]⟩ ++ b)).getD noVer = z at *
      unfold oneT at H1
      unfold nineT at H9
      generalize canV x = C at *
      cases hp : x.pre.toList.isEmpty <;> cases ot
      · as_aux_lemma =>
        cases h1 hp
        clear h1 hct HCT
        go_enter Tryd.func8, Tryd.ntmps8
        go_wp2_with fail
        refine HP.out.mono ?_
        rintro _ w1 ⟨rfl, hb⟩
        have HS0 : Hid (NxS w w1.heap.size x (w1.alloc (.cells #[.string x.major, .string x.minor, .string x.patch, .string x.pre, .string x.build, .int .i64 (x.short : Int)] 23))) := ⟨hb.alloc hb.size _, _root_.Go.heap_alloc_new _ _⟩
        clear hb
        go_upto_region 2 with fail
        generalize (w1.alloc (.cells #[.string x.major, .string x.minor, .string x.patch, .string x.pre, .string x.build, .int .i64 (x.short : Int)] 23)) = W1 at *
        generalize w1.heap.size = B1 at *
        obtain ⟨y0, y1, y2, y3⟩ := NxS.full HS0.out
        go_wp2_with fail
        refine (H1.out _).mono ?_
        rintro _ v1 ⟨rfl, hb⟩
        have HS1 := hidM (NxS.next HS0.out hb)
        clear hb
        clear y0 y1 y2 y3
        obtain ⟨y0, y1, y2, y3⟩ := NxS.full HS1.out
        go_wp2_with fail
        refine (H9.out _).mono ?_
        rintro _ v2 ⟨rfl, hb⟩
        have HS2 := hidM (NxS.next HS1.out hb)
        clear hb
        clear y0 y1 y2 y3
        obtain ⟨y0, y1, y2, y3⟩ := NxS.full HS2.out
        go_wp2_with fail
        refine (HCA.out _).mono ?_
        rintro _ v3 ⟨rfl, hb⟩
        have HS3 := hidM (NxS.next HS2.out hb)
        clear hb
        clear y0 y1 y2 y3
        go_wp2_with fail
        refine (HPT.out _).mono ?_
        rintro _ v4 ⟨rfl, hb⟩
        have HS4 := hidM (NxS.next HS3.out hb)
        clear hb
        have HS5 : Hid (NxS w B1 x (v4.alloc (.cells #[.string z.major, .string z.minor, .string z.patch, .string z.pre, .string z.build, .int .i64 (z.short : Int)] 23))) := NxS.alloc HS4.out
        go_upto_region 10 with fail
        generalize (v4.alloc (.cells #[.string z.major, .string z.minor, .string z.patch, .string z.pre, .string z.build, .int .i64 (z.short : Int)] 23)) = W2 at *
        generalize v4.heap.size = B2 at *
        go_wp2_with fail
        refine (HAW.out _).mono ?_
        rintro _ v6 ⟨rfl, hb⟩
        have HS6 := hidM (NxS.next HS5.out hb)
        clear hb
        go_wp2_with fail
        refine (HE.out _).mono ?_
        rintro _ v7 ⟨rfl, hb⟩
        have HS7 := hidM (NxS.next HS6.out hb)
        clear hb
        go_wp2
        go_ret
        exact ⟨rfl, HS7.out.bel⟩
      · as_aux_lemma =>
        cases h1 hp
        cases hct rfl
        clear h1 hct
        go_enter Tryd.func8, Tryd.ntmps8
        go_wp2_with fail
        refine HP.out.mono ?_
        rintro _ w1 ⟨rfl, hb⟩
        have HS0 : Hid (NxS w w1.heap.size x (w1.alloc (.cells #[.string x.major, .string x.minor, .string x.patch, .string x.pre, .string x.build, .int .i64 (x.short : Int)] 23))) := ⟨hb.alloc hb.size _, _root_.Go.heap_alloc_new _ _⟩
        clear hb
        go_upto_region 2 with fail
        generalize (w1.alloc (.cells #[.string x.major, .string x.minor, .string x.patch, .string x.pre, .string x.build, .int .i64 (x.short : Int)] 23)) = W1 at *
        generalize w1.heap.size = B1 at *
        obtain ⟨y0, y1, y2, y3⟩ := NxS.full HS0.out
        go_wp2_with fail
        refine (H1.out _).mono ?_
        rintro _ v1 ⟨rfl, hb⟩
        have HS1 := hidM (NxS.next HS0.out hb)
        clear hb
        clear y0 y1 y2 y3
        obtain ⟨y0, y1, y2, y3⟩ := NxS.full HS1.out
        go_wp2_with fail
        refine (H9.out _).mono ?_
        rintro _ v2 ⟨rfl, hb⟩
        have HS2 := hidM (NxS.next HS1.out hb)
        clear hb
        clear y0 y1 y2 y3
        obtain ⟨y0, y1, y2, y3⟩ := NxS.full HS2.out
        go_wp2_with fail
        refine (HCA.out _).mono ?_
        rintro _ v3 ⟨rfl, hb⟩
        have HS3 := hidM (NxS.next HS2.out hb)
        clear hb
        clear y0 y1 y2 y3
        go_wp2_with fail
        refine (HPT.out _).mono ?_
        rintro _ v4 ⟨rfl, hb⟩
        have HS4 := hidM (NxS.next HS3.out hb)
        clear hb
        have HS5 : Hid (NxS w B1 x (v4.alloc (.cells #[.string z.major, .string z.minor, .string z.patch, .string z.pre, .string z.build, .int .i64 (z.short : Int)] 23))) := NxS.alloc HS4.out
        go_upto_region 10 with fail
        generalize (v4.alloc (.cells #[.string z.major, .string z.minor, .string z.patch, .string z.pre, .string z.build, .int .i64 (z.short : Int)] 23)) = W2 at *
        generalize v4.heap.size = B2 at *
        go_wp2_with fail
        refine (HAW.out _).mono ?_
        rintro _ v6 ⟨rfl, hb⟩
        have HS6 := hidM (NxS.next HS5.out hb)
        clear hb
        go_wp2_with fail
        refine (HCT.out _).mono ?_
        rintro _ v7 ⟨rfl, hb⟩
        have HS7 := hidM (NxS.next HS6.out hb)
        clear hb
        go_wp2_with fail
        refine (HE.out _).mono ?_
        rintro _ v8 ⟨rfl, hb⟩
        have HS8 := hidM (NxS.next HS7.out hb)
        clear hb
        go_wp2
        go_ret
        exact ⟨rfl, HS8.out.bel⟩
      · as_aux_lemma =>
        clear h1 hct HCT H1
        go_enter Tryd.func8, Tryd.ntmps8
        go_wp2_with fail
        refine HP.out.mono ?_
        rintro _ w1 ⟨rfl, hb⟩
        have HS0 : Hid (NxS w w1.heap.size x (w1.alloc (.cells #[.string x.major, .string x.minor, .string x.patch, .string x.pre, .string x.build, .int .i64 (x.short : Int)] 23))) := ⟨hb.alloc hb.size _, _root_.Go.heap_alloc_new _ _⟩
        clear hb
        go_upto_region 2 with fail
        generalize (w1.alloc (.cells #[.string x.major, .string x.minor, .string x.patch, .string x.pre, .string x.build, .int .i64 (x.short : Int)] 23)) = W1 at *
        generalize w1.heap.size = B1 at *
        obtain ⟨y0, y1, y2, y3⟩ := NxS.full HS0.out
        go_wp2_with fail
        refine (H9.out _).mono ?_
        rintro _ v1 ⟨rfl, hb⟩
        have HS1 := hidM (NxS.next HS0.out hb)
        clear hb
        clear y0 y1 y2 y3
        obtain ⟨y0, y1, y2, y3⟩ := NxS.full HS1.out
        go_wp2_with fail
        refine (HCA.out _).mono ?_
        rintro _ v2 ⟨rfl, hb⟩
        have HS2 := hidM (NxS.next HS1.out hb)
        clear hb
        clear y0 y1 y2 y3
        go_wp2_with fail
        refine (HPT.out _).mono ?_
        rintro _ v3 ⟨rfl, hb⟩
        have HS3 := hidM (NxS.next HS2.out hb)
        clear hb
        have HS4 : Hid (NxS w B1 x (v3.alloc (.cells #[.string z.major, .string z.minor, .string z.patch, .string z.pre, .string z.build, .int .i64 (z.short : Int)] 23))) := NxS.alloc HS3.out
        go_upto_region 10 with fail
        generalize (v3.alloc (.cells #[.string z.major, .string z.minor, .string z.patch, .string z.pre, .string z.build, .int .i64 (z.short : Int)] 23)) = W2 at *
        generalize v3.heap.size = B2 at *
        go_wp2_with fail
        refine (HAW.out _).mono ?_
        rintro _ v5 ⟨rfl, hb⟩
        have HS5 := hidM (NxS.next HS4.out hb)
        clear hb
        go_wp2_with fail
        refine (HE.out _).mono ?_
        rintro _ v6 ⟨rfl, hb⟩
        have HS6 := hidM (NxS.next HS5.out hb)
        clear hb
        go_wp2
        go_ret
        exact ⟨rfl, HS6.out.bel⟩
      · as_aux_lemma =>
        cases hct rfl
        clear h1 hct H1
        go_enter Tryd.func8, Tryd.ntmps8
        go_wp2_with fail
        refine HP.out.mono ?_
        rintro _ w1 ⟨rfl, hb⟩
        have HS0 : Hid (NxS w w1.heap.size x (w1.alloc (.cells #[.string x.major, .string x.minor, .string x.patch, .string x.pre, .string x.build, .int .i64 (x.short : Int)] 23))) := ⟨hb.alloc hb.size _, _root_.Go.heap_alloc_new _ _⟩
        clear hb
        go_upto_region 2 with fail
        generalize (w1.alloc (.cells #[.string x.major, .string x.minor, .string x.patch, .string x.pre, .string x.build, .int .i64 (x.short : Int)] 23)) = W1 at *
        generalize w1.heap.size = B1 at *
        obtain ⟨y0, y1, y2, y3⟩ := NxS.full HS0.out
        go_wp2_with fail
        refine (H9.out _).mono ?_
        rintro _ v1 ⟨rfl, hb⟩
        have HS1 := hidM (NxS.next HS0.out hb)
        clear hb
        clear y0 y1 y2 y3
        obtain ⟨y0, y1, y2, y3⟩ := NxS.full HS1.out
        go_wp2_with fail
        refine (HCA.out _).mono ?_
        rintro _ v2 ⟨rfl, hb⟩
        have HS2 := hidM (NxS.next HS1.out hb)
        clear hb
        clear y0 y1 y2 y3
        go_wp2_with fail
        refine (HPT.out _).mono ?_
        rintro _ v3 ⟨rfl, hb⟩
        have HS3 := hidM (NxS.next HS2.out hb)
        clear hb
        have HS4 : Hid (NxS w B1 x (v3.alloc (.cells #[.string z.major, .string z.minor, .string z.patch, .string z.pre, .string z.build, .int .i64 (z.short : Int)] 23))) := NxS.alloc HS3.out
        go_upto_region 10 with fail
        generalize (v3.alloc (.cells #[.string z.major, .string z.minor, .string z.patch, .string z.pre, .string z.build, .int .i64 (z.short : Int)] 23)) = W2 at *
        generalize v3.heap.size = B2 at *
        go_wp2_with fail
        refine (HAW.out _).mono ?_
        rintro _ v5 ⟨rfl, hb⟩
        have HS5 := hidM (NxS.next HS4.out hb)
        clear hb
        go_wp2_with fail
        refine (HCT.out _).mono ?_
        rintro _ v6 ⟨rfl, hb⟩
        have HS6 := hidM (NxS.next HS5.out hb)
        clear hb
        go_wp2_with fail
        refine (HE.out _).mono ?_
        rintro _ v7 ⟨rfl, hb⟩
        have HS7 := hidM (NxS.next HS6.out hb)
        clear hb
        go_wp2
        go_ret
        exact ⟨rfl, HS7.out.bel⟩
    · have z1 : decide ((60 : Int) < (s.size : Int)) = true := decide_eq_true (by omega)
      have z2 : decide (60 < s.size) = true := decide_eq_true (by omega)
      rw [hv] at HP
      simp only [Option.getD_some, Option.isSome_some] at HP
      clear hv hz hs hb0
      go_enter Tryd.func8, Tryd.ntmps8
      go_wp2_with fail
      refine HP.out.mono ?_
      rintro _ w1 ⟨rfl, hb⟩
      have HS0 : Hid (NxS w w1.heap.size x (w1.alloc (.cells #[.string x.major, .string x.minor, .string x.patch, .string x.pre, .string x.build, .int .i64 (x.short : Int)] 23))) := ⟨hb.alloc hb.size _, _root_.Go.heap_alloc_new _ _⟩
      clear hb
      go_upto_region 2 with fail
      generalize (w1.alloc (.cells #[.string x.major, .string x.minor, .string x.patch, .string x.pre, .string x.build, .int .i64 (x.short : Int)] 23)) = W1 at *
      generalize w1.heap.size = B1 at *
      go_wp2_with fail
      refine (HAW.out _).mono ?_
      rintro _ v1 ⟨rfl, hb⟩
      have HS1 := hidM (NxS.next HS0.out hb)
      clear hb
      go_wp2
      go_ret
      exact ⟨rfl, HS1.out.bel⟩
end Go.Proofs.YtdbkmcjdkiljaaaDoor
