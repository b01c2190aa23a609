/-
  Walks of the document's semver: Parse of any text, Canonical; the law SemverParses.
-/
import Derived.Test.YtdbkmcjdkiljaaaDoorRefE
namespace Go.Proofs.YtdbkmcjdkiljaaaDoor
open Go.RowKit

theorem rparse_any (s : ByteArray) (w : World) (hm : s.size ≤ 9223372036854775807) : Calls Tryd.prog 12 #[.string s] w fun x w' => x = .returned (.tuple #[.agg #[.string ((parseR s).getD noVer).major, .string ((parseR s).getD noVer).minor, .string ((parseR s).getD noVer).patch, .string ((parseR s).getD noVer).pre, .string ((parseR s).getD noVer).build, .int .i64 (((parseR s).getD noVer).short : Int)], .bool (parseR s).isSome]) ∧ Below w.heap.size w w' := by
  rw [← verV_eq]
  by_cases h : s.size < 2 ∨ 100 < s.size ∨ s.data.toList.getD 0 0 ≠ 118
  · exact rparse_head s w hm h
  · refine rparse_good s w ?_ ?_ ?_
    · exact Nat.le_of_not_lt fun h1 => h (Or.inl h1)
    · exact Nat.le_of_not_lt fun h1 => h (Or.inr (Or.inl h1))
    · exact Classical.byContradiction fun h1 => h (Or.inr (Or.inr h1))
set_option maxHeartbeats 2000000 in
set_option maxRecDepth 100000 in
theorem rcanonical_any (s : ByteArray) (w : World) (hs : s.size ≤ 9223372036854775807) : Calls Tryd.prog 15 #[.string s] w fun e w' => e = .returned (.string (canS s)) ∧ Below w.heap.size w w' := by
  have HP := hidM (rparse_any s w hs)
  cases hv : parseR s with
  | none =>
    have HC : Hid (canS s = ⟨#[]⟩) := by unfold Hid canS; rw [hv]
    rw [hv] at HP
    clear hv
    unfold noVer at HP
    simp only [Option.getD_none, Option.isSome_none] at HP
    go_enter Tryd.func15, Tryd.ntmps15
    go_wp2_with fail
    refine HP.out.mono ?_
    rintro _ w1 ⟨rfl, hb1⟩
    have HB1 := hidM hb1
    clear hb1
    go_wp2
    go_ret
    exact ⟨by rw [HC.out]; rfl, HB1.out.alloc HB1.out.size _⟩
  | some v =>
    obtain ⟨z1, z2, z3, z4⟩ := ver_small hv
    have HC : Hid (canS s = if v.pre.data.toList.isEmpty then (⟨#[118]⟩ : ByteArray) ++ v.major ++ ⟨#[46]⟩ ++ v.minor ++ ⟨#[46]⟩ ++ v.patch else (⟨#[118]⟩ : ByteArray) ++ v.major ++ ⟨#[46]⟩ ++ v.minor ++ ⟨#[46]⟩ ++ v.patch ++ (⟨#[45]⟩ ++ v.pre)) := by unfold Hid canS; rw [hv]; rfl
    rw [hv] at HP
    clear hv
    simp only [Option.getD_some, Option.isSome_some] at HP
    have he := empty_beq v.pre
    generalize v.major = a at *
    generalize v.minor = b at *
    generalize v.patch = c at *
    generalize v.pre = d at *
    generalize v.build = e at *
    generalize (v.short : Int) = n at *
    cases h0 : d.data.toList.isEmpty with
    | true =>
      rw [h0] at he HC
      clear h0
      go_enter Tryd.func15, Tryd.ntmps15
      go_wp2_with fail
      refine HP.out.mono ?_
      rintro _ w1 ⟨rfl, hb1⟩
      have HB1 := hidM hb1
      clear hb1
      go_wp2
      go_ret
      exact ⟨by rw [HC.out]; rfl, HB1.out.alloc HB1.out.size _⟩
    | false =>
      rw [h0] at he HC
      clear h0
      go_enter Tryd.func15, Tryd.ntmps15
      go_wp2_with fail
      refine HP.out.mono ?_
      rintro _ w1 ⟨rfl, hb1⟩
      have HB1 := hidM hb1
      clear hb1
      go_wp2
      go_ret
      exact ⟨by rw [HC.out]; rfl, HB1.out.alloc HB1.out.size _⟩
set_option maxHeartbeats 4000000 in
set_option maxRecDepth 100000 in
theorem parses_walk (s : ByteArray) (w : World) (hs : s.size ≤ 140737488355328) :
    Calls Tryd.prog 3 #[.string s] w fun e w' => e = .returned (.bool true) ∧ Below w.heap.size w w' := by
  have HP := hidM (parse_any s w (by omega))
  have HQ := hidM (fun V => rparse_any s V (by omega))
  have HAW := hidM (fun V => awake_any V)
  have HCA := hidM (fun V => canonical_any s V (by omega))
  have HCB := hidM (fun V => rcanonical_any s V (by omega))
  have HM := hidM (fun V => major_any s V (by omega))
  cases hv : parseR s with
  | none =>
    have e2 : majS s = ⟨#[]⟩ := by unfold majS; rw [hv]
    rw [e2] at HM
    rw [hv] at HP HQ
    simp only [Option.getD_none, Option.isSome_none] at HP HQ
    clear e2 hv hs
    generalize noVer = x at *
    generalize canS s = C at *
    go_enter Tryd.func3, Tryd.ntmps3
    go_wp2_with fail
    refine HP.out.mono ?_
    rintro _ v1 ⟨rfl, hb⟩
    have HB1 := hidM hb
    clear hb
    have HB2 : Hid (Below w.heap.size w (v1.alloc (.cells #[.string x.major, .string x.minor, .string x.patch, .string x.pre, .string x.build, .int .i64 (x.short : Int)] 23))) := HB1.out.alloc HB1.out.size _
    have HX2 : Hid ((v1.alloc (.cells #[.string x.major, .string x.minor, .string x.patch, .string x.pre, .string x.build, .int .i64 (x.short : Int)] 23)).heap[v1.heap.size]? = some (.cells #[.string x.major, .string x.minor, .string x.patch, .string x.pre, .string x.build, .int .i64 (x.short : Int)] 23)) := _root_.Go.heap_alloc_new _ _
    go_wp2_with fail
    generalize (v1.alloc (.cells #[.string x.major, .string x.minor, .string x.patch, .string x.pre, .string x.build, .int .i64 (x.short : Int)] 23)) = W1 at *
    generalize v1.heap.size = G1 at *
    refine (HQ.out W1).mono ?_
    rintro _ v2 ⟨rfl, hb⟩
    have HB3 := hidM (HB2.out.trans (hb.mono HB2.out.size))
    have HX3 := hidM (box_kept HX2.out hb)
    clear hb HX2
    have HB4 : Hid (Below w.heap.size w (v2.alloc (.cells #[.string x.major, .string x.minor, .string x.patch, .string x.pre, .string x.build, .int .i64 (x.short : Int)] 26))) := HB3.out.alloc HB3.out.size _
    have HY4 : Hid ((v2.alloc (.cells #[.string x.major, .string x.minor, .string x.patch, .string x.pre, .string x.build, .int .i64 (x.short : Int)] 26)).heap[v2.heap.size]? = some (.cells #[.string x.major, .string x.minor, .string x.patch, .string x.pre, .string x.build, .int .i64 (x.short : Int)] 26)) := _root_.Go.heap_alloc_new _ _
    have HX4 : Hid ((v2.alloc (.cells #[.string x.major, .string x.minor, .string x.patch, .string x.pre, .string x.build, .int .i64 (x.short : Int)] 26)).heap[G1]? = some (.cells #[.string x.major, .string x.minor, .string x.patch, .string x.pre, .string x.build, .int .i64 (x.short : Int)] 23)) := (_root_.Go.heap_alloc_old _ _ (Array.getElem?_eq_some_iff.1 HX3.out).1).trans HX3.out
    have y0 : (v2.alloc (.cells #[.string x.major, .string x.minor, .string x.patch, .string x.pre, .string x.build, .int .i64 (x.short : Int)] 26)).cell? ⟨v2.heap.size, 0, none⟩ = some (.string x.major) := by rw [cell_of_row _ _ _ _ 26 (0, 0) HY4.out]; rfl
    go_wp2_with fail
    generalize (v2.alloc (.cells #[.string x.major, .string x.minor, .string x.patch, .string x.pre, .string x.build, .int .i64 (x.short : Int)] 26)) = W2 at *
    generalize v2.heap.size = G2 at *
    refine (HAW.out W2).mono ?_
    rintro _ v4 ⟨rfl, hb⟩
    have HB5 := hidM (HB4.out.trans (hb.mono HB4.out.size))
    have HX5 := hidM (box_kept HX4.out hb)
    have HY5 := hidM (box_kept HY4.out hb)
    clear hb HX4 HY4 y0
    have r0 : v4.cell? ⟨G1, 0, none⟩ = some (.string x.major) := by rw [cell_of_row _ _ _ _ 23 (0, 0) HX5.out]; rfl
    have s0 : v4.cell? ⟨G2, 0, none⟩ = some (.string x.major) := by rw [cell_of_row _ _ _ _ 26 (0, 0) HY5.out]; rfl
    have r1 : v4.cell? ⟨G1, 1, none⟩ = some (.string x.minor) := by rw [cell_of_row _ _ _ _ 23 (0, 0) HX5.out]; rfl
    have s1 : v4.cell? ⟨G2, 1, none⟩ = some (.string x.minor) := by rw [cell_of_row _ _ _ _ 26 (0, 0) HY5.out]; rfl
    have r2 : v4.cell? ⟨G1, 2, none⟩ = some (.string x.patch) := by rw [cell_of_row _ _ _ _ 23 (0, 0) HX5.out]; rfl
    have s2 : v4.cell? ⟨G2, 2, none⟩ = some (.string x.patch) := by rw [cell_of_row _ _ _ _ 26 (0, 0) HY5.out]; rfl
    have r3 : v4.cell? ⟨G1, 3, none⟩ = some (.string x.pre) := by rw [cell_of_row _ _ _ _ 23 (0, 0) HX5.out]; rfl
    have s3 : v4.cell? ⟨G2, 3, none⟩ = some (.string x.pre) := by rw [cell_of_row _ _ _ _ 26 (0, 0) HY5.out]; rfl
    have r4 : v4.cell? ⟨G1, 4, none⟩ = some (.string x.build) := by rw [cell_of_row _ _ _ _ 23 (0, 0) HX5.out]; rfl
    have s4 : v4.cell? ⟨G2, 4, none⟩ = some (.string x.build) := by rw [cell_of_row _ _ _ _ 26 (0, 0) HY5.out]; rfl
    have r5 : v4.cell? ⟨G1, 5, none⟩ = some (.int .i64 (x.short : Int)) := by rw [cell_of_row _ _ _ _ 23 (0, 0) HX5.out]; rfl
    have s5 : v4.cell? ⟨G2, 5, none⟩ = some (.int .i64 (x.short : Int)) := by rw [cell_of_row _ _ _ _ 26 (0, 0) HY5.out]; rfl
    go_wp2_with fail
    refine (HCA.out v4).mono ?_
    rintro _ v5 ⟨rfl, hb⟩
    have HB6 := hidM (HB5.out.trans (hb.mono HB5.out.size))
    clear hb
    go_wp2_with fail
    refine (HCB.out v5).mono ?_
    rintro _ v6 ⟨rfl, hb⟩
    have HB7 := hidM (HB6.out.trans (hb.mono HB6.out.size))
    clear hb
    go_wp2_with fail
    refine (HM.out v6).mono ?_
    rintro _ v7 ⟨rfl, hb⟩
    have HB8 := hidM (HB7.out.trans (hb.mono HB7.out.size))
    clear hb
    go_wp2
    go_ret
    exact ⟨rfl, HB8.out⟩
  | some x =>
    have e2 : majS s = (⟨#[118]⟩ : ByteArray) ++ x.major := by unfold majS; rw [hv]; rfl
    have hz := (ver_small hv).1
    rw [e2] at HM
    rw [hv] at HP HQ
    simp only [Option.getD_some, Option.isSome_some] at HP HQ
    clear e2 hv hs
    generalize canS s = C at *
    go_enter Tryd.func3, Tryd.ntmps3
    go_wp2_with fail
    refine HP.out.mono ?_
    rintro _ v1 ⟨rfl, hb⟩
    have HB1 := hidM hb
    clear hb
    have HB2 : Hid (Below w.heap.size w (v1.alloc (.cells #[.string x.major, .string x.minor, .string x.patch, .string x.pre, .string x.build, .int .i64 (x.short : Int)] 23))) := HB1.out.alloc HB1.out.size _
    have HX2 : Hid ((v1.alloc (.cells #[.string x.major, .string x.minor, .string x.patch, .string x.pre, .string x.build, .int .i64 (x.short : Int)] 23)).heap[v1.heap.size]? = some (.cells #[.string x.major, .string x.minor, .string x.patch, .string x.pre, .string x.build, .int .i64 (x.short : Int)] 23)) := _root_.Go.heap_alloc_new _ _
    go_wp2_with fail
    generalize (v1.alloc (.cells #[.string x.major, .string x.minor, .string x.patch, .string x.pre, .string x.build, .int .i64 (x.short : Int)] 23)) = W1 at *
    generalize v1.heap.size = G1 at *
    refine (HQ.out W1).mono ?_
    rintro _ v2 ⟨rfl, hb⟩
    have HB3 := hidM (HB2.out.trans (hb.mono HB2.out.size))
    have HX3 := hidM (box_kept HX2.out hb)
    clear hb HX2
    have HB4 : Hid (Below w.heap.size w (v2.alloc (.cells #[.string x.major, .string x.minor, .string x.patch, .string x.pre, .string x.build, .int .i64 (x.short : Int)] 26))) := HB3.out.alloc HB3.out.size _
    have HY4 : Hid ((v2.alloc (.cells #[.string x.major, .string x.minor, .string x.patch, .string x.pre, .string x.build, .int .i64 (x.short : Int)] 26)).heap[v2.heap.size]? = some (.cells #[.string x.major, .string x.minor, .string x.patch, .string x.pre, .string x.build, .int .i64 (x.short : Int)] 26)) := _root_.Go.heap_alloc_new _ _
    have HX4 : Hid ((v2.alloc (.cells #[.string x.major, .string x.minor, .string x.patch, .string x.pre, .string x.build, .int .i64 (x.short : Int)] 26)).heap[G1]? = some (.cells #[.string x.major, .string x.minor, .string x.patch, .string x.pre, .string x.build, .int .i64 (x.short : Int)] 23)) := (_root_.Go.heap_alloc_old _ _ (Array.getElem?_eq_some_iff.1 HX3.out).1).trans HX3.out
    have y0 : (v2.alloc (.cells #[.string x.major, .string x.minor, .string x.patch, .string x.pre, .string x.build, .int .i64 (x.short : Int)] 26)).cell? ⟨v2.heap.size, 0, none⟩ = some (.string x.major) := by rw [cell_of_row _ _ _ _ 26 (0, 0) HY4.out]; rfl
    go_wp2_with fail
    generalize (v2.alloc (.cells #[.string x.major, .string x.minor, .string x.patch, .string x.pre, .string x.build, .int .i64 (x.short : Int)] 26)) = W2 at *
    generalize v2.heap.size = G2 at *
    refine (HAW.out W2).mono ?_
    rintro _ v4 ⟨rfl, hb⟩
    have HB5 := hidM (HB4.out.trans (hb.mono HB4.out.size))
    have HX5 := hidM (box_kept HX4.out hb)
    have HY5 := hidM (box_kept HY4.out hb)
    clear hb HX4 HY4 y0
    have r0 : v4.cell? ⟨G1, 0, none⟩ = some (.string x.major) := by rw [cell_of_row _ _ _ _ 23 (0, 0) HX5.out]; rfl
    have s0 : v4.cell? ⟨G2, 0, none⟩ = some (.string x.major) := by rw [cell_of_row _ _ _ _ 26 (0, 0) HY5.out]; rfl
    have r1 : v4.cell? ⟨G1, 1, none⟩ = some (.string x.minor) := by rw [cell_of_row _ _ _ _ 23 (0, 0) HX5.out]; rfl
    have s1 : v4.cell? ⟨G2, 1, none⟩ = some (.string x.minor) := by rw [cell_of_row _ _ _ _ 26 (0, 0) HY5.out]; rfl
    have r2 : v4.cell? ⟨G1, 2, none⟩ = some (.string x.patch) := by rw [cell_of_row _ _ _ _ 23 (0, 0) HX5.out]; rfl
    have s2 : v4.cell? ⟨G2, 2, none⟩ = some (.string x.patch) := by rw [cell_of_row _ _ _ _ 26 (0, 0) HY5.out]; rfl
    have r3 : v4.cell? ⟨G1, 3, none⟩ = some (.string x.pre) := by rw [cell_of_row _ _ _ _ 23 (0, 0) HX5.out]; rfl
    have s3 : v4.cell? ⟨G2, 3, none⟩ = some (.string x.pre) := by rw [cell_of_row _ _ _ _ 26 (0, 0) HY5.out]; rfl
    have r4 : v4.cell? ⟨G1, 4, none⟩ = some (.string x.build) := by rw [cell_of_row _ _ _ _ 23 (0, 0) HX5.out]; rfl
    have s4 : v4.cell? ⟨G2, 4, none⟩ = some (.string x.build) := by rw [cell_of_row _ _ _ _ 26 (0, 0) HY5.out]; rfl
    have r5 : v4.cell? ⟨G1, 5, none⟩ = some (.int .i64 (x.short : Int)) := by rw [cell_of_row _ _ _ _ 23 (0, 0) HX5.out]; rfl
    have s5 : v4.cell? ⟨G2, 5, none⟩ = some (.int .i64 (x.short : Int)) := by rw [cell_of_row _ _ _ _ 26 (0, 0) HY5.out]; rfl
    go_wp2_with fail
    refine (HCA.out v4).mono ?_
    rintro _ v5 ⟨rfl, hb⟩
    have HB6 := hidM (HB5.out.trans (hb.mono HB5.out.size))
    clear hb
    go_wp2_with fail
    refine (HCB.out v5).mono ?_
    rintro _ v6 ⟨rfl, hb⟩
    have HB7 := hidM (HB6.out.trans (hb.mono HB6.out.size))
    clear hb
    go_wp2_with fail
    refine (HM.out v6).mono ?_
    rintro _ v7 ⟨rfl, hb⟩
    have HB8 := hidM (HB7.out.trans (hb.mono HB7.out.size))
    clear hb
    go_wp2
    go_ret
    exact ⟨rfl, HB8.out⟩
end Go.Proofs.YtdbkmcjdkiljaaaDoor
