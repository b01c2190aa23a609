/-
  What the document fixes.
-/
import Derived.Test.YthgmabbnmoembaaDoorGraJ
namespace Go.Proofs.YthgmabbnmoembaaDoor
open Go.RowKit

def exL : List (List Int) := [[1, 2], [3], [3], []]
def exP : List ByteArray := [⟨#[42]⟩, ⟨#[42, 124]⟩, ⟨#[124, 42]⟩, ⟨#[42]⟩]
theorem ex_err : placesE exL = 0 := by decide +kernel
theorem ex_pic : picL exL 4 = exP := by decide +kernel
theorem cell_lit (w : World) (cs : Array Value) (t : TypeId) (g i : Nat) (v : Value) (h : w.heap[g]? = some (.cells cs t (0, 0))) (hv : cs[i]? = some v) : w.cell? ⟨g, i, none⟩ = some v := by rw [cell_of_row w g i cs t (0, 0) h]; exact hv
theorem ints_lit {w : World} {g : Nat} {l : List Int} (h : w.heap[g]? = some (.cells (intsV l).toArray 3 (0, 0))) : IntsV w (.slice (some ⟨g, 0, none⟩) l.length l.length) l :=
  ⟨some ⟨g, 0, none⟩, l.length, rfl, Nat.le_refl _, (fun h => nomatch h), fun _ => ⟨g, 0, rfl, (Array.getElem?_eq_some_iff.1 h).1, fun j hj => by
    rw [Nat.zero_add, cell_of_row w g j _ 3 (0, 0) h]
    have := intsV_at l j hj
    simpa using this⟩⟩
set_option maxHeartbeats 2000000 in
set_option maxRecDepth 50000 in
theorem awake_any (w : World) : Calls Tryd.prog 12 #[] w fun e w' => e = .returned (.bool true) ∧ Below w.heap.size w w' := by
  have HB4 : Hid (Below w.heap.size w ((((w.alloc (.cells #[.int .i64 1, .int .i64 2] 3)).alloc (.cells #[.int .i64 3] 3)).alloc (.cells #[.int .i64 3] 3)).alloc (.cells #[.slice (some ⟨w.heap.size, 0, none⟩) 2 2, .slice (some ⟨w.heap.size + 1, 0, none⟩) 1 1, .slice (some ⟨w.heap.size + 1 + 1, 0, none⟩) 1 1, .slice none 0 0] 28))) :=
    ((((Below.refl _ w).alloc (Nat.le_refl _) _).alloc (by simp) _).alloc (by simp; omega) _).alloc (by simp; omega) _
  have HR4 : Hid (RowsV ((((w.alloc (.cells #[.int .i64 1, .int .i64 2] 3)).alloc (.cells #[.int .i64 3] 3)).alloc (.cells #[.int .i64 3] 3)).alloc (.cells #[.slice (some ⟨w.heap.size, 0, none⟩) 2 2, .slice (some ⟨w.heap.size + 1, 0, none⟩) 1 1, .slice (some ⟨w.heap.size + 1 + 1, 0, none⟩) 1 1, .slice none 0 0] 28)) (.slice (some ⟨w.heap.size + 1 + 1 + 1, 0, none⟩) 4 4) exL) := by
    have h0 : (w.alloc (.cells #[.int .i64 1, .int .i64 2] 3)).heap[w.heap.size]? = some (.cells #[.int .i64 1, .int .i64 2] 3 (0, 0)) := heap_alloc_new w _
    have b1 : Below (w.alloc (.cells #[.int .i64 1, .int .i64 2] 3)).heap.size (w.alloc (.cells #[.int .i64 1, .int .i64 2] 3)) ((w.alloc (.cells #[.int .i64 1, .int .i64 2] 3)).alloc (.cells #[.int .i64 3] 3)) := (Below.refl _ _).alloc (Nat.le_refl _) _
    have h1 := heap_alloc_new (w.alloc (.cells #[.int .i64 1, .int .i64 2] 3)) (.cells #[.int .i64 3] 3)
    have b2 : Below ((w.alloc (.cells #[.int .i64 1, .int .i64 2] 3)).alloc (.cells #[.int .i64 3] 3)).heap.size ((w.alloc (.cells #[.int .i64 1, .int .i64 2] 3)).alloc (.cells #[.int .i64 3] 3)) (((w.alloc (.cells #[.int .i64 1, .int .i64 2] 3)).alloc (.cells #[.int .i64 3] 3)).alloc (.cells #[.int .i64 3] 3)) := (Below.refl _ _).alloc (Nat.le_refl _) _
    have h2 := heap_alloc_new ((w.alloc (.cells #[.int .i64 1, .int .i64 2] 3)).alloc (.cells #[.int .i64 3] 3)) (.cells #[.int .i64 3] 3)
    have i0 : IntsV _ (.slice (some ⟨w.heap.size, 0, none⟩) 2 2) [1, 2] := ints_lit (l := [1, 2]) h0
    have i1 : IntsV _ (.slice (some ⟨(w.alloc (.cells #[.int .i64 1, .int .i64 2] 3)).heap.size, 0, none⟩) 1 1) [3] := ints_lit (l := [3]) h1
    have i2 : IntsV _ (.slice (some ⟨((w.alloc (.cells #[.int .i64 1, .int .i64 2] 3)).alloc (.cells #[.int .i64 3] 3)).heap.size, 0, none⟩) 1 1) [3] := ints_lit (l := [3]) h2
    have j0 := (i0.below b1).below b2
    have j1 := i1.below b2
    generalize hW : ((w.alloc (.cells #[.int .i64 1, .int .i64 2] 3)).alloc (.cells #[.int .i64 3] 3)).alloc (.cells #[.int .i64 3] 3) = W at *
    have hsz : W.heap.size = w.heap.size + 1 + 1 + 1 := by rw [← hW]; simp
    have s1 : (w.alloc (.cells #[.int .i64 1, .int .i64 2] 3)).heap.size = w.heap.size + 1 := by simp
    have s2 : ((w.alloc (.cells #[.int .i64 1, .int .i64 2] 3)).alloc (.cells #[.int .i64 3] 3)).heap.size = w.heap.size + 1 + 1 := by simp
    rw [s1] at j1
    rw [s2] at i2
    have b3 : Below W.heap.size W (W.alloc (.cells #[.slice (some ⟨w.heap.size, 0, none⟩) 2 2, .slice (some ⟨w.heap.size + 1, 0, none⟩) 1 1, .slice (some ⟨w.heap.size + 1 + 1, 0, none⟩) 1 1, .slice none 0 0] 28)) := (Below.refl _ _).alloc (Nat.le_refl _) _
    have h3 := heap_alloc_new W (.cells #[.slice (some ⟨w.heap.size, 0, none⟩) 2 2, .slice (some ⟨w.heap.size + 1, 0, none⟩) 1 1, .slice (some ⟨w.heap.size + 1 + 1, 0, none⟩) 1 1, .slice none 0 0] 28)
    have k0 := j0.below b3
    have k1 := j1.below b3
    have k2 := i2.below b3
    rw [hsz] at h3
    generalize W.alloc (.cells #[.slice (some ⟨w.heap.size, 0, none⟩) 2 2, .slice (some ⟨w.heap.size + 1, 0, none⟩) 1 1, .slice (some ⟨w.heap.size + 1 + 1, 0, none⟩) 1 1, .slice none 0 0] 28) = X at *
    refine ⟨_, _, rfl, Nat.le_refl _, fun _ => ⟨_, 0, rfl, (Array.getElem?_eq_some_iff.1 h3).1, fun j hj => ?_⟩⟩
    match j, hj with
    | 0, _ => exact ⟨_, by rw [cell_of_row X _ _ _ 28 (0, 0) h3]; rfl, k0⟩
    | 1, _ => exact ⟨_, by rw [cell_of_row X _ _ _ 28 (0, 0) h3]; rfl, k1⟩
    | 2, _ => exact ⟨_, by rw [cell_of_row X _ _ _ 28 (0, 0) h3]; rfl, k2⟩
    | 3, _ => exact ⟨_, by rw [cell_of_row X _ _ _ 28 (0, 0) h3]; rfl, ints_nil X⟩
  have HPI := hidM (picture_any _ exL _ HR4.out (by decide) (by decide))
  clear HR4
  go_enter Tryd.func12, Tryd.ntmps12
  go_wp2_with fail
  generalize ((((w.alloc (.cells #[.int .i64 1, .int .i64 2] 3)).alloc (.cells #[.int .i64 3] 3)).alloc (.cells #[.int .i64 3] 3)).alloc (.cells #[.slice (some ⟨w.heap.size, 0, none⟩) 2 2, .slice (some ⟨w.heap.size + 1, 0, none⟩) 1 1, .slice (some ⟨w.heap.size + 1 + 1, 0, none⟩) 1 1, .slice none 0 0] 28)) = W at *
  refine HPI.out.mono ?_
  rintro _ w1 (⟨hne, rfl, hb1⟩ | ⟨he, pv, rfl, ho, hb1⟩)
  · exact absurd ex_err hne
  · have e4 : exL.length = 4 := rfl
    rw [e4, ex_pic] at ho
    have HB1 := hidM (HB4.out.trans (hb1.mono HB4.out.size))
    have HS1 := hidM ho.strs
    obtain ⟨pa, pc, hpv, -⟩ := ho.strs
    subst hpv
    have HB2 : Hid (Below w1.heap.size w1 (w1.alloc (.cells #[.string ⟨#[42]⟩, .string ⟨#[42, 124]⟩, .string ⟨#[124, 42]⟩, .string ⟨#[42]⟩] 9))) := (Below.refl _ w1).alloc (Nat.le_refl _) _
    have HS2 : Hid (StrsV (w1.alloc (.cells #[.string ⟨#[42]⟩, .string ⟨#[42, 124]⟩, .string ⟨#[124, 42]⟩, .string ⟨#[42]⟩] 9)) (.slice (some ⟨w1.heap.size, 0, none⟩) 4 4) exP) := by
      have h3 := heap_alloc_new w1 (.cells #[.string ⟨#[42]⟩, .string ⟨#[42, 124]⟩, .string ⟨#[124, 42]⟩, .string ⟨#[42]⟩] 9)
      generalize w1.alloc (.cells #[.string ⟨#[42]⟩, .string ⟨#[42, 124]⟩, .string ⟨#[124, 42]⟩, .string ⟨#[42]⟩] 9) = X at *
      refine ⟨_, _, rfl, fun _ => ⟨_, rfl, (Array.getElem?_eq_some_iff.1 h3).1, fun j hj => ?_⟩⟩
      match j, hj with
      | 0, _ => rw [cell_of_row X _ _ _ 9 (0, 0) h3]; rfl
      | 1, _ => rw [cell_of_row X _ _ _ 9 (0, 0) h3]; rfl
      | 2, _ => rw [cell_of_row X _ _ _ 9 (0, 0) h3]; rfl
      | 3, _ => rw [cell_of_row X _ _ _ 9 (0, 0) h3]; rfl
    have HSA := hidM (same_any _ _ exP exP _ (HS1.out.below HB2.out) HS2.out (by decide))
    have HSB : Hid (sameB exP exP = true) := by unfold Hid sameB; simp
    rw [HSB.out] at HSA
    have HB3 := hidM (HB1.out.trans (HB2.out.mono HB1.out.size))
    have e5 : exP.length = 4 := rfl
    rw [e5] at HSA
    clear he ho hb1 HPI HB4 HS1 HS2 e4 e5
    go_wp2_with fail
    refine HSA.out.mono ?_
    rintro _ w2 ⟨rfl, hb2⟩
    have HB5 := hidM (HB3.out.trans (hb2.mono HB3.out.size))
    clear hb2
    go_wp2
    go_ret
    exact ⟨rfl, HB5.out⟩
end Go.Proofs.YthgmabbnmoembaaDoor
