/-
  Walks: the law's list and same, the document's Stamp.
-/
import Derived.Test.YtnibcnafbmcdbaaDoorRfA
namespace Go.Proofs.YtnibcnafbmcdbaaDoor
open Go.RowKit

set_option maxHeartbeats 1000000 in
set_option maxRecDepth 100000 in
theorem list_any (y m d h mi s k : Int) (w : World) :
    Calls Tryd.prog 15 #[.agg #[.int .i64 y, .int .i64 m, .int .i64 d, .int .i64 h, .int .i64 mi, .int .i64 s, .int .i64 k]] w fun x w' => RowQ w y m d h mi s k x w' ∧ Below w.heap.size w w' := by
  go_enter Tryd.func15, Tryd.ntmps15
  go_wp2
  go_ret
  exact ⟨⟨w.heap.size + 1, rfl, by omega, heap_alloc2_new _ _ _⟩, ((Below.refl _ w).alloc (Nat.le_refl _) _).alloc (by simp) _⟩
theorem row7 {w : World} {b : Nat} {v0 v1 v2 v3 v4 v5 v6 : Int} (h : w.heap[b]? = some (.cells #[.int .i64 v0, .int .i64 v1, .int .i64 v2, .int .i64 v3, .int .i64 v4, .int .i64 v5, .int .i64 v6] 3)) :
    ∀ k, k < 7 → w.cell? ⟨b, k, none⟩ = some (.int .i64 ([v0, v1, v2, v3, v4, v5, v6].getD k 0)) := by
  intro k hk
  rw [cell_of_row _ _ _ _ 3 (0, 0) h]
  have : k = 0 ∨ k = 1 ∨ k = 2 ∨ k = 3 ∨ k = 4 ∨ k = 5 ∨ k = 6 := by omega
  rcases this with rfl | rfl | rfl | rfl | rfl | rfl | rfl <;> rfl
set_option maxHeartbeats 1000000 in
set_option maxRecDepth 100000 in
theorem same_any (a b : Nat) (f : Nat → Int) (w : World) (ha : ∀ k, k < 7 → w.cell? ⟨a, k, none⟩ = some (.int .i64 (f k))) (hb : ∀ k, k < 7 → w.cell? ⟨b, k, none⟩ = some (.int .i64 (f k))) :
    Calls Tryd.prog 14 #[.slice (some ⟨a, 0, none⟩) 7 7, .slice (some ⟨b, 0, none⟩) 7 7] w fun x w' => x = .returned (.bool true) ∧ ∃ n, w' = w.drewN n := by
  have HA := hidM ha
  have HB := hidM hb
  clear ha hb
  go_enter Tryd.func14, Tryd.ntmps14
  go_wp2
  go_loopw [5, 8] (fun _ iv wr => ∃ (k n : Nat), k ≤ 7 ∧ iv = .int .i64 (k : Int) ∧ wr = w.drewN n) (fun _ i _ => 7 - (intOf i).toNat)
  case atStart => exact ⟨0, 0, by decide, rfl, rfl⟩
  case round =>
    obtain ⟨k, n, hk, rfl, hwr⟩ := hrel
    subst hwr
    by_cases hlt : k < 7
    · have gk : (k : Int) < 7 := by omega
      have c1 := HA.out k hlt
      have c2 := HB.out k hlt
      generalize f k = v at *
      go_wp2
      go_quiet (fail)
      go_wp2
      go_roundw
      case rel => exact ⟨k + 1, _, by omega, by go_num, rfl⟩
      case measure => simp [intOf]; omega
    · have gk : ¬ (k : Int) < 7 := by omega
      go_wp2
      go_ret
      exact ⟨rfl, n, rfl⟩
/-- the text of the first k numbers behind the year -/
def preL (y : Nat) (l : List Nat) (k : Nat) : List UInt8 := d4 y ++ (l.take k).flatMap d2
theorem pre_step (y : Nat) (l : List Nat) (k : Nat) (h : k < l.length) : preL y l (k + 1) = preL y l k ++ d2 (l.getD k 0) := by
  unfold preL
  rw [List.take_add_one, List.getElem?_eq_getElem h, List.flatMap_append, ← List.append_assoc]
  have : l.getD k 0 = l[k] := by rw [List.getD_eq_getElem?_getD, List.getElem?_eq_getElem h]; rfl
  rw [this]
  simp
theorem rdig2 (n : Nat) (h : n < 100) (w : World) : Calls Tryd.prog 22 #[.int .i64 (n : Int), .int .i64 2] w fun e w' => e = .returned (.string (b2 n)) ∧ Below w.heap.size w w' := by
  have := rdig_any n 2 (by omega) (by omega) w
  rw [pad2 n h] at this
  exact this
theorem rdig4 (n : Nat) (h : n < 10000) (w : World) : Calls Tryd.prog 22 #[.int .i64 (n : Int), .int .i64 4] w fun e w' => e = .returned (.string (b4 n)) ∧ Below w.heap.size w w' := by
  have := rdig_any n 4 (by omega) (by omega) w
  rw [pad4 n h] at this
  exact this
set_option maxHeartbeats 2000000 in
set_option maxRecDepth 100000 in
theorem rstamp_any (t : Int) (T y m d h mi s : Nat) (w : World) (ht : t = (T : Int) - 62135596800) (hd : IsDate T y m d h mi s) :
    Calls Tryd.prog 11 #[.int .i64 t] w fun x w' => x = .returned (.string (stampT y m d h mi s)) ∧ Below w.heap.size w w' := by
  have HF := hidM (rfrom_any t T y m d h mi s w ht hd)
  obtain ⟨s1, s2, s3, s4, s5, s6⟩ := hd.small
  have HD4 := hidM (fun V => rdig4 y s1 V)
  have HFIN : Hid ((⟨(preL y [m, d, h, mi, s] 5).toArray⟩ : ByteArray) = stampT y m d h mi s) := by
    unfold Hid
    apply ByteArray.ext
    apply Array.toList_inj.1
    rw [stamp_list]
    unfold preL stL
    simp
  have HSM : Hid (∀ k, k < 5 → [m, d, h, mi, s].getD k 0 < 100) := fun k hk => by
    have : k = 0 ∨ k = 1 ∨ k = 2 ∨ k = 3 ∨ k = 4 := by omega
    rcases this with rfl | rfl | rfl | rfl | rfl
    · exact s2
    · exact s3
    · exact s4
    · exact s5
    · exact s6
  have HCL : Hid (∀ (V : World) (g : Nat) (K : Int), V.heap[g]? = some (.cells #[.int .i64 (y : Int), .int .i64 (m : Int), .int .i64 (d : Int), .int .i64 (h : Int), .int .i64 (mi : Int), .int .i64 (s : Int), .int .i64 K] 3) → V.cell? ⟨g, 0, none⟩ = some (.int .i64 (y : Int)) ∧ ∀ k, k < 5 → V.cell? ⟨g, 1 + k, none⟩ = some (.int .i64 ([m, d, h, mi, s].getD k 0 : Nat))) := fun V g K hV => by
    refine ⟨row7 hV 0 (by decide), fun k hk => ?_⟩
    rw [row7 hV (1 + k) (by omega)]
    have : k = 0 ∨ k = 1 ∨ k = 2 ∨ k = 3 ∨ k = 4 := by omega
    rcases this with rfl | rfl | rfl | rfl | rfl <;> rfl
  have HLE : Hid ([m, d, h, mi, s].length = 5) := rfl
  generalize [m, d, h, mi, s] = L at *
  generalize (((1 + T / 86400) % 7 : Nat) : Int) = K at *
  clear ht hd
  go_enter Tryd.func11, Tryd.ntmps11
  go_wp2_with fail
  refine HF.out.mono ?_
  rintro _ w1 ⟨⟨g, rfl, hg, hbx⟩, hb1⟩
  have HB1 := hidM hb1
  have HX1 := hidM hbx
  have c0 := (HCL.out w1 g K hbx).1
  clear hb1 hbx HF hg
  go_wp2_with fail
  refine (HD4.out w1).mono ?_
  rintro _ w2 ⟨rfl, hb2⟩
  have HB2 := hidM (HB1.out.trans (hb2.mono HB1.out.size))
  have HX2 := hidM (box_kept HX1.out hb2)
  clear hb2 c0
  go_wp2
  go_loopw [4, 6, 16] (fun sv _ iv wr => ∃ k : Nat, k ≤ 5 ∧ iv = .int .i64 (k : Int) ∧ sv = .string ⟨(preL y L k).toArray⟩ ∧ Below w2.heap.size w2 wr) (fun _ _ i _ => 5 - (intOf i).toNat)
  case atStart => exact ⟨0, by decide, rfl, by unfold preL; simp [b4], Below.refl _ _⟩
  case round =>
    obtain ⟨k, hk, rfl, rfl, hbk⟩ := hrel
    have HBK := hidM hbk
    clear hbk
    by_cases hlt : k < 5
    · have gk : (k : Int) < 5 := by omega
      have hs := HSM.out k hlt
      have c1 := (HCL.out wr g K (box_kept HX2.out HBK.out)).2 k hlt
      have HST := hidM (pre_step y L k (by rw [HLE.out]; exact hlt))
      have hln : (⟨(preL y L k).toArray⟩ : ByteArray).size ≤ 100 := by
        show (preL y L k).toArray.size ≤ 100
        rw [List.size_toArray]
        unfold preL
        rw [List.length_append]
        have : ((L.take k).flatMap d2).length = 2 * (L.take k).length := by
          generalize L.take k = M
          induction M with
          | nil => rfl
          | cons a M ih => rw [List.flatMap_cons, List.length_append, ih]; show 2 + _ = _; rw [List.length_cons]; omega
        rw [this, List.length_take]
        show 4 + _ ≤ _
        omega
      have HD2 := hidM (fun V => rdig2 (L.getD k 0) hs V)
      have HAP : Hid ((⟨(preL y L k).toArray⟩ : ByteArray) ++ b2 (L.getD k 0) = ⟨(preL y L (k + 1)).toArray⟩) := by
        unfold Hid
        rw [HST.out]
        apply ByteArray.ext
        simp [b2, ByteArray.data_append]
      have z2 := b2_size (L.getD k 0)
      generalize b2 (L.getD k 0) = X at *
      generalize L.getD k 0 = v at *
      generalize (⟨(preL y L k).toArray⟩ : ByteArray) = S at *
      go_wp2_with fail
      refine (HD2.out _).mono ?_
      rintro _ w3 ⟨rfl, hb3⟩
      have HB3 := hidM (HBK.out.trans (hb3.mono HBK.out.size))
      clear hb3
      go_wp2
      go_roundw
      case rel => exact ⟨k + 1, by omega, by go_num, by rw [← HAP.out], HB3.out⟩
      case measure => simp [intOf]; omega
    · have gk : ¬ (k : Int) < 5 := by omega
      obtain rfl : k = 5 := by omega
      rw [HFIN.out]
      go_wp2
      go_ret
      exact ⟨rfl, HB2.out.trans (HBK.out.mono HB2.out.size)⟩
end Go.Proofs.YtnibcnafbmcdbaaDoor
