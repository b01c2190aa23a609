/-
  The law InflateWrites, walked.
-/
import Derived.Test.YtkckobhpanghiaaDoorRStW
namespace Go.Proofs.YtkckobhpanghiaaDoor
open Go.RowKit

theorem InfQ.tight {l : List UInt8} {M q t : Nat} {o : List UInt8} {r : List UInt8 × Nat × Nat} (h : InfQ l 0 (q : Int) r) (hr : Run l M (.blk false) 0 [] (.good t o)) (hq : q < o.length) (hM : q ≤ M) (hM2 : M ≤ 65536) : r = ([], 0, 2) := by
  rcases h with ⟨h, _⟩ | ⟨A, Q, hA, hQ, _, _, h⟩
  · omega
  · obtain rfl : A = 0 := by omega
    obtain rfl : q = Q := by omega
    rw [List.drop_zero] at h
    rcases h with ⟨n, hn, hrun, rfl⟩ | ⟨t', o', hrun, _, ho, _⟩
    · by_cases h2 : n = 2
      · rw [h2]
      · cases (limit_run hM hrun (fun e => h2 (by cases e; rfl))).det trivial _ hr
    · cases (limit_run hM hrun (fun e => by cases e)).det trivial _ hr
      omega
theorem InfQ.neg {l : List UInt8} {a m : Int} {r : List UInt8 × Nat × Nat} (h : InfQ l a m r) (hm : m < 0) : r = ([], 0, 1) := by
  rcases h with ⟨_, h⟩ | ⟨A, Q, _, hQ, _⟩
  · exact h
  · omega
theorem string_back (s : ByteArray) : (⟨s.data.toList.toArray⟩ : ByteArray) = s := by cases s; rfl
/-- one reading of a text that tells s, with its length and one less -/
theorem tells_read {X s : ByteArray} (h : Tells X.data.toList s.data.toList) {r : List UInt8 × Nat × Nat} (hs : s.size ≤ 65536) (hq : InfQ X.data.toList 0 (s.size : Int) r) : r = (s.data.toList, X.size, 0) := by
  obtain ⟨t, ht, hrun⟩ := h
  have hsl : s.data.toList.length = s.size := Array.length_toList
  have hxl : X.data.toList.length = X.size := Array.length_toList
  have h1 := InfQ.run (A := 0) (M := s.size) hq (Nat.zero_le _) hs (by rw [List.drop_zero]; exact hrun _ (by rw [hsl]; exact Nat.le_refl _))
  rw [ht, hxl] at h1
  exact h1
theorem tells_short {X s : ByteArray} (h : Tells X.data.toList s.data.toList) {r : List UInt8 × Nat × Nat} (hs : s.size ≤ 65536) {q : Nat} (hq1 : s.size = q + 1) (hq : InfQ X.data.toList 0 (q : Int) r) : r = ([], 0, 2) := by
  obtain ⟨t, ht, hrun⟩ := h
  have hsl : s.data.toList.length = s.size := Array.length_toList
  exact hq.tight (M := s.size) (hrun _ (by rw [hsl]; exact Nat.le_refl _)) (by rw [hsl]; omega) (by omega) hs
/-- the row of both texts -/
def TwoS (w : World) (g : Nat) (a b : ByteArray) : Prop := w.heap[g]? = some (.cells #[.string a, .string b] 9 (0, 0))
set_option maxHeartbeats 4000000 in
set_option maxRecDepth 100000 in
theorem writes_walk (s : ByteArray) (w : World) (hG : GOk w) :
    Calls Tryd.prog 4 #[.string s] w fun e w' => e = .returned (.bool true) ∧ Below w.heap.size w w' := by
  have HG := hidM hG
  clear hG
  go_enter Tryd.func4, Tryd.ntmps4
  go_wp2_with fail
  refine (fewS_any s 3000 w).mono ?_
  rintro _ w0 ⟨⟨S, rfl, hS, _⟩, h0⟩
  rw [h0]
  clear h0 w0
  have HLEN : Hid (S.data.toList.length = S.size) := Array.length_toList
  go_wp2_with fail
  refine (stored_any S w (by omega)).mono ?_
  rintro _ w1 ⟨rfl, hb1⟩
  have HB1 := hidM hb1
  clear hb1
  have HTY : Hid (Tells (⟨(storedB 1 S.data.toList).toArray⟩ : ByteArray).data.toList S.data.toList) := tells_stored _ (by rw [HLEN.out]; omega)
  have HYZ : Hid ((⟨(storedB 1 S.data.toList).toArray⟩ : ByteArray).size = 5 + S.size) := by
    show (storedB 1 S.data.toList).toArray.size = _
    rw [List.size_toArray, storedB_len, HLEN.out]
  have HRS := hidM (fun V => rstored_any S V (by omega))
  generalize (⟨(storedB 1 S.data.toList).toArray⟩ : ByteArray) = Y at *
  go_wp2_with fail
  refine (deflate_any S w1 (by omega)).mono ?_
  rintro _ w2 ⟨⟨Z, rfl, hTZ, hZs⟩, hb2⟩
  have HTZ := hidM hTZ
  have HB2 : Hid (Below w.heap.size w w2) := HB1.out.trans (hb2.mono HB1.out.size)
  have HG2 := hidM (HG.out.below HB2.out)
  have hzy : ¬ (Y.size : Int) < (Z.size : Int) := by have := HYZ.out; omega
  have hzb : decide (Y.size < Z.size) = false := decide_eq_false (by have := HYZ.out; omega)
  have hyl : Y.size ≤ 3005 := by have := HYZ.out; omega
  have hzl : Z.size ≤ 3005 := by omega
  clear hTZ hb2 HB1
  go_wp2_with fail
  refine (awake_any w2 HG2.out).mono ?_
  rintro _ w3 ⟨rfl, hb3⟩
  have HB3 : Hid (Below w.heap.size w w3) := HB2.out.trans (hb3.mono HB2.out.size)
  clear hb3 HB2 HG2
  go_wp2_with fail
  refine (HRS.out w3).mono ?_
  rintro _ w4 ⟨rfl, hb4⟩
  have HB4 : Hid (Below w.heap.size w w4) := HB3.out.trans (hb4.mono HB3.out.size)
  clear hb4 HB3 HRS
  have HTS : Hid (TwoS (w4.alloc (.cells #[.string Y, .string Z] 9)) w4.heap.size Y Z) := heap_alloc_new w4 _
  have HB5 : Hid (Below w.heap.size w (w4.alloc (.cells #[.string Y, .string Z] 9))) := HB4.out.alloc HB4.out.size _
  go_wp2
  go_loopw [38] (fun iv wr => ∃ i : Nat, i ≤ 2 ∧ iv = .int .i64 (i : Int) ∧ TwoS wr w4.heap.size Y Z ∧ Below w.heap.size w wr) (fun i _ => 2 - (intOf i).toNat)
  case atStart => exact ⟨0, by decide, rfl, HTS.out, HB5.out⟩
  case round =>
    obtain ⟨i, hi, rfl, hts, hbl⟩ := hrel
    have HT := hidM hts
    have HBL := hidM hbl
    have HGR := hidM (HG.out.below hbl)
    clear hts hbl HTS HB5
    by_cases hlt : i < 2
    · have k1 : (i : Int) < 2 := by omega
      obtain ⟨X, hX, hTX, hXl⟩ : ∃ X : ByteArray, wr.cell? ⟨w4.heap.size, i, none⟩ = some (.string X) ∧ Tells X.data.toList S.data.toList ∧ X.size ≤ 3005 := by
        by_cases h0 : i = 0
        · subst h0
          exact ⟨Y, by rw [cell_of_row wr _ _ _ 9 (0, 0) HT.out]; rfl, HTY.out, hyl⟩
        · obtain rfl : i = 1 := by omega
          exact ⟨Z, by rw [cell_of_row wr _ _ _ 9 (0, 0) HT.out]; rfl, HTZ.out, hzl⟩
      have HTX := hidM hTX
      clear hTX
      go_wp2_with fail
      refine (inflate_any X 0 (S.size : Int) wr (by omega) HGR.out.1 HGR.out.2).mono ?_
      rintro _ w6 ⟨⟨r, hq, rfl⟩, hb6⟩
      have h1 := tells_read HTX.out (by omega) hq
      subst h1
      have HB6 : Hid (Below wr.heap.size wr w6) := hb6
      have HG6 := hidM (HGR.out.below hb6)
      clear hq hb6
      simp only [string_back]
      have HNX : Hid (∀ w7, Below w6.heap.size w6 w7 → TwoS w7 w4.heap.size Y Z ∧ Below w.heap.size w w7) := fun w7 h7 => by
        have h8 : Below wr.heap.size wr w7 := HB6.out.trans (h7.mono HB6.out.size)
        exact ⟨(h8.block _ (Array.getElem?_eq_some_iff.1 HT.out).1).trans HT.out, HBL.out.trans (h8.mono HBL.out.size)⟩
      clear HT HBL HGR HB6
      by_cases hS0 : S.size = 0
      · have z1 : (S.size : Int) - 1 = -1 := by omega
        have z2 : ((S.size : Int) == 0) = true := beq_iff_eq.2 (by omega)
        have z3 : ¬ (0 : Int) < (S.size : Int) := by omega
        go_wp2_with fail
        refine (inflate_any X 0 (-1) w6 (by omega) HG6.out.1 HG6.out.2).mono ?_
        rintro _ w7 ⟨⟨r, hq, rfl⟩, hb7⟩
        have h1 := hq.neg (by decide)
        subst h1
        have HN := hidM (HNX.out w7 hb7)
        clear hq hb7 HNX
        go_wp2
        go_roundw
        case rel => exact ⟨i + 1, by omega, by go_num, HN.out.1, HN.out.2⟩
        case measure => (show 2 - ((i : Int) + 1).toNat < 2 - ((i : Int)).toNat); omega
      · obtain ⟨q, hq1⟩ : ∃ q, S.size = q + 1 := ⟨S.size - 1, by omega⟩
        have HQ1 := hidM hq1
        have z1 : (S.size : Int) - 1 = (q : Int) := by omega
        have z2 : ((S.size : Int) == 0) = false := beq_false_of_ne (by omega)
        have z3 : (0 : Int) < (S.size : Int) := by omega
        clear hq1
        go_wp2_with fail
        refine (inflate_any X 0 (q : Int) w6 (by omega) HG6.out.1 HG6.out.2).mono ?_
        rintro _ w7 ⟨⟨r, hq, rfl⟩, hb7⟩
        have h1 := tells_short HTX.out (by omega) HQ1.out hq
        subst h1
        have HN := hidM (HNX.out w7 hb7)
        clear hq hb7 HNX
        go_wp2
        go_roundw
        case rel => exact ⟨i + 1, by omega, by go_num, HN.out.1, HN.out.2⟩
        case measure => (show 2 - ((i : Int) + 1).toNat < 2 - ((i : Int)).toNat); omega
    · obtain rfl : i = 2 := by omega
      go_wp2
      go_ret
      exact ⟨rfl, HBL.out⟩
end Go.Proofs.YtkckobhpanghiaaDoor
