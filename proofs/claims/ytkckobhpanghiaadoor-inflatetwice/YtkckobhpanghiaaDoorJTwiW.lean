/-
  The document's frame around a stream; a frame one bit of whose sum is turned is refused; the law ZlibWrites, walked.
  The law InflateTwice, walked.
-/
import Derived.Test.YtkckobhpanghiaaDoorRSum
import Derived.Test.YtkckobhpanghiaaDoorJFrmA
import Derived.Laws.BitsAllLaws
import Derived.Laws.IdiomStrings
import Derived.Test.YtkckobhpanghiaaDoorDefT
namespace Go.Proofs.YtkckobhpanghiaaDoor
open Go.RowKit
/-- the row of []byte(s) -/
theorem row_string (w : World) (s : ByteArray) (hs : s.size ≤ 1000000000) :
    ∃ cap W, (convert 9 34 (.string s)).run Tryd.prog w = .ok (.slice (some ⟨w.heap.size, 0, none⟩) s.size cap) W ∧ s.size ≤ cap ∧ cap ≤ maxLen ∧
      (∀ j (hj : j < s.data.toList.length), W.cell? ⟨w.heap.size, j, none⟩ = some (.int .u8 (s.data.toList[j].toNat : Int))) ∧ (∀ j, j < s.size → W.frozen? ⟨w.heap.size, j, none⟩ = false) ∧ Below w.heap.size w W := by
  have h := run_bytes_of_string (P := Tryd.prog) w 9 34 5 s Tryd.underlying9 Tryd.underlying34 Tryd.underlying5
  have hge := grownCap_ge w s.size 0 5
  have hcm := grownCap_le_maxLen w s.size 0 5 (by unfold maxLen; omega)
  have hsz : (bytesRow s (grownCap w s.size 0 5)).size = grownCap w s.size 0 5 := by unfold bytesRow; simp; omega
  refine ⟨_,_, h, hge, hcm, fun j hj => ?_, fun j hj => ?_, ((Below.refl _ _).drew).alloc (by simp) _⟩
  · rw [cell_of_row _ w.heap.size j _ 5 _ (heap_alloc_new w.drew _)]
    have h2 := bytesV_at s.data.toList j hj
    have ht : (bytesRow s (grownCap w s.size 0 5)).toList.take s.data.toList.length = bytesV s.data.toList := by
      unfold bytesRow
      rw [Array.toList_append, List.take_append_of_le_length (by simp), List.take_of_length_le (by simp)]
      simp [bytesV]
    rw [← ht, List.getElem?_take, if_pos hj] at h2
    simpa using h2
  · unfold World.frozen?
    have hh := heap_alloc_new w.drew (.cells (bytesRow s (grownCap w s.size 0 5)) 5 ((bytesRow s (grownCap w s.size 0 5)).size, (bytesRow s (grownCap w s.size 0 5)).size + 1))
    rw [show w.drew.heap.size = w.heap.size from rfl] at hh
    simp only [hh]
    simp only [hsz]
    have : ¬ grownCap w s.size 0 5 ≤ j := by omega
    simp [this]
end Go.Proofs.YtkckobhpanghiaaDoor
namespace Go.Proofs.YtkckobhpanghiaaDoor.Twi
open Go.RowKit Go.Maps

theorem twice_run {a b Z : List UInt8} {most : Nat} (h : Tells Z b) (ha : a.length < 65536) (hm : a.length + b.length ≤ most) :
    ∃ t, (t + 7) / 8 = 5 + a.length + Z.length ∧ Run (storedB 0 a ++ Z) most (.blk false) 0 [] (.good t (a ++ b)) := by
  obtain ⟨t, h1, h2⟩ := h
  have h3 := shift_run (X := storedB 0 a) (a := a) (h2 (most - a.length) (by omega)) t b rfl
  rw [storedB_len, List.append_nil, show a.length + (most - a.length) = most by omega, Nat.zero_add] at h3
  refine ⟨t + 8 * (5 + a.length), by omega, ?_⟩
  refine .st 0 [] 0 _ _ _ (stored_head 0 (by decide) a Z) (by decide) (stored_ok 0 a Z [] most ha (by simp; omega)) ?_
  exact h3
set_option maxHeartbeats 4000000 in
set_option maxRecDepth 100000 in
theorem twice_walk (a0 b0 : ByteArray) (w : World) (hG : GOk w) :
    Calls Tryd.prog 8 #[.string a0, .string b0] w fun e w' => e = .returned (.bool true) ∧ Below w.heap.size w w' := by
  have HG := hidM hG
  clear hG
  go_enter Tryd.func8, Tryd.ntmps8
  go_wp2_with fail
  refine (fewS_any a0 500 w).mono ?_
  rintro _ wv ⟨⟨a, rfl, hA, _⟩, hwv⟩
  rw [hwv]
  clear hwv wv
  go_wp2_with fail
  refine (fewS_any b0 500 w).mono ?_
  rintro _ wv ⟨⟨b, rfl, hB, _⟩, hwv⟩
  rw [hwv]
  clear hwv wv
  have HLA : Hid (a.data.toList.length = a.size) := Array.length_toList
  have HLB : Hid (b.data.toList.length = b.size) := Array.length_toList
  go_wp2_with fail
  refine (stored_any a w (by omega)).mono ?_
  rintro _ w1 ⟨rfl, hb1⟩
  have HB1 := hidM hb1
  clear hb1
  generalize hY : (⟨(storedB 1 a.data.toList).toArray⟩ : ByteArray) = Y at *
  have HY : Hid (Y.data.toList = storedB 1 a.data.toList) := by unfold Hid; rw [← hY]
  have hys : Y.size = 5 + a.size := by
    have : Y.data.toList.length = Y.size := Array.length_toList
    rw [← this, HY.out, storedB_len, HLA.out]
  clear hY
  obtain ⟨cap, w2, hcv, hcap, hcm, hcell, hfz, hb2⟩ := row_string w1 Y (by omega)
  have HYL : Hid (Y.data.toList.length = Y.size) := Array.length_toList
  have hpl : 0 < Y.data.toList.length := by rw [HYL.out]; omega
  have hc1 := hcell 0 hpl
  have hf1 := hfz 0 (by omega)
  have hn5 : ¬ (Y.size : Int) < 5 := by omega
  have h0 : (0 : Int) < (Y.size : Int) := by omega
  obtain ⟨U, hU⟩ : ∃ U : ByteArray, U = ⟨(storedB 0 a.data.toList).toArray⟩ := ⟨_, rfl⟩
  have HU : Hid (U.data.toList = storedB 0 a.data.toList) := by unfold Hid; rw [hU]
  have hus : U.size = Y.size := by
    have h1 : U.data.toList.length = U.size := Array.length_toList
    rw [← h1, HU.out, hys, storedB_len, HLA.out]
  have HCV : Hid (∀ V : World, Below (w2.setCell ⟨w1.heap.size, 0, none⟩ (.int .u8 0)).heap.size (w2.setCell ⟨w1.heap.size, 0, none⟩ (.int .u8 0)) V →
      (convert 34 9 (.slice (some ⟨w1.heap.size, 0, none⟩) Y.size cap)).run Tryd.prog V = .ok (.string U) V) := fun V hb => by
    have hlt : w1.heap.size < (w2.setCell ⟨w1.heap.size, 0, none⟩ (.int .u8 0)).heap.size := by
      have := World.block_lt_of_cell? w2 _ hc1
      simpa using this
    have h := run_convert_bytes_back (P := Tryd.prog) V 34 9 5 ⟨w1.heap.size, 0, none⟩ cap (storedB 0 a.data.toList) Tryd.underlying34 Tryd.underlying5 Tryd.underlying9 (fun j hj => by
      have hj' : j < Y.data.toList.length := by rw [HYL.out, hys]; rw [storedB_len, HLA.out] at hj; exact hj
      have ha : (⟨w1.heap.size, 0, none⟩ : Addr).add j = ⟨w1.heap.size, j, none⟩ := by rw [Addr.add_lit, Nat.zero_add]
      rw [ha, hb.cell hlt]
      have hsj : (storedB 0 a.data.toList)[j]'hj = (Y.data.toList.set 0 0)[j]'(by simpa using hj') := by
        congr 1
        rw [HY.out]; rfl
      rw [hsj]
      by_cases hjp : 0 = j
      · subst hjp
        rw [World.cell?_setCell_same _ _ _ hc1, List.getElem_set_self]; rfl
      · rw [World.cell?_setCell_other _ _ _ _ (by intro h; cases h; exact hjp rfl), hcell j hj', List.getElem_set_ne hjp])
    rw [storedB_len, HLA.out, ← hys, ← hU] at h
    exact h
  have HB3 : Hid (Below w.heap.size w (w2.setCell ⟨w1.heap.size, 0, none⟩ (.int .u8 0))) := (HB1.out.trans (hb2.mono HB1.out.size)).setCell HB1.out.size _
  have HYS := hidM hys
  clear hcell hfz hb2 hU hys
  have HDEF := hidM (fun V => deflate_any b V (by omega))
  have HINF : Hid (∀ (V : World) (Z : ByteArray), GOk V → Tells Z.data.toList b.data.toList → Z.size ≤ 5 + b.size → Calls Tryd.prog 15 #[.string (U ++ Z), .int .i64 0, .int .i64 1000] V fun e w' => e = .returned (.tuple #[.string (a ++ b), .int .i64 ((Y.size + Z.size : Nat) : Int), .int .i64 0]) ∧ Below V.heap.size V w') := fun V Z hV hT hz => by
    have hz1 : Z.data.toList.length = Z.size := Array.length_toList
    refine (inflate_any (U ++ Z) 0 1000 V (by rw [ByteArray.size_append, hus, HYS.out]; omega) hV.1 hV.2).mono ?_
    rintro _ w' ⟨⟨r, hq, rfl⟩, hb⟩
    obtain ⟨t, ht, hrun⟩ := twice_run (a := a.data.toList) hT (by rw [HLA.out]; omega) (most := 1000) (by rw [HLA.out, HLB.out]; omega)
    have h1 := InfQ.run (A := 0) (M := 1000) hq (by omega) (by decide) (by rw [List.drop_zero, str_add, HU.out]; exact hrun)
    rw [ht, hz1, HLA.out, ← HYS.out] at h1
    subst h1
    refine ⟨?_, hb⟩
    have e : (⟨(a.data.toList ++ b.data.toList).toArray⟩ : ByteArray) = a ++ b := bytes_ext (by rw [str_add])
    simp only [e]
    rfl
  have n3 : U.size ≤ 600 := by rw [hus, HYS.out]; omega
  have n4 : Y.size ≤ 600 := by rw [HYS.out]; omega
  clear hus
  go_wp2_with fail
  generalize w2.setCell ⟨w1.heap.size, 0, none⟩ (.int .u8 0) = w3 at *
  have HG3 : Hid (∀ V, Below w3.heap.size w3 V → GOk V) := fun V h => HG.out.below (HB3.out.trans (h.mono HB3.out.size))
  have hc0 : (convert 34 9 (.slice (some ⟨w1.heap.size, 0, none⟩) Y.size cap)).run Tryd.prog w3 = .ok (.string U) w3 := HCV.out _ (Below.refl _ _)
  have hc1' : (convert 34 9 (.slice (some ⟨w1.heap.size, 0, none⟩) Y.size cap)).run Tryd.prog w3.drew = .ok (.string U) w3.drew := HCV.out _ ((Below.refl _ _).drew)
  have H19 : Hid (∀ V, Below w3.heap.size w3 V → Calls Tryd.prog 19 #[.string b] V fun e w' => ∃ Z : ByteArray, e = .returned (.string Z) ∧ Hid (Tells Z.data.toList b.data.toList ∧ Z.size = defN b) ∧ Z.size ≤ 600 ∧ Hid (Below w3.heap.size w3 w')) := fun V h => by
    refine (HDEF.out V).mono ?_
    rintro _ w' ⟨⟨Z, rfl, h1, h2, h3⟩, hb⟩
    exact ⟨Z, rfl, ⟨h1, h3⟩, by omega, h.trans (hb.mono h.size)⟩
  have H15 : Hid (∀ V (Z : ByteArray), Hid (Tells Z.data.toList b.data.toList ∧ Z.size = defN b) → Z.size ≤ 600 → Hid (Below w3.heap.size w3 V) → Calls Tryd.prog 15 #[.string (U ++ Z), .int .i64 0, .int .i64 1000] V fun e w' => e = .returned (.tuple #[.string (a ++ b), .int .i64 ((Y.size + defN b : Nat) : Int), .int .i64 0]) ∧ Hid (Below w3.heap.size w3 w')) := fun V Z h1 h2 h => by
    have h600 : Z.size ≤ 5 + b.size := by
      rw [h1.out.2]
      unfold defN
      split <;> omega
    refine (HINF.out V Z (HG3.out V h.out) h1.out.1 h600).mono ?_
    rintro _ w' ⟨rfl, hb⟩
    rw [h1.out.2]
    exact ⟨rfl, h.out.trans (hb.mono h.out.size)⟩
  clear HINF hc1 hf1 HG h0 hpl
  go_region_with
    (first
      | (go_at_call 19; with_reducible refine (H19.out _ (by repeat (first | exact Below.refl _ _ | apply Below.drew | apply below_drewN))).mono ?_; rintro e w6 ⟨Z, rfl, HTZ, hz6, HK6⟩; have hc6 := HCV.out w6 HK6.out)
      | (go_at_call 15; with_reducible refine (H15.out _ _ HTZ hz6 (by repeat (first | exact HK6 | apply Below.drew | apply below_drewN))).mono ?_; rintro e w7 ⟨rfl, HK7⟩))
  all_goals
    have HB7 : Hid (Below w.heap.size w w7) := HB3.out.trans (HK7.out.mono HB3.out.size)
    have HG7 := hidM (HG3.out w7 HK7.out)
    have HGX : Hid (∀ V, Below w3.heap.size w3 V → GOk V) := HG3
    clear HK7 HCV hc0 hc1' hcv HY HYL H15 HU
    first | clear hc6 | skip
    go_wp2_with fail
    refine (awake_any w7 HG7.out).mono ?_
    rintro _ w8 ⟨rfl, hb8⟩
    have HB8 := hidM (HB7.out.trans (hb8.mono HB7.out.size))
    clear hb8 HB7 HG7
    have b1 : ((a ++ b : ByteArray).toList == (a ++ b : ByteArray).toList) = true := by simp
    have nab : ¬ (9223372036854775807 : Nat) < a.size + b.size := by omega
    go_wp2_with fail
    refine (HDEF.out _).mono ?_
    rintro _ w9 ⟨⟨Z2, rfl, _, hz2, hzn⟩, hb9⟩
    have HB9 : Hid (Below w.heap.size w w9) := by
      first
        | exact HB8.out.trans (hb9.mono HB8.out.size)
        | exact (below_drewN HB8.out _).trans (hb9.mono HB8.out.size)
        | exact (HB8.out.drew).trans (hb9.mono HB8.out.size)
    have hz3 : Z2.size ≤ 600 := by omega
    have b2 : ((Y.size : Int) + (defN b : Int) == (Y.size : Int) + (Z2.size : Int)) = true := by rw [hzn]; simp
    clear hzn hb9 HB8
    go_wp2
    go_ret
    exact ⟨rfl, HB9.out⟩
end Go.Proofs.YtkckobhpanghiaaDoor.Twi
