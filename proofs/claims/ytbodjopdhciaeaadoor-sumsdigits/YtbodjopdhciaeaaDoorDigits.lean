/-
  SumsDigits, the walk: the law returns true where the table lies.
-/
import Derived.Test.YtbodjopdhciaeaaDoorWalkJ
namespace Go.Proofs.YtbodjopdhciaeaaDoor
open Go.RowKit

theorem back_same (t : ByteArray) : (⟨(unhexL (hexL t.data.toList)).toArray⟩ : ByteArray) = t := by
  rw [unhex_hex]
theorem id_hexed (l : List UInt8) : idB l = (hexed l && decide (l.length = 40)) := by
  unfold idB hexed
  by_cases h : l.length = 40
  · simp [h]
  · simp [h]

set_option maxRecDepth 100000 in
set_option maxHeartbeats 3200000 in
theorem digits_walk (t0 s0 : ByteArray) (w : World) (ht : Tab w) :
    Calls Tryd.prog 5 #[.string t0, .string s0] w fun e w' => e = .returned (.bool true) ∧ Below w.heap.size w w' := by
  have HT := hidM ht
  clear ht
  go_enter Tryd.func5, Tryd.ntmps5
  go_wp2_with fail
  refine (few_any t0 300 w).mono ?_
  rintro e w0 ⟨⟨t, rfl, h1, _⟩, rfl⟩
  go_wp2_with fail
  refine (few_any s0 600 w0).mono ?_
  rintro e w ⟨⟨s, rfl, h2, _⟩, rfl⟩
  have HX : Hid (hexed (hexL t.data.toList) = true) := hexed_hex _
  have HS : Hid ((⟨(hexL t.data.toList).toArray⟩ : ByteArray).size ≤ 600) := by
    unfold Hid; show (hexL t.data.toList).toArray.size ≤ 600; simp [hexL_len]; omega
  have HBK := hidM (back_same t)
  have HID := hidM (id_hexed s.data.toList)
  go_wp2_with fail
  refine (hex_any t w (by omega)).mono ?_
  rintro e w1 ⟨rfl, hb1⟩
  have HB1 := hidM hb1
  clear hb1
  go_wp2_with fail
  refine (unhex_yes ⟨(hexL t.data.toList).toArray⟩ w1 (by have := HS.out; omega) HX.out).mono ?_
  rintro e w2 ⟨rfl, hb2⟩
  rw [List.toList_toArray, HBK.out]
  have HB2 : Hid (Below w.heap.size w w2) := HB1.out.trans (hb2.mono HB1.out.size)
  clear hb2
  generalize hH : (⟨(hexL t.data.toList).toArray⟩ : ByteArray) = H at *
  have HH := hidM hH
  clear hH
  cases hx : hexed s.data.toList
  · have HXS := hidM hx
    have HI : Hid (idB s.data.toList = false) := by unfold Hid; rw [HID.out, hx]; rfl
    clear hx
    go_wp2_with fail
    refine (unhex_no s w2 (by omega) HXS.out).mono ?_
    rintro e w3 ⟨rfl, hb3⟩
    have HB3 : Hid (Below w.heap.size w w3) := HB2.out.trans (hb3.mono HB2.out.size)
    clear hb3
    go_wp2_with fail
    refine (awake_any w3 (HT.out.below HB3.out)).mono ?_
    rintro e w4 ⟨rfl, hb4⟩
    have HB4 : Hid (Below w.heap.size w w4) := HB3.out.trans (hb4.mono HB3.out.size)
    clear hb4
    go_wp2_with fail
    refine (rhex_any t w4 (by omega)).mono ?_
    rintro e w5 ⟨rfl, hb5⟩
    rw [HH.out]
    have HB5 : Hid (Below w.heap.size w w5) := HB4.out.trans (hb5.mono HB4.out.size)
    clear hb5
    go_wp2_with fail
    refine (base64_any t w5 (by omega)).mono ?_
    rintro e w6 ⟨rfl, hb6⟩
    have HB6 : Hid (Below w.heap.size w w6) := HB5.out.trans (hb6.mono HB5.out.size)
    clear hb6
    go_wp2_with fail
    refine (rbase64_any t w6 (by omega)).mono ?_
    rintro e w7 ⟨rfl, hb7⟩
    have HB7 : Hid (Below w.heap.size w w7) := HB6.out.trans (hb7.mono HB6.out.size)
    clear hb7
    generalize (⟨(b64 t.data.toList).toArray⟩ : ByteArray) = B at *
    go_wp2_with fail
    refine (id_any s w7 (by unfold maxLen; omega)).mono ?_
    rintro e w8 ⟨rfl, rfl⟩
    rw [HI.out]
    go_wp2_with fail
    refine (hexed_any s w8 (by unfold maxLen; omega)).mono ?_
    rintro e w9 ⟨rfl, rfl⟩
    rw [HXS.out]
    go_wp2_with fail
    refine (hexed_any s w9 (by unfold maxLen; omega)).mono ?_
    rintro e w10 ⟨rfl, rfl⟩
    rw [HXS.out]
    go_wp2
    go_ret
    exact ⟨rfl, HB7.out⟩
  · have HXS := hidM hx
    have HI : Hid (idB s.data.toList = decide (s.size = 40)) := by unfold Hid; rw [HID.out, hx, len_size]; simp
    clear hx
    have h40 : (((s.size : Int) == 40) = true ∧ idB s.data.toList = true) ∨ (((s.size : Int) == 40) = false ∧ idB s.data.toList = false) := by
      by_cases h : s.size = 40
      · left; exact ⟨by simp; omega, by rw [HI.out]; simp [h]⟩
      · right; exact ⟨by simp; omega, by rw [HI.out]; simp [h]⟩
    rcases h40 with ⟨e40, hid⟩ | ⟨e40, hid⟩
    all_goals
      have HID2 := hidM hid
      clear hid
      go_wp2_with fail
      refine (unhex_yes s w2 (by omega) HXS.out).mono ?_
      rintro e w3 ⟨rfl, hb3⟩
      have HB3 : Hid (Below w.heap.size w w3) := HB2.out.trans (hb3.mono HB2.out.size)
      clear hb3
      generalize hY : (⟨(unhexL s.data.toList).toArray⟩ : ByteArray) = Y at *
      have HY := hidM hY
      clear hY
      go_wp2_with fail
      refine (awake_any w3 (HT.out.below HB3.out)).mono ?_
      rintro e w4 ⟨rfl, hb4⟩
      have HB4 : Hid (Below w.heap.size w w4) := HB3.out.trans (hb4.mono HB3.out.size)
      clear hb4
      go_wp2_with fail
      refine (rhex_any t w4 (by omega)).mono ?_
      rintro e w5 ⟨rfl, hb5⟩
      rw [HH.out]
      have HB5 : Hid (Below w.heap.size w w5) := HB4.out.trans (hb5.mono HB4.out.size)
      clear hb5
      go_wp2_with fail
      refine (base64_any t w5 (by omega)).mono ?_
      rintro e w6 ⟨rfl, hb6⟩
      have HB6 : Hid (Below w.heap.size w w6) := HB5.out.trans (hb6.mono HB5.out.size)
      clear hb6
      go_wp2_with fail
      refine (rbase64_any t w6 (by omega)).mono ?_
      rintro e w7 ⟨rfl, hb7⟩
      have HB7 : Hid (Below w.heap.size w w7) := HB6.out.trans (hb7.mono HB6.out.size)
      clear hb7
      generalize (⟨(b64 t.data.toList).toArray⟩ : ByteArray) = B at *
      go_wp2_with fail
      refine (id_any s w7 (by unfold maxLen; omega)).mono ?_
      rintro e w8 ⟨rfl, rfl⟩
      rw [HID2.out]
      go_wp2_with fail
      refine (hexed_any s w8 (by unfold maxLen; omega)).mono ?_
      rintro e w9 ⟨rfl, rfl⟩
      rw [HXS.out]
      go_wp2_with fail
      refine (hexed_any s w9 (by unfold maxLen; omega)).mono ?_
      rintro e w10 ⟨rfl, rfl⟩
      rw [HXS.out]
      go_wp2_with fail
      refine (runhex_any s w10 (by omega) HXS.out).mono ?_
      rintro e w11 ⟨rfl, hb11⟩
      rw [HY.out]
      have HB11 : Hid (Below w.heap.size w w11) := HB7.out.trans (hb11.mono HB7.out.size)
      clear hb11
      go_wp2
      go_ret
      exact ⟨rfl, HB11.out⟩
end Go.Proofs.YtbodjopdhciaeaaDoor
