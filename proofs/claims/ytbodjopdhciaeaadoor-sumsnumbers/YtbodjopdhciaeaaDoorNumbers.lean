/-
  SumsNumbers, the walk: the law returns true where the table lies.
-/
import Derived.Test.YtbodjopdhciaeaaDoorSums
namespace Go.Proofs.YtbodjopdhciaeaaDoor
open Go.RowKit

theorem take8_self (s : ByteArray) (h : s.size ≤ 8) : s.data.toList.take 8 = s.data.toList := List.take_of_length_le (by simp; omega)
theorem last8 (s : ByteArray) (h : 8 < s.size) : numB (s.extract (s.size - 8) s.size).data.toList = numB s.data.toList := by
  rw [ext_back]
  have := numB_last s.data.toList (by simp; omega)
  rw [show s.data.toList.length = s.size by simp] at this
  exact this

set_option maxHeartbeats 1600000 in
theorem numbers_walk (x : Nat) (n : Int) (s : ByteArray) (w : World) (hx : x < M64) (hs : s.size ≤ maxLen) (ht : Tab w) :
    Calls Tryd.prog 6 #[.int .u64 x, .int .i64 n, .string s] w fun e w' => e = .returned (.bool true) ∧ Below w.heap.size w w' := by
  have HT := hidM ht
  have HS := hidM hs
  unfold maxLen at hs
  clear ht
  have H8 : Hid (∀ h : 8 < s.size, numB (s.extract (s.size - 8) s.size).data.toList = numB s.data.toList) := last8 s
  have H9 : Hid (s.size ≤ 8 → s.data.toList.take 8 = s.data.toList) := take8_self s
  by_cases hn : 64 < n <;> by_cases h8 : 8 < s.size
  all_goals
    go_enter Tryd.func6, Tryd.ntmps6
    go_wp2_with fail
    refine (awake_any w HT.out).mono ?_
    rintro e w1 ⟨rfl, hb1⟩
    have HB1 := hidM hb1
    clear hb1
    go_wp2_with fail
    refine (big_int x _ w1 (by omega)).mono ?_
    rintro e w2 ⟨rfl, hb2⟩
    have HB2 : Hid (Below w.heap.size w w2) := HB1.out.trans (hb2.mono HB1.out.size)
    clear hb2
    go_wp2_with fail
    refine (rbig_int x _ w2 hx (by omega)).mono ?_
    rintro e w3 ⟨rfl, hb3⟩
    have HB3 : Hid (Below w.heap.size w w3) := HB2.out.trans (hb3.mono HB2.out.size)
    clear hb3
    go_wp2_with fail
    refine (little_int x _ w3 (by omega)).mono ?_
    rintro e w4 ⟨rfl, hb4⟩
    have HB4 : Hid (Below w.heap.size w w4) := HB3.out.trans (hb4.mono HB3.out.size)
    clear hb4
    go_wp2_with fail
    refine (rlittle_int x _ w4 hx (by omega)).mono ?_
    rintro e w5 ⟨rfl, hb5⟩
    have HB5 : Hid (Below w.heap.size w w5) := HB4.out.trans (hb5.mono HB4.out.size)
    clear hb5
    go_wp2_with fail
    refine (fromBig_any s w5 HS.out).mono ?_
    rintro e w6 ⟨rfl, rfl⟩
    go_wp2_with fail
    refine (number_any _ w6 (by first | exact HS.out | (unfold maxLen; simp; omega))).mono ?_
    rintro e w7 ⟨rfl, rfl⟩
    first | rw [H8.out h8] | skip
    generalize numB s.data.toList = y at *
    go_wp2_with fail
    refine (fromLittle_any s w7 HS.out).mono ?_
    rintro e w8 ⟨rfl, rfl⟩
    first | rw [H9.out (Nat.le_of_not_lt h8)] | skip
    go_wp2_with fail
    refine (turn_any _ w8 (by first | omega | (simp; omega))).mono ?_
    rintro e w9 ⟨rfl, hb9⟩
    have HB9 : Hid (Below w.heap.size w w9) := HB5.out.trans (hb9.mono HB5.out.size)
    clear hb9
    go_wp2_with fail
    refine (number_any _ w9 (by unfold maxLen; first | (show (List.reverse _).toArray.size ≤ _; simp; omega))).mono ?_
    rintro e w10 ⟨rfl, rfl⟩
    rw [List.toList_toArray]
    go_wp2
    go_ret
    exact ⟨rfl, HB9.out⟩
end Go.Proofs.YtbodjopdhciaeaaDoor
