/-
  The law CalendarSeconds, walked.
-/
import Derived.Test.YtdbkmcjdkiljaaaGreatDoorCalN
namespace Go.Proofs.YtdbkmcjdkiljaaaGreatDoor
open Go.RowKit
/-- the text of RFC 3339 out of the fourteen digits -/
theorem text_of_stamp (y m d h mi s : Nat) : textT y m d h mi s = (stampT y m d h mi s).extract 0 4 ++ ⟨#[45]⟩ ++ (stampT y m d h mi s).extract 4 6 ++ ⟨#[45]⟩ ++ (stampT y m d h mi s).extract 6 8 ++ ⟨#[84]⟩ ++ (stampT y m d h mi s).extract 8 10 ++ ⟨#[58]⟩ ++ (stampT y m d h mi s).extract 10 12 ++ ⟨#[58]⟩ ++ (stampT y m d h mi s).extract 12 14 ++ ⟨#[90]⟩ := by
  apply ByteArray.ext
  apply Array.toList_inj.1
  have hl := stamp_list y m d h mi s
  simp only [ByteArray.data_append, Array.toList_append, Lib.extract_data, hl]
  unfold textT allT dayT timeT b4 b2 stL d4 d2
  simp [ByteArray.data_append]
theorem two_stamp {y m d h mi s : Nat} (hy : y < 10000) (hm : m < 100) (hd : d < 100) (hh : h < 100) (hmi : mi < 100) (hs : s < 100) :
    dateV (stampT y m d h mi s) = .agg #[.int .i64 (y : Int), .int .i64 (m : Int), .int .i64 (d : Int), .int .i64 (h : Int), .int .i64 (mi : Int), .int .i64 (s : Int), .int .i64 0] := by
  unfold dateV two
  rw [stamp_list]
  unfold stL d4 d2
  have g (n : Nat) (h : n < 10) : (dig n).toNat - 48 = n := by rw [dig_nat n h]; omega
  simp only [List.cons_append, List.nil_append, List.getD_cons_zero, List.getD_cons_succ]
  rw [g (y / 1000) (by omega), g (y / 100 % 10) (by omega), g (y / 10 % 10) (by omega), g (y % 10) (by omega), g (m / 10) (by omega), g (m % 10) (by omega), g (d / 10) (by omega), g (d % 10) (by omega), g (h / 10) (by omega), g (h % 10) (by omega), g (mi / 10) (by omega), g (mi % 10) (by omega), g (s / 10) (by omega), g (s % 10) (by omega)]
  rw [show (y / 1000 * 10 + y / 100 % 10) * 100 + (y / 10 % 10 * 10 + y % 10) = y by omega, show m / 10 * 10 + m % 10 = m by omega, show d / 10 * 10 + d % 10 = d by omega, show h / 10 * 10 + h % 10 = h by omega, show mi / 10 * 10 + mi % 10 = mi by omega, show s / 10 * 10 + s % 10 = s by omega]
theorem stamp_size (y m d h mi s : Nat) : (stampT y m d h mi s).size = 14 := by
  have : (stampT y m d h mi s).data.toList.length = 14 := by rw [stamp_list]; rfl
  rw [Array.length_toList] at this
  exact this
theorem stamp_dig {T y m d h mi s : Nat} (H : IsDate T y m d h mi s) : digB (stampT y m d h mi s) = true := by
  obtain ⟨a1, a2, a3, a4, a5, a6⟩ := H.small
  unfold digB
  rw [stamp_list]
  exact decide_eq_true (st_dig a1 a2 a3 a4 a5 a6)
theorem unstamp_stamp (T y m d h mi s : Nat) (w : World) (hG : GT w) (H : IsDate T y m d h mi s) :
    Calls Tryz.prog 8 #[.string (stampT y m d h mi s)] w fun x w' => x = .returned (.tuple #[.int .i64 ((T : Int) - 62135596800), .int .i64 0]) ∧ Below w.heap.size w w' := by
  obtain ⟨a1, a2, a3, a4, a5, a6⟩ := H.small
  obtain ⟨c1, c2, c3, c4⟩ := clock (Nat.mod_lt T (by decide)) H.h2 H.mi2 H.s2
  refine unstamp_via _ w hG (stamp_size _ _ _ _ _ _) (stamp_dig H) _ _ fun V hV => ?_
  rw [two_stamp a1 a2 a3 a4 a5 a6]
  have := unix_yes (T / 86400) y m d h mi s 0 V hV H.day c2 c3 c4
  rw [show T / 86400 * 86400 + h * 3600 + mi * 60 + s = T by omega] at this
  exact this
theorem unix_date (T y m d h mi s : Nat) (k : Int) (w : World) (hG : GT w) (H : IsDate T y m d h mi s) :
    Calls Tryz.prog 25 #[.agg #[.int .i64 (y : Int), .int .i64 (m : Int), .int .i64 (d : Int), .int .i64 (h : Int), .int .i64 (mi : Int), .int .i64 (s : Int), .int .i64 k]] w fun x w' => x = .returned (.tuple #[.int .i64 ((T : Int) - 62135596800), .int .i64 0]) ∧ Below w.heap.size w w' := by
  obtain ⟨c1, c2, c3, c4⟩ := clock (Nat.mod_lt T (by decide)) H.h2 H.mi2 H.s2
  have := unix_yes (T / 86400) y m d h mi s k w hG H.day c2 c3 c4
  rw [show T / 86400 * 86400 + h * 3600 + mi * 60 + s = T by omega] at this
  exact this
end Go.Proofs.YtdbkmcjdkiljaaaGreatDoor
