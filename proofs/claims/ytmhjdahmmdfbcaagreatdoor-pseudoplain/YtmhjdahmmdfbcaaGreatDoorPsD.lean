/-
  The second of any fourteen bytes (Unstamp); a call's three answers, the second in a box.
-/
import Derived.Test.YtmhjdahmmdfbcaaGreatDoorPsC
import Derived.Test.YtmhjdahmmdfbcaaGreatDoorCalN
namespace Go.Proofs.YtmhjdahmmdfbcaaGreatDoor
open Go.RowKit

/-- the second of a date, and what is wrong with it -/
def unixF (y m d h mi s : Nat) : Int × Int := if dayB (y : Int) (m : Int) (d : Int) && timeB (h : Int) (mi : Int) (s : Int) then (((dN y m d * 86400 + h * 3600 + mi * 60 + s : Nat) : Int) - 62135596800, 0) else (0, 1)
theorem unix_any (y m d h mi s : Nat) (k : Int) (w : World) (hG : GT w) : Calls Tryz.prog 97 #[.agg #[.int .i64 (y : Int), .int .i64 (m : Int), .int .i64 (d : Int), .int .i64 (h : Int), .int .i64 (mi : Int), .int .i64 (s : Int), .int .i64 k]] w fun x w' => x = .returned (.tuple #[.int .i64 (unixF y m d h mi s).1, .int .i64 (unixF y m d h mi s).2]) ∧ Below w.heap.size w w' := by
  unfold unixF
  cases hn : dayB (y : Int) (m : Int) (d : Int) && timeB (h : Int) (mi : Int) (s : Int) with
  | false => exact unix_no y m d h mi s k w hG hn
  | true =>
    rw [Bool.and_eq_true] at hn
    obtain ⟨h1, h2⟩ := hn
    have hd := of_decide_eq_true h1
    unfold timeB at h2
    simp only [Bool.and_eq_true, decide_eq_true_eq] at h2
    obtain ⟨⟨⟨t1, t2⟩, t3, t4⟩, t5, t6⟩ := h2
    obtain ⟨d1, d2, d3, d4⟩ := hd
    have hm : 1 ≤ (m : Int) ∧ (m : Int) ≤ 12 := by
      refine Classical.byContradiction fun hc => ?_
      unfold daysI at d4
      rw [if_neg hc] at d4
      omega
    rw [days_cast] at d4
    have hday : IsDay (dN y m d) y m d := ⟨by omega, by omega, by omega, by omega, by omega, by omega, rfl⟩
    exact unix_yes (dN y m d) y m d h mi s k w hG hday (by omega) (by omega) (by omega)
def digQ (s : ByteArray) : Bool := s.data.toList.all fun c => decide (48 ≤ c.toNat) && decide (c.toNat ≤ 57)
theorem dig_q (s : ByteArray) : digB s = digQ s := by
  rw [Bool.eq_iff_iff]
  unfold digB digQ
  rw [decide_eq_true_iff, List.all_eq_true]
  refine forall_congr' fun c => forall_congr' fun _ => ?_
  unfold isDig
  simp
/-- what Unstamp answers -/
def uns (s : ByteArray) : Int × Int :=
  if s.size = 14 ∧ digQ s = true then unixF (two s 0 * 100 + two s 2) (two s 4) (two s 6) (two s 8) (two s 10) (two s 12) else (0, 3)
theorem unstamp_any (s : ByteArray) (w : World) (hG : GT w) : Calls Tryz.prog 65 #[.string s] w fun x w' => x = .returned (.tuple #[.int .i64 (uns s).1, .int .i64 (uns s).2]) ∧ Below w.heap.size w w' := by
  unfold uns
  rw [← dig_q]
  by_cases h : s.size = 14 ∧ digB s = true
  · rw [if_pos h]
    exact unstamp_via s w hG h.1 h.2 _ _ (fun V hV => unix_any _ _ _ _ _ _ 0 V hV)
  · rw [if_neg h]
    refine unstamp_bad s w ?_
    by_cases h1 : s.size = 14
    · exact Or.inr (by cases hd : digB s with | true => exact absurd ⟨h1, hd⟩ h | false => rfl)
    · exact Or.inl h1
theorem uns_one : uns ⟨#[50, 48, 48, 54, 48, 49, 48, 50, 49, 53, 48, 52, 48, 53]⟩ = (1136214245, 0) := by decide +kernel

theorem results_tct {fn : Func} {t p u : Tmp} {ty : TypeId} {P : Program} (h : fn.results = #[.tmp t, .cell p ty, .tmp u]) (tmps : Array Value) (w : World) (g : Nat) (cs : Array Value)
    (hp : tmps.getD p undef = .pointer (some ⟨g, 0, none⟩)) (hr : (loadVar ty ⟨g, 0, none⟩).run P w = .ok (.agg cs) w) :
    (results fn tmps).run P w = .ok (.tuple #[tmps.getD t undef, .agg cs, tmps.getD u undef]) w := by
  have hp' : tmps[p]?.getD undef = .pointer (some ⟨g, 0, none⟩) := by simpa using hp
  simp only [results, h]
  simp [hp', asAddr, hr, Result.andThen]
end Go.Proofs.YtmhjdahmmdfbcaaGreatDoor
