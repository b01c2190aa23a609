/-
  The document's Unix of any row of seven numbers.
-/
import Derived.Test.YtnibcnafbmcdbaaDoorRunY
import Derived.Test.YtnibcnafbmcdbaaDoorRunB1
import Derived.Test.YtnibcnafbmcdbaaDoorRunB2
import Derived.Test.YtnibcnafbmcdbaaDoorRunB3
namespace Go.Proofs.YtnibcnafbmcdbaaDoor
open Go.RowKit

theorem runix_no (g : Nat) (y m d h mi s k : Int) (w : World) (hx : w.heap[g]? = some (.cells #[.int .i64 y, .int .i64 m, .int .i64 d, .int .i64 h, .int .i64 mi, .int .i64 s, .int .i64 k] 3)) (hn : (dayB y m d && timeB h mi s) = false) :
    Calls Tryd.prog 17 #[.slice (some ⟨g, 0, none⟩) 7 7] w fun x w' => x = .returned (.tuple #[.int .i64 0, .bool false]) ∧ Below w.heap.size w w' := by
  by_cases b1 : y < 1
  · exact runix_no1 g y m d h mi s k w hx (decide_eq_true b1)
  have b1 := decide_eq_false b1
  by_cases b2 : 9999 < y
  · exact runix_no2 g y m d h mi s k w hx b1 (decide_eq_true b2)
  have b2 := decide_eq_false b2
  by_cases b3 : d < 1
  · exact runix_no3 g y m d h mi s k w hx b1 b2 (decide_eq_true b3)
  have b3 := decide_eq_false b3
  by_cases b4 : (daysI y m : Int) < d
  · exact runix_no4 g y m d h mi s k w hx b1 b2 b3 (decide_eq_true b4)
  have b4 := decide_eq_false b4
  by_cases b5 : h < 0
  · exact runix_no5 g y m d h mi s k w hx b1 b2 b3 b4 (decide_eq_true b5)
  have b5 := decide_eq_false b5
  by_cases b6 : 23 < h
  · exact runix_no6 g y m d h mi s k w hx b1 b2 b3 b4 b5 (decide_eq_true b6)
  have b6 := decide_eq_false b6
  by_cases b7 : mi < 0
  · exact runix_no7 g y m d h mi s k w hx b1 b2 b3 b4 b5 b6 (decide_eq_true b7)
  have b7 := decide_eq_false b7
  by_cases b8 : 59 < mi
  · exact runix_no8 g y m d h mi s k w hx b1 b2 b3 b4 b5 b6 b7 (decide_eq_true b8)
  have b8 := decide_eq_false b8
  by_cases b9 : s < 0
  · exact runix_no9 g y m d h mi s k w hx b1 b2 b3 b4 b5 b6 b7 b8 (decide_eq_true b9)
  have b9 := decide_eq_false b9
  by_cases b10 : 59 < s
  · exact runix_no10 g y m d h mi s k w hx b1 b2 b3 b4 b5 b6 b7 b8 b9 (decide_eq_true b10)
  exfalso
  simp only [decide_eq_false_iff_not] at b1 b2 b3 b4 b5 b6 b7 b8 b9
  have e1 : dayB y m d = true := decide_eq_true ⟨by omega, by omega, by omega, by omega⟩
  have e2 : timeB h mi s = true := by
    unfold timeB
    rw [decide_eq_true ⟨by omega, by omega⟩, decide_eq_true ⟨by omega, by omega⟩, decide_eq_true ⟨by omega, by omega⟩]
    rfl
  rw [e1, e2] at hn
  exact absurd hn (by decide)
/-- the second of a date, and whether it is one: what both Unix say -/
def unixV (n e : Int) (ok : Bool) : Prop := (ok = true ∧ e = 0) ∨ (ok = false ∧ e = 1 ∧ n = 0)
theorem unix_both (y m d h mi s k : Int) : ∃ n e ok, unixV n e ok ∧
    (∀ w, GT w → Calls Tryd.prog 12 #[.agg #[.int .i64 y, .int .i64 m, .int .i64 d, .int .i64 h, .int .i64 mi, .int .i64 s, .int .i64 k]] w fun x w' => x = .returned (.tuple #[.int .i64 n, .int .i64 e]) ∧ Below w.heap.size w w') ∧
    ∀ w g, w.heap[g]? = some (.cells #[.int .i64 y, .int .i64 m, .int .i64 d, .int .i64 h, .int .i64 mi, .int .i64 s, .int .i64 k] 3) → Calls Tryd.prog 17 #[.slice (some ⟨g, 0, none⟩) 7 7] w fun x w' => x = .returned (.tuple #[.int .i64 n, .bool ok]) ∧ Below w.heap.size w w' := by
  cases hn : dayB y m d && timeB h mi s with
  | false => exact ⟨0, 1, false, .inr ⟨rfl, rfl, rfl⟩, fun w hG => unix_no y m d h mi s k w hG hn, fun w g hx => runix_no g y m d h mi s k w hx hn⟩
  | true =>
    rw [Bool.and_eq_true] at hn
    obtain ⟨h1, h2⟩ := hn
    have hd := of_decide_eq_true h1
    unfold timeB at h2
    simp only [Bool.and_eq_true, decide_eq_true_eq] at h2
    obtain ⟨⟨⟨t1, t2⟩, t3, t4⟩, t5, t6⟩ := h2
    obtain ⟨d1, d2, d3, d4⟩ := hd
    have hm : 1 ≤ m ∧ m ≤ 12 := by
      refine Classical.byContradiction fun hc => ?_
      unfold daysI at d4
      rw [if_neg hc] at d4
      omega
    obtain ⟨Y, rfl⟩ : ∃ Y : Nat, y = (Y : Int) := ⟨y.toNat, by omega⟩
    obtain ⟨M, rfl⟩ : ∃ M : Nat, m = (M : Int) := ⟨m.toNat, by omega⟩
    obtain ⟨Dd, rfl⟩ : ∃ Dd : Nat, d = (Dd : Int) := ⟨d.toNat, by omega⟩
    obtain ⟨Hh, rfl⟩ : ∃ Hh : Nat, h = (Hh : Int) := ⟨h.toNat, by omega⟩
    obtain ⟨Mi, rfl⟩ : ∃ Mi : Nat, mi = (Mi : Int) := ⟨mi.toNat, by omega⟩
    obtain ⟨S, rfl⟩ : ∃ S : Nat, s = (S : Int) := ⟨s.toNat, by omega⟩
    rw [days_cast] at d4
    have hday : IsDay (dN Y M Dd) Y M Dd := ⟨by omega, by omega, by omega, by omega, by omega, by omega, rfl⟩
    exact ⟨_, 0, true, .inl ⟨rfl, rfl⟩, fun w hG => unix_yes (dN Y M Dd) Y M Dd Hh Mi S k w hG hday (by omega) (by omega) (by omega), fun w g hx => runix_yes g (dN Y M Dd) Y M Dd Hh Mi S k w hx hday (by omega) (by omega) (by omega)⟩
end Go.Proofs.YtnibcnafbmcdbaaDoor
