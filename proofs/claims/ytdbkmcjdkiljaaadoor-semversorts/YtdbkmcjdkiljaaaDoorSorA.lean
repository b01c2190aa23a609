/-
  Walks of semver: Max, and the closure that Sort compares with.
-/
import Derived.Test.YtdbkmcjdkiljaaaDoorSemG
namespace Go.Proofs.YtdbkmcjdkiljaaaDoor
open Go.RowKit

open Classical in
/-- the one that is behind -/
noncomputable def maxS (a b : ByteArray) : ByteArray := if cmpS a b < 0 then b else a
set_option maxRecDepth 100000 in
theorem max_any (a b : ByteArray) (w : World) (ha : a.size ≤ 9223372036854775807) (hb : b.size ≤ 9223372036854775807) :
    Calls Tryd.prog 19 #[.string a, .string b] w fun e w' => e = .returned (.string (maxS a b)) ∧ Below w.heap.size w w' := by
  have HC := hidM (compare_any a b w ha hb)
  have hr := ord_text.rng a b
  have HM : Hid (maxS a b = if cmpS a b < 0 then b else a) := by unfold Hid maxS; split <;> rfl
  generalize cmpS a b = c at *
  rcases hr with rfl | rfl | rfl
  all_goals
    go_enter Tryd.func19, Tryd.ntmps19
    go_wp2_with fail
    refine HC.out.mono ?_
    rintro _ w1 ⟨rfl, hb1⟩
    have HB1 := hidM hb1
    clear hb1
    go_wp2
    go_ret
    exact ⟨by rw [HM.out]; rfl, HB1.out⟩
/-- the order that Sort keeps: of versions, and of bytes where they are level -/
noncomputable def sorC (a b : ByteArray) : Int := if cmpS a b = 0 then Lib.compareBytes a.data.toList b.data.toList else cmpS a b
theorem ord_sort : Ord3 sorC := ord_text.lex ord_bytes
theorem sorC_zero {a b : ByteArray} (h : sorC a b = 0) : a = b := by
  unfold sorC at h
  split at h
  · exact bytes_ext ((cmp_zero _ _).1 h)
  · rename_i hn; exact absurd h hn
set_option maxHeartbeats 2000000 in
set_option maxRecDepth 100000 in
theorem sortCmp_any (a b : ByteArray) (w : World) (ha : a.size ≤ 9223372036854775807) (hb : b.size ≤ 9223372036854775807) :
    Calls Tryd.prog 43 #[.string a, .string b] w fun e w' => e = .returned (.int .i64 (sorC a b)) ∧ Below w.heap.size w w' := by
  have HC := hidM (compare_any a b w ha hb)
  have H2 := hidM (fun V => Tryd.strings_Compare a b V)
  have HM : Hid (sorC a b = orL [cmpS a b, Lib.compareBytes a.data.toList b.data.toList]) := by unfold Hid sorC; rw [orL_two]
  generalize cmpS a b = c at *
  generalize Lib.compareBytes a.data.toList b.data.toList = r at *
  have H3 := hidM (fun V : World => or_any V.heap.size [c, r] (V.alloc (.cells #[.int .i64 c, .int .i64 r] 3)) (by simp) (_root_.Go.heap_alloc_new _ _))
  go_enter Tryd.func43, Tryd.ntmps43
  go_wp2_with fail
  refine HC.out.mono ?_
  rintro _ w1 ⟨rfl, hb1⟩
  have HB1 := hidM hb1
  clear hb1
  go_wp2_with fail
  refine (H2.out _).mono ?_
  rintro _ _ ⟨rfl, rfl⟩
  go_wp2_with fail
  refine (H3.out _).mono ?_
  rintro _ _ ⟨rfl, rfl⟩
  go_wp2
  go_ret
  exact ⟨by rw [HM.out]; rfl, HB1.out.alloc HB1.out.size _⟩
end Go.Proofs.YtdbkmcjdkiljaaaDoor
