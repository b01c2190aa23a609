/-
  The document's Compare of any two texts; the law SemverOrders, walked.
-/
import Derived.Test.YtdbkmcjdkiljaaaDoorRefI
namespace Go.Proofs.YtdbkmcjdkiljaaaDoor
open Go.RowKit

theorem rcompare_any (a b : ByteArray) (w : World) (ha : a.size ≤ 9223372036854775807) (hb : b.size ≤ 9223372036854775807) :
    Calls Tryd.prog 17 #[.string a, .string b] w fun e w' => e = .returned (.int .i64 (cmpS a b)) ∧ Below w.heap.size w w' := by
  cases h1 : parseR a with
  | none => exact rcompare_not a b w ha hb (Or.inl h1)
  | some x =>
    cases h2 : parseR b with
    | none => exact rcompare_not a b w ha hb (Or.inr h2)
    | some y => exact rcompare_both a b x y w ha hb h1 h2
set_option maxHeartbeats 2000000 in
set_option maxRecDepth 100000 in
theorem orders_walk (a b : ByteArray) (w : World) (ha : a.size ≤ 140737488355328) (hb : b.size ≤ 140737488355328) :
    Calls Tryd.prog 4 #[.string a, .string b] w fun e w' => e = .returned (.bool true) ∧ Below w.heap.size w w' := by
  have H1 := hidM (rcompare_any a b w (by omega) (by omega))
  have H2 := hidM (fun V => compare_any a b V (by omega) (by omega))
  have H3 := hidM (fun V => max_any a b V (by omega) (by omega))
  have HAW := hidM (fun V => awake_any V)
  have hr := ord_text.rng a b
  have HM : Hid (maxS a b = if cmpS a b < 0 then b else a) := by unfold Hid maxS; split <;> rfl
  generalize cmpS a b = c at *
  rcases hr with rfl | rfl | rfl
  · have e : maxS a b = b := HM.out
    rw [e] at H3
    clear e HM
    go_enter Tryd.func4, Tryd.ntmps4
    go_wp2_with fail
    refine H1.out.mono ?_
    rintro _ w1 ⟨rfl, hb1⟩
    have HB1 := hidM hb1
    clear hb1
    go_wp2_with fail
    refine (HAW.out _).mono ?_
    rintro _ w2 ⟨rfl, hb2⟩
    have HB2 := hidM (HB1.out.trans (hb2.mono HB1.out.size))
    clear hb2
    go_wp2_with fail
    refine (H2.out _).mono ?_
    rintro _ w3 ⟨rfl, hb3⟩
    have HB3 := hidM (HB2.out.trans (hb3.mono HB2.out.size))
    clear hb3
    go_wp2_with fail
    refine (H3.out _).mono ?_
    rintro _ w4 ⟨rfl, hb4⟩
    have HB4 := hidM (HB3.out.trans (hb4.mono HB3.out.size))
    clear hb4
    go_wp2
    go_ret
    exact ⟨rfl, HB4.out⟩
  all_goals
    have e : maxS a b = a := HM.out
    rw [e] at H3
    clear e HM
    go_enter Tryd.func4, Tryd.ntmps4
    go_wp2_with fail
    refine H1.out.mono ?_
    rintro _ w1 ⟨rfl, hb1⟩
    have HB1 := hidM hb1
    clear hb1
    go_wp2_with fail
    refine (HAW.out _).mono ?_
    rintro _ w2 ⟨rfl, hb2⟩
    have HB2 := hidM (HB1.out.trans (hb2.mono HB1.out.size))
    clear hb2
    go_wp2_with fail
    refine (H2.out _).mono ?_
    rintro _ w3 ⟨rfl, hb3⟩
    have HB3 := hidM (HB2.out.trans (hb3.mono HB2.out.size))
    clear hb3
    go_wp2_with fail
    refine (H3.out _).mono ?_
    rintro _ w4 ⟨rfl, hb4⟩
    have HB4 := hidM (HB3.out.trans (hb4.mono HB3.out.size))
    clear hb4
    go_wp2
    go_ret
    exact ⟨rfl, HB4.out⟩
end Go.Proofs.YtdbkmcjdkiljaaaDoor
