/-
  The law PseudoReads, walked.
-/
import Derived.Test.YtmhjdahmmdfbcaaGreatDoorJPsU
import Derived.Test.YtmhjdahmmdfbcaaGreatDoorJPsJ
namespace Go.Proofs.YtmhjdahmmdfbcaaGreatDoor
open Go.RowKit

theorem rpparse_any (s : ByteArray) (w : World) (hs : s.size ≤ 9223372036854775807) :
    Calls Tryz.prog 12 #[.string s] w fun x w' => x = .returned (told4 (told s)) ∧ Below w.heap.size w w' := by
  cases hv : parseR s with
  | none => exact rpparse_none s w hs hv
  | some v => exact rpparse_some s w hs v hv

set_option maxHeartbeats 4000000 in
set_option maxRecDepth 100000 in
theorem preads_walk (s : ByteArray) (w : World) (hG : GT w) (hs : s.size ≤ 140737488355328) :
    Calls Tryz.prog 4 #[.string s] w fun e w' => e = .returned (.bool true) ∧ Below w.heap.size w w' := by
  have HP := hidM (pparse_any s w hG (by omega))
  unfold toldR at HP
  have HQ := hidM (fun V => rpparse_any s V (by omega))
  unfold told4 at HQ
  have HAW := hidM (fun V (h : GT V) => pawake_any V h)
  have HIS := hidM (fun V (h : GT V) => is_any s V h (by omega))
  have HG0 := hidM hG
  clear hG
  generalize (told s).base = b at *
  generalize (told s).time = n at *
  generalize (told s).rev = r at *
  generalize (told s).err = e at *
  go_enter Tryz.func4, Tryz.ntmps4
  go_wp2_with fail
  refine HP.out.mono ?_
  rintro _ w1 ⟨rfl, hb1⟩
  have HB1 := hidM hb1
  have HG1 := hidM (HG0.out.below hb1)
  have HA := hidM (heap_alloc_new w1 (.cells #[.string ⟨#[]⟩, .int .i64 0, .string ⟨#[]⟩] 29))
  have HAB : Hid (Below w1.heap.size w1 ((w1.alloc (.cells #[.string ⟨#[]⟩, .int .i64 0, .string ⟨#[]⟩] 29)).setRow w1.heap.size #[.string b, .int .i64 n, .string r])) := below_setRow ((Below.refl _ _).alloc (Nat.le_refl _) _) (Nat.le_refl _)
  have HX2 : Hid (((w1.alloc (.cells #[.string ⟨#[]⟩, .int .i64 0, .string ⟨#[]⟩] 29)).setRow w1.heap.size #[.string b, .int .i64 n, .string r]).heap[w1.heap.size]? = some (.cells #[.string b, .int .i64 n, .string r] 29 (0, 0))) := setRow_heap _ _ _ _ 29 _ HA.out
  have HB2 := hidM (HB1.out.trans (HAB.out.mono HB1.out.size))
  have HG2 := hidM (HG1.out.below HAB.out)
  clear hb1 HP HG0
  go_wp2_with (refine wpList_store_row rfl 29 (.tmp 3) (.tmp 12) rfl w1.heap.size #[.string b, .int .i64 n, .string r] rfl rfl 29 #[.string ⟨#[]⟩, .int .i64 0, .string ⟨#[]⟩] HA.out size29 rfl (ones29 _ _ _) ?_)
  clear HA HAB
  generalize (w1.alloc (.cells #[.string ⟨#[]⟩, .int .i64 0, .string ⟨#[]⟩] 29)).setRow w1.heap.size #[.string b, .int .i64 n, .string r] = W at *
  generalize w1.heap.size = B at *
  refine (HQ.out _).mono ?_
  rintro _ w2 ⟨rfl, hb2⟩
  have HX3 := hidM (box_kept HX2.out hb2)
  have HB3 := hidM (HB2.out.trans (hb2.mono HB2.out.size))
  have HG3 := hidM (HG2.out.below hb2)
  clear hb2 HX2 HB2 HG2 HQ
  go_wp2_with fail
  refine (HAW.out _ HG3.out).mono ?_
  rintro _ w3 ⟨rfl, hb3⟩
  have HX4 := hidM (box_kept HX3.out hb3)
  have HB4 := hidM (HB3.out.trans (hb3.mono HB3.out.size))
  have HG4 := hidM (HG3.out.below hb3)
  clear hb3 HX3 HB3 HG3 HAW
  have c0 : w3.cell? ⟨B, 0, none⟩ = some (.string b) := by rw [cell_of_row _ _ _ _ 29 (0, 0) HX4.out]; rfl
  have c1 : w3.cell? ⟨B, 1, none⟩ = some (.int .i64 n) := by rw [cell_of_row _ _ _ _ 29 (0, 0) HX4.out]; rfl
  have c2 : w3.cell? ⟨B, 2, none⟩ = some (.string r) := by rw [cell_of_row _ _ _ _ 29 (0, 0) HX4.out]; rfl
  go_wp2_with fail
  refine (HIS.out _ HG4.out).mono ?_
  rintro _ w4 ⟨rfl, hb4⟩
  have HB5 := hidM (HB4.out.trans (hb4.mono HB4.out.size))
  go_wp2
  go_ret
  exact ⟨by first | rfl | simp, HB5.out⟩
end Go.Proofs.YtmhjdahmmdfbcaaGreatDoor
