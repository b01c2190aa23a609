/-
  Walks of pseudo: Is, below a base.
-/
import Derived.Test.YtmhjdahmmdfbcaaGreatDoorPsG
namespace Go.Proofs.YtmhjdahmmdfbcaaGreatDoor
open Go.RowKit

set_option maxHeartbeats 2000000 in
set_option maxRecDepth 100000 in
theorem is_any (s : ByteArray) (w : World) (hG : GT w) (hs : s.size ≤ 9223372036854775807) :
    Calls Tryz.prog 13 #[.string s] w fun x w' => x = .returned (.bool ((told s).err == 0)) ∧ Below w.heap.size w w' := by
  have HP := hidM (pparse_any s w hG hs)
  unfold toldR at HP
  generalize (told s).base = b at *
  generalize (told s).time = n at *
  generalize (told s).rev = r at *
  generalize (told s).err = e at *
  go_enter Tryz.func13, Tryz.ntmps13
  go_wp2_with fail
  refine HP.out.mono ?_
  rintro _ w1 ⟨rfl, hb1⟩
  have HA := hidM (heap_alloc_new w1 (.cells #[.string ⟨#[]⟩, .int .i64 0, .string ⟨#[]⟩] 29))
  have HB : Hid (Below w.heap.size w ((w1.alloc (.cells #[.string ⟨#[]⟩, .int .i64 0, .string ⟨#[]⟩] 29)).setRow w1.heap.size #[.string b, .int .i64 n, .string r])) := below_setRow (hb1.alloc hb1.size _) hb1.size
  clear hb1
  go_wp2_with (refine wpList_store_row rfl 29 (.tmp 3) (.tmp 8) rfl w1.heap.size #[.string b, .int .i64 n, .string r] rfl rfl 29 #[.string ⟨#[]⟩, .int .i64 0, .string ⟨#[]⟩] HA.out size29 rfl (ones29 _ _ _) ?_)
  go_ret
  exact ⟨rfl, HB.out⟩

set_option maxHeartbeats 2000000 in
set_option maxRecDepth 100000 in
theorem below_base (major base : ByteArray) (w : World) (hs : base.size ≤ 9223372036854775807) (hb : base.toList.isEmpty = false) :
    Calls Tryz.prog 26 #[.string major, .string base] w fun x w' => x = .returned (.tuple #[verA ((parseR base).getD noVer), .bool (parseR base).isSome]) ∧ Below w.heap.size w w' := by
  have HP := hidM (fun V => parse_any base V hs)
  have HX0 := hidM (heap_alloc_new w (.cells #[.string ⟨#[]⟩, .string ⟨#[]⟩, .string ⟨#[]⟩, .string ⟨#[]⟩, .string ⟨#[]⟩, .int .i64 0] 43))
  have HB0 : Hid (Below w.heap.size w (w.alloc (.cells #[.string ⟨#[]⟩, .string ⟨#[]⟩, .string ⟨#[]⟩, .string ⟨#[]⟩, .string ⟨#[]⟩, .int .i64 0] 43))) := (Below.refl _ w).alloc (Nat.le_refl _) _
  unfold verA
  generalize (parseR base).isSome = ok at *
  generalize ((parseR base).getD noVer).major = a at *
  generalize ((parseR base).getD noVer).minor = b at *
  generalize ((parseR base).getD noVer).patch = c at *
  generalize ((parseR base).getD noVer).pre = d at *
  generalize ((parseR base).getD noVer).build = e at *
  generalize (((parseR base).getD noVer).short : Int) = n at *
  go_enter Tryz.func26, Tryz.ntmps26
  go_wp2_with fail
  refine (HP.out _).mono ?_
  rintro _ w1 ⟨rfl, hb1⟩
  have HX1 := hidM (box_kept HX0.out hb1)
  have HB1 := hidM (HB0.out.trans (hb1.mono HB0.out.size))
  clear hb1 HX0 HB0 HP
  go_wp2_with (refine wpList_store_row rfl 43 (.tmp 4) (.tmp 12) rfl w.heap.size #[.string a, .string b, .string c, .string d, .string e, .int .i64 n] rfl rfl 43 #[.string ⟨#[]⟩, .string ⟨#[]⟩, .string ⟨#[]⟩, .string ⟨#[]⟩, .string ⟨#[]⟩, .int .i64 0] HX1.out size23 rfl (ones23v _ _ _ _ _ _) ?_)
  exact bodyPost_ret (results_box rfl _ _ w.heap.size #[.string a, .string b, .string c, .string d, .string e, .int .i64 n] rfl (run_loadVar_row _ w.heap.size 43 43 _ (0, 0) _ (setRow_heap _ _ _ _ 43 _ HX1.out) Tryz.underlying43 rfl size23)) rfl ⟨rfl, below_setRow HB1.out (Nat.le_refl _)⟩
end Go.Proofs.YtmhjdahmmdfbcaaGreatDoor
