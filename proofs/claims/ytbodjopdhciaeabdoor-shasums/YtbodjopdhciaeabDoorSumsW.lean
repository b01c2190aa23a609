/-
  ShaSums: the published sums: the walk.
-/
import Derived.Test.YtbodjopdhciaeabDoorAsks
import Derived.Test.YtbodjopdhciaeabDoorRefH
namespace Go.Proofs.YtbodjopdhciaeabDoor
open Go.RowKit

set_option maxRecDepth 100000 in
set_option maxHeartbeats 3200000 in
theorem sums_walk (t : ByteArray) (w : World) (hT : Tab2 w) :
    Calls Tryd.prog 3 #[.string t] w fun e w' => e = .returned (.bool true) ∧ Below w.heap.size w w' := by
  have HT := hidM hT
  have HT1 : Hid (1 < w.heap.size) := hT.1
  clear hT
  go_enter Tryd.func3, Tryd.ntmps3
  go_wp2_with fail
  refine (few_any t 500 _).mono ?_
  rintro _ w0 ⟨⟨u, rfl, hu, _⟩, rfl⟩
  have HOA := hidM (fun v => once1_any u v (by omega))
  have HOB := hidM (fun v h => once2_any u v (by omega) h)
  have HRA := hidM (fun v => rsum1_any u v (by omega))
  have HRB := hidM (fun gk ck v h => rsum2_any u gk ck v (by omega) h)
  generalize (⟨(sha1L u.data.toList).toArray⟩ : ByteArray) = S1 at *
  generalize (⟨(sha2L u.data.toList).toArray⟩ : ByteArray) = S2 at *
  go_wp2_with fail
  refine (awake_any _ HT.out).mono ?_
  rintro _ w1 ⟨rfl, hb1⟩
  have HB1 := hidM hb1
  clear hb1
  go_wp2_with fail
  refine (HOA.out _).mono ?_
  rintro _ w2 ⟨rfl, hb2⟩
  have HB2 := hidM (HB1.out.trans (hb2.mono HB1.out.size))
  clear hb2 HB1
  go_wp2_with fail
  refine (HRA.out _).mono ?_
  rintro _ w3 ⟨rfl, hb3⟩
  have HB3 := hidM (HB2.out.trans (hb3.mono HB2.out.size))
  clear hb3 HB2
  go_wp2_with fail
  refine (HOB.out _ (HT.out.below HB3.out HT1.out)).mono ?_
  rintro _ w4 ⟨rfl, hb4⟩
  have HB4 := hidM (HB3.out.trans (hb4.mono HB3.out.size))
  clear hb4 HB3
  go_wp2_with fail
  refine (table_any _).mono ?_
  rintro _ w5 ⟨⟨v, rfl, ho⟩, hb5⟩
  have HB5 := hidM (HB4.out.trans (hb5.mono HB4.out.size))
  obtain ⟨gk, ck, rfl⟩ := ownW_form ho (by decide)
  have HKC : Hid (∀ i, i < 64 → w5.cell? ⟨gk, i, none⟩ = some (.int .u32 (kL2.getD i 0 : Nat))) := fun i hi => ho.at i hi
  rw [show kL2.length = 64 from rfl]
  clear hb5 HB4 ho
  go_wp2_with fail
  refine (HRB.out gk ck _ HKC.out).mono ?_
  rintro _ w6 ⟨rfl, hb6⟩
  have HB6 := hidM (HB5.out.trans (hb6.mono HB5.out.size))
  clear hb6 HB5
  go_wp2
  go_ret
  exact ⟨rfl, HB6.out⟩
end Go.Proofs.YtbodjopdhciaeabDoor
