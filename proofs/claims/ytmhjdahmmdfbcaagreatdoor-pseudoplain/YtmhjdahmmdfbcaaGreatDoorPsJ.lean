/-
  Walks of the law of pseudo: awake.
-/
import Derived.Test.YtmhjdahmmdfbcaaGreatDoorPsI
namespace Go.Proofs.YtmhjdahmmdfbcaaGreatDoor
open Go.RowKit

def pA : ByteArray := ⟨#[118, 50, 46, 48, 46, 57, 43, 105, 110, 99, 111, 109, 112, 97, 116, 105, 98, 108, 101]⟩
def pM : ByteArray := ⟨#[118, 50, 46, 48, 46, 49, 48, 45, 48, 46, 50, 48, 48, 54, 48, 49, 48, 50, 49, 53, 48, 52, 48, 53, 45, 97, 98, 99, 100, 101, 102, 97, 98, 99, 100, 101, 102, 43, 105, 110, 99, 111, 109, 112, 97, 116, 105, 98, 108, 101]⟩
def pI : ByteArray := ⟨#[97, 98, 99, 100, 101, 102, 97, 98, 99, 100, 101, 102]⟩
def pS : ByteArray := ⟨#[50, 48, 48, 54, 48, 49, 48, 50, 49, 53, 48, 52, 48, 53]⟩
def p3 : ByteArray := ⟨#[118, 49, 46, 50, 46, 51]⟩
theorem pw_make : makeR pA pS pI 0 = (pM, 0) := by decide +kernel
theorem pw_told : told pM = ⟨pA, 1136214245, pI, 0⟩ := by decide +kernel
theorem pw_is : ((told p3).err == 0) = false := by decide +kernel
theorem pw_stamp : StpQ 1136214245 pS 0 := fun V hV => by
  have h := stamp_yes 63271811045 2006 1 2 15 4 5 V hV st_date
  rw [st_text] at h
  exact h
set_option maxHeartbeats 2000000 in
set_option maxRecDepth 100000 in
theorem pawake_any (w : World) (hG : GT w) : Calls Tryz.prog 10 #[] w fun x w' => x = .returned (.bool true) ∧ Below w.heap.size w w' := by
  have HM := hidM (make_base ⟨#[]⟩ pA 1136214245 pI pS 0 w hG (by decide) (by decide +kernel) pw_stamp (by decide))
  rw [pw_make] at HM
  have HP := hidM (fun V hV => pparse_any pM V hV (by decide))
  rw [pw_told] at HP
  unfold toldR at HP
  have HI := hidM (fun V hV => is_any p3 V hV (by decide))
  rw [pw_is] at HI
  have HG := hidM hG
  clear hG
  unfold pA pI pM at HM HP
  unfold p3 at HI
  go_enter Tryz.func10, Tryz.ntmps10
  go_wp2_with fail
  refine HM.out.mono ?_
  rintro _ w1 ⟨rfl, hb1⟩
  have HB1 := hidM hb1
  have HG1 := hidM (HG.out.below hb1)
  clear hb1 HM
  go_wp2_with fail
  refine (HP.out _ HG1.out).mono ?_
  rintro _ w2 ⟨rfl, hb2⟩
  have HB2 := hidM (HB1.out.trans (hb2.mono HB1.out.size))
  have HG2 := hidM (HG1.out.below hb2)
  clear hb2 HP
  have HA := hidM (heap_alloc_new w2 (.cells #[.string ⟨#[]⟩, .int .i64 0, .string ⟨#[]⟩] 29))
  have HAB : Hid (Below w2.heap.size w2 ((w2.alloc (.cells #[.string ⟨#[]⟩, .int .i64 0, .string ⟨#[]⟩] 29)).setRow w2.heap.size #[.string ⟨#[118, 50, 46, 48, 46, 57, 43, 105, 110, 99, 111, 109, 112, 97, 116, 105, 98, 108, 101]⟩, .int .i64 1136214245, .string ⟨#[97, 98, 99, 100, 101, 102, 97, 98, 99, 100, 101, 102]⟩])) := below_setRow ((Below.refl _ _).alloc (Nat.le_refl _) _) (Nat.le_refl _)
  have HQ : Hid (((w2.alloc (.cells #[.string ⟨#[]⟩, .int .i64 0, .string ⟨#[]⟩] 29)).setRow w2.heap.size #[.string ⟨#[118, 50, 46, 48, 46, 57, 43, 105, 110, 99, 111, 109, 112, 97, 116, 105, 98, 108, 101]⟩, .int .i64 1136214245, .string ⟨#[97, 98, 99, 100, 101, 102, 97, 98, 99, 100, 101, 102]⟩]).heap[w2.heap.size]? = some (.cells #[.string ⟨#[118, 50, 46, 48, 46, 57, 43, 105, 110, 99, 111, 109, 112, 97, 116, 105, 98, 108, 101]⟩, .int .i64 1136214245, .string ⟨#[97, 98, 99, 100, 101, 102, 97, 98, 99, 100, 101, 102]⟩] 29 (0, 0))) := setRow_heap _ _ _ _ 29 _ HA.out
  have c0 : ((w2.alloc (.cells #[.string ⟨#[]⟩, .int .i64 0, .string ⟨#[]⟩] 29)).setRow w2.heap.size #[.string ⟨#[118, 50, 46, 48, 46, 57, 43, 105, 110, 99, 111, 109, 112, 97, 116, 105, 98, 108, 101]⟩, .int .i64 1136214245, .string ⟨#[97, 98, 99, 100, 101, 102, 97, 98, 99, 100, 101, 102]⟩]).cell? ⟨w2.heap.size, 0, none⟩ = some (.string ⟨#[118, 50, 46, 48, 46, 57, 43, 105, 110, 99, 111, 109, 112, 97, 116, 105, 98, 108, 101]⟩) := by rw [cell_of_row _ _ _ _ 29 (0, 0) HQ.out]; rfl
  have c1 : ((w2.alloc (.cells #[.string ⟨#[]⟩, .int .i64 0, .string ⟨#[]⟩] 29)).setRow w2.heap.size #[.string ⟨#[118, 50, 46, 48, 46, 57, 43, 105, 110, 99, 111, 109, 112, 97, 116, 105, 98, 108, 101]⟩, .int .i64 1136214245, .string ⟨#[97, 98, 99, 100, 101, 102, 97, 98, 99, 100, 101, 102]⟩]).cell? ⟨w2.heap.size, 1, none⟩ = some (.int .i64 1136214245) := by rw [cell_of_row _ _ _ _ 29 (0, 0) HQ.out]; rfl
  have HB3 := hidM (HB2.out.trans (HAB.out.mono HB2.out.size))
  have HG3 := hidM (HG2.out.below HAB.out)
  go_wp2_with (refine wpList_store_row rfl 29 (.tmp 3) (.tmp 12) rfl w2.heap.size #[.string ⟨#[118, 50, 46, 48, 46, 57, 43, 105, 110, 99, 111, 109, 112, 97, 116, 105, 98, 108, 101]⟩, .int .i64 1136214245, .string ⟨#[97, 98, 99, 100, 101, 102, 97, 98, 99, 100, 101, 102]⟩] rfl rfl 29 #[.string ⟨#[]⟩, .int .i64 0, .string ⟨#[]⟩] HA.out size29 rfl (ones29 _ _ _) ?_)
  refine (HI.out _ HG3.out).mono ?_
  rintro _ w4 ⟨rfl, hb4⟩
  have HB4 := hidM (HB3.out.trans (hb4.mono HB3.out.size))
  clear hb4
  go_wp2
  go_ret
  exact ⟨rfl, HB4.out⟩
end Go.Proofs.YtmhjdahmmdfbcaaGreatDoor
