/-
  Taken over from another program: LwA.
-/
import Derived.Test.YtlmeoahcpmikiaaGreatDoorLoB
import Derived.Test.YtlmeoahcpmikiaaGreatDoorJTxtB
namespace Go.Proofs.YtlmeoahcpmikiaaGreatDoor
open Go.RowKit
theorem zero48 (w : World) : (zeroValue 31).run Tryz.prog w = .ok (.agg #[.string ⟨#[]⟩, .string ⟨#[]⟩]) w := by kernel_rfl
theorem size48 : (Tryz.prog.info? 31).map (·.size) = some 2 := by kernel_rfl
def filV (p x : ByteArray) (e : Nat) : Value := .tuple #[.agg #[.string p, .string x], .int .i64 (e : Nat)]
theorem onesFl (p x : ByteArray) : (#[.string p, .string x] : Array Value).all (·.oneCell') = true := by simp [Value.oneCell']
theorem hexes (l : List UInt8) : hexLT l = hexL l := by
  unfold hexLT hexL
  rfl
theorem idB_hex (l : List UInt8) (h : l.length = 20) : idB (hexL l) = true := by
  have h1 := hexed_hex l
  rw [hexes] at h1
  unfold hexed at h1
  simp only [Bool.and_eq_true] at h1
  unfold idB
  rw [h1.1, hexL_len, h]
  rfl
set_option maxHeartbeats 4000000 in
set_option maxRecDepth 100000 in
theorem lwrite_no (k : Int) (d : ByteArray) (w : World) (hG : LG w) (h : checkE k d.size ≠ 0) :
    Calls Tryz.prog 8 #[.agg #[.int .i64 k, .string d]] w fun e w' => e = .returned (filV ⟨#[]⟩ ⟨#[]⟩ (checkE k d.size)) ∧ Below w.heap.size w w' := by
  have HEN := hidM (fun V (hV : LG V) => encode_any k d V hV.2)
  generalize checkE k d.size = er at *
  have hz := zero48
  have HB0 : Hid (Below w.heap.size w ((w.alloc (.cells #[.int .i64 k, .string d] 29)).alloc (.cells #[.string ⟨#[]⟩, .string ⟨#[]⟩] 31))) := ((Below.refl _ w).alloc (Nat.le_refl _) _).alloc (by simp) _
  have HF0 : Hid (((w.alloc (.cells #[.int .i64 k, .string d] 29)).alloc (.cells #[.string ⟨#[]⟩, .string ⟨#[]⟩] 31)).heap[w.heap.size + 1]? = some (.cells #[.string ⟨#[]⟩, .string ⟨#[]⟩] 31 (0, 0))) := by
    have e := heap_alloc_new (w.alloc (.cells #[.int .i64 k, .string d] 29)) (.cells #[.string ⟨#[]⟩, .string ⟨#[]⟩] 31)
    rw [show (w.alloc (.cells #[.int .i64 k, .string d] 29)).heap.size = w.heap.size + 1 by simp] at e
    exact e
  have HG0 := hidM (hG.below HB0.out)
  clear hG
  go_enter Tryz.func8, Tryz.ntmps8
  go_wp2_with fail
  refine (HEN.out _ HG0.out).mono ?_
  rintro _ w1 ⟨rfl, hb1⟩
  have HF1 := hidM (box_keptL HF0.out hb1)
  have HB1 := hidM (HB0.out.trans (hb1.mono HB0.out.size))
  clear hb1 HF0 HB0 HG0 HEN
  have b1 : ((er : Int) == 0) = false := by simp only [beq_eq_false_iff_ne, ne_eq]; omega
  generalize (⟨(encT k d.data.toList).toArray⟩ : ByteArray) = T at *
  go_wp2_with (refine wpList_store_row rfl 31 (.tmp 2) (.tmp 15) rfl (w.heap.size + 1) #[.string ⟨#[]⟩, .string ⟨#[]⟩] rfl rfl 31 #[.string ⟨#[]⟩, .string ⟨#[]⟩] HF1.out size48 rfl (onesFl _ _) ?_)

  exact bodyPost_ret (results_box rfl _ _ (w.heap.size + 1) _ rfl (run_loadVar_row _ (w.heap.size + 1) 31 31 _ (0, 0) _ (setRow_heap _ _ _ _ 31 _ HF1.out) Tryz.underlying31 rfl size48)) rfl ⟨by unfold filV; rfl, below_setRowL HB1.out (by omega)⟩
set_option maxHeartbeats 8000000 in
set_option maxRecDepth 100000 in
theorem lwrite_yes (k : Int) (d : ByteArray) (w : World) (hG : LG w) (h : checkE k d.size = 0) :
    Calls Tryz.prog 8 #[.agg #[.int .i64 k, .string d]] w fun e w' => (∃ X : ByteArray, e = .returned (filV (pathB ⟨(hexL (sha1L (encL k d.data.toList))).toArray⟩) X 0) ∧ FrameOf X.data.toList (encL k d.data.toList) ∧ X.size ≤ 66000) ∧ Below w.heap.size w w' := by
  have hdl : d.data.toList.length = d.size := by simp
  have h65 := (checkE_zero.1 h).2
  have HEN := hidM (fun V (hV : LG V) => encode_any k d V hV.2)
  have HID := hidM (fun V (hV : LG V) => id_any k d V hV.2)
  have e1 : encT k d.data.toList = encL k d.data.toList := by unfold encT; rw [if_pos (by rw [hdl]; exact h)]
  have e2 : idT k d.data.toList = hexL (sha1L (encL k d.data.toList)) := by unfold idT; rw [if_pos (by rw [hdl]; exact h)]
  rw [e1, h] at HEN
  rw [e2, h] at HID
  have hlen := encL_len k d.data.toList (by omega)
  have hih := idB_hex (sha1L (encL k d.data.toList)) (sha1L_len _)
  obtain ⟨T, hT⟩ : ∃ T : ByteArray, T = ⟨(encL k d.data.toList).toArray⟩ := ⟨_, rfl⟩
  have HTL : Hid (T.data.toList = encL k d.data.toList) := by unfold Hid; rw [hT]
  have hts : T.size ≤ 65100 := by rw [← len_size, HTL.out]; exact hlen
  rw [← hT] at HEN
  obtain ⟨ID, hID⟩ : ∃ ID : ByteArray, ID = ⟨(hexL (sha1L (encL k d.data.toList))).toArray⟩ := ⟨_, rfl⟩
  have hid2 : ID.data.toList = hexL (sha1L (encL k d.data.toList)) := by rw [hID]
  rw [← hid2] at hih
  have his := idB_size hih
  have HPA := hidM (fun V => lpath_any ID V (by rw [his]; decide))
  have hp : pathR ID = (pathB ID, 0) := by unfold pathR; rw [hih]; rfl
  rw [hp] at HPA
  rw [← hID] at HID ⊢
  rw [← HTL.out]
  have HZW := hidM (fun V => zwrite_any T V (by omega))
  clear e1 e2 hlen hih hp hT hID hid2 HTL h h65 hdl
  have hz := zero48
  have HB0 : Hid (Below w.heap.size w ((w.alloc (.cells #[.int .i64 k, .string d] 29)).alloc (.cells #[.string ⟨#[]⟩, .string ⟨#[]⟩] 31))) := ((Below.refl _ w).alloc (Nat.le_refl _) _).alloc (by simp) _
  have HF0 : Hid (((w.alloc (.cells #[.int .i64 k, .string d] 29)).alloc (.cells #[.string ⟨#[]⟩, .string ⟨#[]⟩] 31)).heap[w.heap.size + 1]? = some (.cells #[.string ⟨#[]⟩, .string ⟨#[]⟩] 31 (0, 0))) := by
    have e := heap_alloc_new (w.alloc (.cells #[.int .i64 k, .string d] 29)) (.cells #[.string ⟨#[]⟩, .string ⟨#[]⟩] 31)
    rw [show (w.alloc (.cells #[.int .i64 k, .string d] 29)).heap.size = w.heap.size + 1 by simp] at e
    exact e
  have HO0 : Hid (((w.alloc (.cells #[.int .i64 k, .string d] 29)).alloc (.cells #[.string ⟨#[]⟩, .string ⟨#[]⟩] 31)).heap[w.heap.size]? = some (.cells #[.int .i64 k, .string d] 29 (0, 0))) := (heap_alloc_old _ _ (by simp)).trans (heap_alloc_new w _)
  have HG0 := hidM (hG.below HB0.out)
  clear hG
  generalize pathB ID = PB at *
  go_enter Tryz.func8, Tryz.ntmps8
  go_wp2_with fail
  refine (HEN.out _ HG0.out).mono ?_
  rintro _ w1 ⟨rfl, hb1⟩
  have HF1 := hidM (box_keptL HF0.out hb1)
  have HO1 := hidM (box_keptL HO0.out hb1)
  have HB1 := hidM (HB0.out.trans (hb1.mono HB0.out.size))
  have HG1 := hidM (HG0.out.below hb1)
  clear hb1 HF0 HO0 HB0 HG0 HEN
  have c0 : w1.cell? ⟨w.heap.size, 0, none⟩ = some (.int .i64 k) := by rw [cell_of_row _ _ _ _ 29 (0, 0) HO1.out]; rfl
  have c1 : w1.cell? ⟨w.heap.size, 1, none⟩ = some (.string d) := by rw [cell_of_row _ _ _ _ 29 (0, 0) HO1.out]; rfl
  go_wp2_with fail
  refine (HID.out _ HG1.out).mono ?_
  rintro _ w2 ⟨rfl, hb2⟩
  have HF2 := hidM (box_keptL HF1.out hb2)
  have HB2 := hidM (HB1.out.trans (hb2.mono HB1.out.size))
  clear hb2 HF1 HO1 HB1 HG1 HID c0 c1
  go_wp2_with fail
  refine (HPA.out _).mono ?_
  rintro _ w3 ⟨rfl, hb3⟩
  have HF3 := hidM (box_keptL HF2.out hb3)
  have HB3 := hidM (HB2.out.trans (hb3.mono HB2.out.size))
  clear hb3 HF2 HB2 HPA
  go_wp2_with fail
  refine (HZW.out _).mono ?_
  rintro _ w4 ⟨⟨X, rfl, hX, hx1, hx2⟩, hb4⟩
  have HF4 := hidM (box_keptL HF3.out hb4)
  have HB4 := hidM (HB3.out.trans (hb4.mono HB3.out.size))
  have HX := hidM hX
  clear hb4 HF3 HB3 HZW hX
  go_wp2_with (refine wpList_store_row rfl 31 (.tmp 2) (.tmp 38) rfl (w.heap.size + 1) #[.string PB, .string X] rfl rfl 31 #[.string ⟨#[]⟩, .string ⟨#[]⟩] HF4.out size48 rfl (onesFl _ _) ?_)

  exact bodyPost_ret (results_box rfl _ _ (w.heap.size + 1) _ rfl (run_loadVar_row _ (w.heap.size + 1) 31 31 _ (0, 0) _ (setRow_heap _ _ _ _ 31 _ HF4.out) Tryz.underlying31 rfl size48)) rfl ⟨⟨X, by unfold filV; rfl, HX.out, by omega⟩, below_setRowL HB4.out (by omega)⟩
end Go.Proofs.YtlmeoahcpmikiaaGreatDoor
