/-
  The document's Stored.
  The law InflateWrites, walked.
  Walks of zlib: Write; a frame is read within other bytes.
  The program's Write (f22): an object's file.
-/
import Derived.Test.YtddoemeellbhaaaGreatDoorDef
import Derived.Test.YtddoemeellbhaaaGreatDoorLoB
import Derived.Test.YtddoemeellbhaaaGreatDoorJTxtB
namespace Go.Proofs.YtddoemeellbhaaaGreatDoor
open Go.RowKit
end Go.Proofs.YtddoemeellbhaaaGreatDoor
namespace Go.Proofs.YtddoemeellbhaaaGreatDoor
open Go.RowKit
theorem InfQ.tight {l : List UInt8} {M q t : Nat} {o : List UInt8} {r : List UInt8 × Nat × Nat} (h : InfQ l 0 (q : Int) r) (hr : Run l M (.blk false) 0 [] (.good t o)) (hq : q < o.length) (hM : q ≤ M) (hM2 : M ≤ 65536) : r = ([], 0, 2) := by
  rcases h with ⟨h, _⟩ | ⟨A, Q, hA, hQ, _,_, h⟩
  · omega
  · obtain rfl : A = 0 := by omega
    obtain rfl : q = Q := by omega
    rw [List.drop_zero] at h
    rcases h with ⟨n, hn, hrun, rfl⟩ | ⟨t', o', hrun, _, ho, _⟩
    · by_cases h2 : n = 2
      · rw [h2]
      · cases (limit_run hM hrun (fun e => h2 (by cases e; rfl))).det trivial _ hr
    · cases (limit_run hM hrun (fun e => by cases e)).det trivial _ hr
      omega
end Go.Proofs.YtddoemeellbhaaaGreatDoor
namespace Go.Proofs.YtddoemeellbhaaaGreatDoor
open Go.RowKit
/-- a frame: head, a stream that tells s, the sum -/
def FrameOf (x s : List UInt8) : Prop := ∃ Z, Tells Z s ∧ Z.length ≤ 5 + s.length ∧ x = [120, 1] ++ Z ++ zsum s
theorem zsum_len (s : List UInt8) : (zsum s).length = 4 := by unfold zsum; rw [bigL_len]
set_option maxHeartbeats 1000000 in
set_option maxRecDepth 100000 in
theorem zwrite_any (s : ByteArray) (w : World) (hs : s.size ≤ 65535) :
    Calls Tryz.prog 52 #[.string s] w fun e w' => (∃ X : ByteArray, e = .returned (.string X) ∧ FrameOf X.data.toList s.data.toList ∧ X.size ≤ 11 + s.size ∧ 6 ≤ X.size) ∧ Below w.heap.size w w' := by
  have HLEN : Hid (s.data.toList.length = s.size) := Array.length_toList
  go_enter Tryz.func52, Tryz.ntmps52
  go_wp2_with fail
  refine (deflate_any s w hs).mono ?_
  rintro _ w1 ⟨⟨Z, rfl, hT, hzs⟩, hb1⟩
  have HB1 := hidM hb1
  have HT := hidM hT
  clear hb1 hT
  go_wp2_with fail
  refine (sumOf_any s w1 (by unfold maxLen; omega)).mono ?_
  rintro _ w2 ⟨rfl, hb2⟩
  have HB2 : Hid (Below w.heap.size w w2) := HB1.out.trans (hb2.mono HB1.out.size)
  clear hb2
  generalize hY : (⟨(zsum s.data.toList).toArray⟩ : ByteArray) = Y at *
  have HY : Hid (Y.data.toList = zsum s.data.toList) := by unfold Hid; rw [← hY]
  have hys : Y.size = 4 := by
    have : Y.data.toList.length = Y.size := Array.length_toList
    rw [← this, HY.out, zsum_len]
  have HYS := hidM hys
  have hys2 : Y.size ≤ 4 := by omega
  clear hY hys
  generalize hQ : (⟨#[120, 1]⟩ ++ Z : ByteArray) = Q at *
  have HQ : Hid (Q.data.toList = [120, 1] ++ Z.data.toList) := by unfold Hid; rw [← hQ, str_add]
  have HQS : Hid (Q.size = 2 + Z.size) := by unfold Hid; rw [← hQ, ByteArray.size_append]; rfl
  have hqs : Q.size ≤ 70002 := by have := HQS.out; omega
  clear hQ
  have hZl : Z.data.toList.length = Z.size := Array.length_toList
  have HF : Hid (FrameOf (Q ++ Y : ByteArray).data.toList s.data.toList) := ⟨Z.data.toList, HT.out, by rw [hZl, HLEN.out]; exact hzs, by rw [str_add, HQ.out, HY.out]⟩
  have HFS : Hid ((Q ++ Y : ByteArray).size ≤ 11 + s.size ∧ 6 ≤ (Q ++ Y : ByteArray).size) := by
    unfold Hid
    rw [ByteArray.size_append, HQS.out, HYS.out]
    omega
  clear hZl
  go_wp2
  go_ret
  exact ⟨⟨_, rfl, HF.out, HFS.out.1, HFS.out.2⟩, HB2.out⟩
/-- reading a frame within other bytes -/
theorem frame_read {front x s back : List UInt8} (h : FrameOf x s) {M : Nat} {r : List UInt8 × Nat × Nat} (hM : s.length ≤ M) (hM2 : M ≤ 65536) (hq : ZQ (front ++ (x ++ back)) (front.length : Int) (M : Int) r) : r = (s, x.length, 0) := by
  obtain ⟨Z, hT, _, rfl⟩ := h
  obtain ⟨t, ht, hrun⟩ := hT.app (zsum s ++ back)
  have hz := zsum_len s
  have hdrop : ∀ k, (front ++ (([120, 1] ++ Z ++ zsum s) ++ back)).drop (front.length + k) = (([120, 1] ++ Z ++ zsum s) ++ back).drop k := fun k => by rw [List.drop_append, List.drop_of_length_le (by omega), List.nil_append, show front.length + k - front.length = k by omega]
  have hlen : (front ++ (([120, 1] ++ Z ++ zsum s) ++ back)).length = front.length + (2 + Z.length + 4 + back.length) := by
    simp only [List.length_append, List.length_cons, List.length_nil, hz]
  have hg : ∀ k, (front ++ (([120, 1] ++ Z ++ zsum s) ++ back)).getD (front.length + k) 0 = (([120, 1] ++ Z ++ zsum s) ++ back).getD k 0 := fun k => by
    rw [List.getD_eq_getElem?_getD, List.getD_eq_getElem?_getD, List.getElem?_append_right (by omega), show front.length + k - front.length = k by omega]
  have h := ZQ.good (A := front.length) (M := M) (t := t) (o := s) hq (by omega) hM2
    (by have h0 := hg 0; have h1 := hg 1; rw [Nat.add_zero] at h0; rw [h0, h1]; exact (by decide +kernel : headB (UInt8.toNat 120) (UInt8.toNat 1) = true))
    (by
      rw [hdrop 2]
      have : ([120, 1] ++ Z ++ zsum s ++ back).drop 2 = Z ++ (zsum s ++ back) := by simp [List.append_assoc]
      rw [this]
      exact hrun M hM)
    (by omega)
    (by
      rw [ht, show front.length + 2 + Z.length = front.length + (2 + Z.length) by omega, hdrop]
      have : ([120, 1] ++ Z ++ zsum s ++ back).drop (2 + Z.length) = zsum s ++ back := by
        rw [List.append_assoc, List.drop_append, List.drop_of_length_le (by simp; omega), List.nil_append]
        simp only [List.length_append, List.length_cons, List.length_nil]
        rw [show 2 + Z.length - (0 + 1 + 1 + Z.length) = 0 by omega, List.drop_zero]
      rw [this, List.take_append_of_le_length (by omega), List.take_of_length_le (by omega)])
  rw [h, ht]
  simp only [List.length_append, List.length_cons, List.length_nil, hz]
  rw [show 0 + 1 + 1 + Z.length + 4 = Z.length + 6 by omega]
end Go.Proofs.YtddoemeellbhaaaGreatDoor
namespace Go.Proofs.YtddoemeellbhaaaGreatDoor
open Go.RowKit
theorem zero48 (w : World) : (zeroValue 48).run Tryz.prog w = .ok (.agg #[.string ⟨#[]⟩, .string ⟨#[]⟩]) w := by kernel_rfl
theorem size48 : (Tryz.prog.info? 48).map (·.size) = some 2 := by kernel_rfl
def filV (p x : ByteArray) (e : Nat) : Value := .tuple #[.agg #[.string p, .string x], .int .i64 (e : Nat)]
theorem onesFl (p x : ByteArray) : (#[.string p, .string x] : Array Value).all (·.oneCell') = true := by simp [Value.oneCell']
theorem hexes (l : List UInt8) : hexLT l = hexL l := by
  unfold hexLT hexL
  rfl
theorem idB_hex (l : List UInt8) (h : l.length = 20) : idB (hexL l) = true := by
  have h1 := hexed_hex l
  rw [hexes] at h1
  unfold hexed at h1
  simp only [Bool.and_eq_true] at h1
  unfold idB
  rw [h1.1, hexL_len, h]
  rfl
set_option maxHeartbeats 8000000 in
set_option maxRecDepth 100000 in
theorem lwrite_yes (k : Int) (d : ByteArray) (w : World) (hG : LG w) (h : checkE k d.size = 0) :
    Calls Tryz.prog 22 #[.agg #[.int .i64 k, .string d]] w fun e w' => (∃ X : ByteArray, e = .returned (filV (pathB ⟨(hexL (sha1L (encL k d.data.toList))).toArray⟩) X 0) ∧ FrameOf X.data.toList (encL k d.data.toList) ∧ X.size ≤ 66000) ∧ Below w.heap.size w w' := by
  have hdl : d.data.toList.length = d.size := by simp
  have h65 := (checkE_zero.1 h).2
  have HEN := hidM (fun V (hV : LG V) => encode_any k d V hV.2)
  have HID := hidM (fun V (hV : LG V) => id_any k d V hV.2)
  have e1 : encT k d.data.toList = encL k d.data.toList := by unfold encT; rw [if_pos (by rw [hdl]; exact h)]
  have e2 : idT k d.data.toList = hexL (sha1L (encL k d.data.toList)) := by unfold idT; rw [if_pos (by rw [hdl]; exact h)]
  rw [e1, h] at HEN
  rw [e2, h] at HID
  have hlen := encL_len k d.data.toList (by omega)
  have hih := idB_hex (sha1L (encL k d.data.toList)) (sha1L_len _)
  obtain ⟨T, hT⟩ : ∃ T : ByteArray, T = ⟨(encL k d.data.toList).toArray⟩ := ⟨_, rfl⟩
  have HTL : Hid (T.data.toList = encL k d.data.toList) := by unfold Hid; rw [hT]
  have hts : T.size ≤ 65100 := by rw [← len_size, HTL.out]; exact hlen
  rw [← hT] at HEN
  obtain ⟨ID, hID⟩ : ∃ ID : ByteArray, ID = ⟨(hexL (sha1L (encL k d.data.toList))).toArray⟩ := ⟨_, rfl⟩
  have hid2 : ID.data.toList = hexL (sha1L (encL k d.data.toList)) := by rw [hID]
  rw [← hid2] at hih
  have his := idB_size hih
  have HPA := hidM (fun V => lpath_any ID V (by rw [his]; decide))
  have hp : pathR ID = (pathB ID, 0) := by unfold pathR; rw [hih]; rfl
  rw [hp] at HPA
  rw [← hID] at HID ⊢
  rw [← HTL.out]
  have HZW := hidM (fun V => zwrite_any T V (by omega))
  clear e1 e2 hlen hih hp hT hID hid2 HTL h h65 hdl
  have hz := zero48
  have HB0 : Hid (Below w.heap.size w ((w.alloc (.cells #[.int .i64 k, .string d] 32)).alloc (.cells #[.string ⟨#[]⟩, .string ⟨#[]⟩] 48))) := ((Below.refl _ w).alloc (Nat.le_refl _) _).alloc (by simp) _
  have HF0 : Hid (((w.alloc (.cells #[.int .i64 k, .string d] 32)).alloc (.cells #[.string ⟨#[]⟩, .string ⟨#[]⟩] 48)).heap[w.heap.size + 1]? = some (.cells #[.string ⟨#[]⟩, .string ⟨#[]⟩] 48 (0, 0))) := by
    have e := heap_alloc_new (w.alloc (.cells #[.int .i64 k, .string d] 32)) (.cells #[.string ⟨#[]⟩, .string ⟨#[]⟩] 48)
    rw [show (w.alloc (.cells #[.int .i64 k, .string d] 32)).heap.size = w.heap.size + 1 by simp] at e
    exact e
  have HO0 : Hid (((w.alloc (.cells #[.int .i64 k, .string d] 32)).alloc (.cells #[.string ⟨#[]⟩, .string ⟨#[]⟩] 48)).heap[w.heap.size]? = some (.cells #[.int .i64 k, .string d] 32 (0, 0))) := (heap_alloc_old _ _ (by simp)).trans (heap_alloc_new w _)
  have HG0 := hidM (hG.below HB0.out)
  clear hG
  generalize pathB ID = PB at *
  go_enter Tryz.func22, Tryz.ntmps22
  go_wp2_with fail
  refine (HEN.out _ HG0.out).mono ?_
  rintro _ w1 ⟨rfl, hb1⟩
  have HF1 := hidM (box_keptL HF0.out hb1)
  have HO1 := hidM (box_keptL HO0.out hb1)
  have HB1 := hidM (HB0.out.trans (hb1.mono HB0.out.size))
  have HG1 := hidM (HG0.out.below hb1)
  clear hb1 HF0 HO0 HB0 HG0 HEN
  have c0 : w1.cell? ⟨w.heap.size, 0, none⟩ = some (.int .i64 k) := by rw [cell_of_row _ _ _ _ 32 (0, 0) HO1.out]; rfl
  have c1 : w1.cell? ⟨w.heap.size, 1, none⟩ = some (.string d) := by rw [cell_of_row _ _ _ _ 32 (0, 0) HO1.out]; rfl
  go_wp2_with fail
  refine (HID.out _ HG1.out).mono ?_
  rintro _ w2 ⟨rfl, hb2⟩
  have HF2 := hidM (box_keptL HF1.out hb2)
  have HB2 := hidM (HB1.out.trans (hb2.mono HB1.out.size))
  clear hb2 HF1 HO1 HB1 HG1 HID c0 c1
  go_wp2_with fail
  refine (HPA.out _).mono ?_
  rintro _ w3 ⟨rfl, hb3⟩
  have HF3 := hidM (box_keptL HF2.out hb3)
  have HB3 := hidM (HB2.out.trans (hb3.mono HB2.out.size))
  clear hb3 HF2 HB2 HPA
  go_wp2_with fail
  refine (HZW.out _).mono ?_
  rintro _ w4 ⟨⟨X, rfl, hX, hx1, hx2⟩, hb4⟩
  have HF4 := hidM (box_keptL HF3.out hb4)
  have HB4 := hidM (HB3.out.trans (hb4.mono HB3.out.size))
  have HX := hidM hX
  clear hb4 HF3 HB3 HZW hX
  go_wp2_with (refine wpList_store_row rfl 48 (.tmp 2) (.tmp 38) rfl (w.heap.size + 1) #[.string PB, .string X] rfl rfl 48 #[.string ⟨#[]⟩, .string ⟨#[]⟩] HF4.out size48 rfl (onesFl _ _) ?_)

  exact bodyPost_ret (results_box rfl _ _ (w.heap.size + 1) _ rfl (run_loadVar_row _ (w.heap.size + 1) 48 48 _ (0, 0) _ (setRow_heap _ _ _ _ 48 _ HF4.out) Tryz.underlying48 rfl size48)) rfl ⟨⟨X, by unfold filV; rfl, HX.out, by omega⟩, below_setRowL HB4.out (by omega)⟩
end Go.Proofs.YtddoemeellbhaaaGreatDoor
