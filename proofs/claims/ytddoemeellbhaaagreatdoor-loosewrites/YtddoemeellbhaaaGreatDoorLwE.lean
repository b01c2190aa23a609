/-
  The law LooseWrites, walked: an object that may be written.
-/
import Derived.Test.YtddoemeellbhaaaGreatDoorLwC
import Derived.Deep.DeepCutAuto
namespace Go.Proofs.YtddoemeellbhaaaGreatDoor
open Go.RowKit
theorem FilesV.below {w w' : World} {v : Value} {fs : List FileB} (h : FilesV w v fs) (hb : Below w.heap.size w w') : FilesV w' v fs := by
  rcases h with h | h | ⟨b, off, c, rfl, hf, hc⟩
  · exact .inl h
  · exact .inr (.inl h)
  · refine .inr (.inr ⟨b, off, c, rfl, fun i hi => ?_, hc⟩)
    obtain ⟨c0, c1⟩ := hf i hi
    have hlt := World.block_lt_of_cell? w _ c0
    exact ⟨(hb.cell (p := ⟨b, off + i * 2, none⟩) hlt).trans c0, (hb.cell (p := ⟨b, off + i * 2 + 1, none⟩) hlt).trans c1⟩
theorem objV_back {k : Int} {D : ByteArray} (h : ((k.toNat : Nat) : Int) = k) : objV (k.toNat, D.data.toList, 0) = .tuple #[.agg #[.int .i64 k, .string D], .int .i64 0] := by
  unfold objV
  simp only [h]
  rfl
/-- the boxes of the object and of its file stand, and nothing elder has turned -/
def LwS (w : World) (A : Nat) (k : Int) (D PB X : ByteArray) (V : World) : Prop := Below w.heap.size w V ∧ w.heap.size < A ∧ V.heap[w.heap.size]? = some (.cells #[.int .i64 k, .string D] 32 (0, 0)) ∧ V.heap[A]? = some (.cells #[.string PB, .string X] 48 (0, 0))
section
variable {w V V' : World} {A : Nat} {k : Int} {D PB X : ByteArray}
theorem LwS.drewN {m : Nat} (h : Hid (LwS w A k D PB X V)) : Hid (LwS w A k D PB X (V.drewN m)) := ⟨below_drewN h.out.1 m, h.out.2⟩
theorem LwS.drew (h : Hid (LwS w A k D PB X V)) : Hid (LwS w A k D PB X V.drew) := LwS.drewN (m := 1) h
theorem LwS.next (h : LwS w A k D PB X V) (hb : Below V.heap.size V V') : LwS w A k D PB X V' :=
  ⟨h.1.trans (hb.mono h.1.size), h.2.1, box_keptL h.2.2.1 hb, box_keptL h.2.2.2 hb⟩
theorem LwS.alloc {o : Obj} (h : Hid (LwS w A k D PB X V)) : Hid (LwS w A k D PB X (V.alloc o)) := h.out.next ((Below.refl _ V).alloc (Nat.le_refl _) o)
theorem LwS.lt (h : LwS w A k D PB X V) : A < V.heap.size := (Array.getElem?_eq_some_iff.1 h.2.2.2).1
theorem LwS.grown {g : Nat} (h : LwS w A k D PB X V) (hg : V.grownBy V' (some g)) (hA : A + 1 ≤ g) : LwS w A k D PB X V' := by
  have h1 := h.2.1
  have h2 := h.lt
  have hsz := h.1.size
  refine ⟨h.1.grown hg hsz (fun k hk => ?_), h1, (hg.block _ (by omega) (by intro e; injection e with e; omega)).trans h.2.2.1, (hg.block _ h2 (by intro e; injection e with e; omega)).trans h.2.2.2⟩
  injection hk with hk
  omega
theorem LwS.full (h : LwS w A k D PB X V) : V.cell? ⟨w.heap.size, 0, none⟩ = some (.int .i64 k) ∧ V.cell? ⟨w.heap.size, 1, none⟩ = some (.string D) ∧ V.cell? ⟨A, 0, none⟩ = some (.string PB) ∧ V.cell? ⟨A, 1, none⟩ = some (.string X) ∧ Hid (LwS w A k D PB X V) :=
  ⟨by rw [cell_of_row V _ 0 _ 32 (0, 0) h.2.2.1]; rfl, by rw [cell_of_row V _ 1 _ 32 (0, 0) h.2.2.1]; rfl, by rw [cell_of_row V _ 0 _ 48 (0, 0) h.2.2.2]; rfl, by rw [cell_of_row V _ 1 _ 48 (0, 0) h.2.2.2]; rfl, h⟩
end
theorem tmp_below {V V' : World} {a : Addr} {l : List Value} (hb : Below V.heap.size V V') (h : ∀ j u, l[j]? = some u → V.cell? (a.add j) = some u) : ∀ j u, l[j]? = some u → V'.cell? (a.add j) = some u := fun j u hj =>
  (hb.cell (World.block_lt_of_cell? V _ (h j u hj))).trans (h j u hj)
theorem one_two (p x : ByteArray) : ∀ u ∈ ([.string p, .string x] : List Value), u.oneCell' = true := by
  intro u hu
  simp at hu
  rcases hu with rfl | rfl <;> rfl
/-- what New has answered -/
def LNewQ (us2 : List FileB) (p : Option Addr) (n : Int) (V : World) : Prop := n ≠ 0 ∨ (n = 0 ∧ ∃ gs q b c, p = some ⟨q, 0, none⟩ ∧ gs.Perm us2 ∧ RiseS gs ∧ Apart us2 ∧ Folder V q b 0 c gs)
theorem LNewQ.below {us2 : List FileB} {p : Option Addr} {n : Int} {V V' : World} (h : LNewQ us2 p n V) (hb : Below V.heap.size V V') : LNewQ us2 p n V' := by
  rcases h with h | ⟨h, gs, q, b, c, h1, h2, h3, h4, h5⟩
  · exact .inl h
  · exact .inr ⟨h, gs, q, b, c, h1, h2, h3, h4, h5.below hb⟩
/-- the same, and the box of what was read -/
def LwX (w : World) (A G : Nat) (k : Int) (D PB X : ByteArray) (V : World) : Prop := LwS w A k D PB X V ∧ V.heap[G]? = some (.cells #[.int .i64 k, .string D] 32 (0, 0))
section
variable {w V V' : World} {A G : Nat} {k : Int} {D PB X : ByteArray}
theorem LwX.drew (h : Hid (LwX w A G k D PB X V)) : Hid (LwX w A G k D PB X V.drew) := ⟨(LwS.drew h.out.1).out, h.out.2⟩
theorem LwX.next (h : LwX w A G k D PB X V) (hb : Below V.heap.size V V') : LwX w A G k D PB X V' := ⟨h.1.next hb, box_keptL h.2 hb⟩
theorem LwX.alloc {o : Obj} (h : Hid (LwX w A G k D PB X V)) : Hid (LwX w A G k D PB X (V.alloc o)) := h.out.next ((Below.refl _ V).alloc (Nat.le_refl _) o)
theorem LwX.lts (h : LwX w A G k D PB X V) : w.heap.size < V.heap.size ∧ A < V.heap.size ∧ G < V.heap.size := ⟨(Array.getElem?_eq_some_iff.1 h.1.2.2.1).1, h.1.lt, (Array.getElem?_eq_some_iff.1 h.2).1⟩
theorem LwX.full (h : LwX w A G k D PB X V) : V.cell? ⟨w.heap.size, 0, none⟩ = some (.int .i64 k) ∧ V.cell? ⟨w.heap.size, 1, none⟩ = some (.string D) ∧ Hid (LwX w A G k D PB X V) := ⟨h.1.full.1, h.1.full.2.1, h⟩
theorem LwX.set {B : Nat} (h : LwX w A G k D PB X V) (hB : w.heap.size < B ∧ A < B ∧ G < B) (hp : V.heap[B]? = some (.cells #[.int .i64 0, .string ⟨#[]⟩] 32 (0, 0))) :
    V.cell? ⟨B, 0, none⟩ = some (.int .i64 0) ∧ V.frozen? ⟨B, 0, none⟩ = false ∧ (V.setCell ⟨B, 0, none⟩ (.int .i64 k)).cell? ⟨B, 1, none⟩ = some (.string ⟨#[]⟩) ∧ (V.setCell ⟨B, 0, none⟩ (.int .i64 k)).frozen? ⟨B, 1, none⟩ = false ∧
    LwX w A G k D PB X ((V.setCell ⟨B, 0, none⟩ (.int .i64 k)).setCell ⟨B, 1, none⟩ (.string D)) ∧ ((V.setCell ⟨B, 0, none⟩ (.int .i64 k)).setCell ⟨B, 1, none⟩ (.string D)).heap[B]? = some (.cells #[.int .i64 k, .string D] 32 (0, 0)) := by
  have h1 := heap_setCell_same V B 0 _ 32 (.int .i64 k) hp
  have h2 := heap_setCell_same _ B 1 _ 32 (.string D) h1
  have ho : ∀ j, j ≠ B → ((V.setCell ⟨B, 0, none⟩ (.int .i64 k)).setCell ⟨B, 1, none⟩ (.string D)).heap[j]? = V.heap[j]? := fun j hj => (Below.heap_setCell _ ⟨B, 1, none⟩ _ j hj).trans (Below.heap_setCell V ⟨B, 0, none⟩ _ j hj)
  refine ⟨by rw [cell_of_row V B 0 _ 32 (0, 0) hp]; rfl, by unfold World.frozen?; rw [hp]; rfl, by rw [cell_of_row _ B 1 _ 32 (0, 0) h1]; rfl, by unfold World.frozen?; rw [h1]; rfl, ⟨⟨(h.1.1.setCell (Nat.le_of_lt hB.1) _).setCell (Nat.le_of_lt hB.1) _, h.1.2.1, (ho _ (by omega)).trans h.1.2.2.1, (ho _ (by omega)).trans h.1.2.2.2⟩, (ho _ (by omega)).trans h.2⟩, h2⟩
end
theorem sizeF_more (us : List FileB) (f : FileB) : sizeF (us ++ [f]) = sizeF us + f.2.size := by unfold sizeF; simp
set_option maxHeartbeats 16000000 in
set_option maxRecDepth 100000 in
theorem lwrites_yes (v : Value) (fs : List FileB) (k : Int) (d : ByteArray) (w : World) (hG : LG w) (hV : FilesV w v fs) (hc : checkE k (fewBI d 1000).size = 0)
    (hZ : ∀ (s : ByteArray) (V : World), s.size ≤ 100000 → Calls Tryz.prog 25 #[.string s, .int .i64 0, .int .i64 65536] V fun e w' => ZPost s 0 65536 e ∧ Below V.heap.size V w') :
    Calls Tryz.prog 4 #[.agg #[.int .i64 k, .string d], v] w fun e w' => e = .returned (.bool true) ∧ Below w.heap.size w w' := by
  have HFW := hidM (fun V => fewF_any d 1000 V)
  have hD := fewB_sizeI d 1000
  generalize fewBI d 1000 = D at *
  have hdl : D.data.toList.length = D.size := by simp
  have HG := hidM hG
  have HV := hidM hV
  have HWR := hidM (fun V (hV : LG V) => lwrite_yes k D V hV hc)
  have HCK := hidM (fun V => rcheck_any k D V)
  rw [hc] at HCK
  have HAW := hidM (fun V => lawake_any V)
  have HRI := hidM (fun V => rid_any k D V (by omega))
  have HTX := hidM (fun V => rtext_any k D V (by omega))
  have hc' : checkE k D.data.toList.length = 0 := by rw [hdl]; exact hc
  have HKN := hidM (kind_nat hc')
  have HUF := hidM (fun (X : List UInt8) x (h1 : FrameOf X (encL k D.data.toList)) (h2 : UnpQ X x) => unp_frame hc' h1 h2)
  have HRF := hidM (fun (X id : ByteArray) us gs x (h1 : FrameOf X.data.toList (encL k D.data.toList)) (h2 : id.data.toList = hexL (sha1L (encL k D.data.toList))) h3 h4 h5 => read_frame (X := X) (id := id) (us := us) (gs := gs) (x := x) hc' h1 h2 h3 h4 h5)
  have hlen := encL_len k D.data.toList (by omega)
  have hih := idB_hex (sha1L (encL k D.data.toList)) (sha1L_len _)
  obtain ⟨T, hT⟩ : ∃ T : ByteArray, T = ⟨(encL k D.data.toList).toArray⟩ := ⟨_, rfl⟩
  have hTL : T.data.toList = encL k D.data.toList := by rw [hT]
  have hts : T.size ≤ 65100 := by rw [← len_size, hTL]; exact hlen
  rw [← hT] at HTX
  obtain ⟨ID, hID⟩ : ∃ ID : ByteArray, ID = ⟨(hexL (sha1L (encL k D.data.toList))).toArray⟩ := ⟨_, rfl⟩
  have hid2 : ID.data.toList = hexL (sha1L (encL k D.data.toList)) := by rw [hID]
  rw [← hid2] at hih
  have his := idB_size hih
  rw [← hID] at HRI HWR
  have HI2 := hidM hid2
  rw [← hTL] at HUF HRF HWR
  obtain ⟨SL, hSL⟩ : ∃ SL : List UInt8, SL = hexL (sha1L (encL k D.data.toList)) := ⟨_, rfl⟩
  rw [hTL] at HRF
  rw [← hSL] at HI2
  have HRF' : Hid (∀ (X id : ByteArray) us gs x, FrameOf X.data.toList T.data.toList → id.data.toList = SL → Apart (us ++ [(pathB id, X)]) → gs.Perm (us ++ [(pathB id, X)]) → ReadQ gs id x → x = (k.toNat, D.data.toList, 0)) := by
    rw [hTL, hSL]
    exact HRF.out
  have HST := hidM (fun V => rstored_any T V (by omega))
  obtain ⟨S, hS⟩ : ∃ S : ByteArray, S = ⟨(storedB 1 T.data.toList).toArray⟩ := ⟨_, rfl⟩
  have hSs : S.size ≤ 70000 := by rw [hS]; show (storedB 1 T.data.toList).toArray.size ≤ _; rw [List.size_toArray, storedB_len, len_size]; omega
  have HFR := hidM (fun V => rframe_any S T V (by omega) hSs)
  have hPL : (⟨(([120, 1] : List UInt8) ++ S.data.toList ++ zsum T.data.toList).toArray⟩ : ByteArray) = ⟨(plainLI T.data.toList).toArray⟩ := by rw [hS]; rfl
  rw [hPL] at HFR
  rw [← hS] at HST
  obtain ⟨P, hP⟩ : ∃ P : ByteArray, P = ⟨(plainLI T.data.toList).toArray⟩ := ⟨_, rfl⟩
  have hPT : P.data.toList = plainLI T.data.toList := by rw [hP]
  obtain ⟨hf1, hf2⟩ := frame_plain T.data.toList (by rw [len_size]; omega)
  rw [← hP] at HFR
  rw [← hPT] at hf1 hf2
  have HFP := hidM hf1
  rw [len_size, len_size] at hf2
  have HUN := hidM (fun V (hV : LG V) => unpack_any P V (by omega) hV)
  have HRP := hidM (fun V => rpath_any ID V his)
  have HRD := hidM (fun V q b c gs (hF : Folder V q b 0 c gs) (hlen : gs.length ≤ 11) (hr : Rise gs) (hz : ∀ f ∈ gs, f.2.size ≤ 1000000) (hV : LG V) => lread_any q b 0 c gs ID V hF (by omega) hr hz hV (by rw [his]; decide))
  have HSH := hidM (fun V (hV : FilesV V v fs) => short_anyW v 10 fs V hV (by decide))
  have HS4 : Hid (∀ f ∈ (fs.take 10).map cutF, f.2.size ≤ 400) := fun f hf => by
    obtain ⟨g, _, rfl⟩ := List.mem_map.1 hf
    exact fewS_size _
  have hl10 : ((fs.take 10).map cutF).length ≤ 10 := by rw [List.length_map, List.length_take]; omega
  have HSZ := hidM (sizeF_le400 HS4.out)
  have HFD := hidM (fun (X : ByteArray) (r : List UInt8 × Nat × Nat) (h : FrameOf X.data.toList T.data.toList) (h2 : ZQ X.data.toList 0 65536 r) => frame_read (front := []) (back := []) h (M := 65536) (by rw [len_size]; omega) (Nat.le_refl _) (by simpa using h2))
  obtain ⟨i0, hi0, hz0, hz1, hz2⟩ := info_parts info32
  have HZ := hidM hZ
  have HTB : Hid ((⟨T.data.toList.toArray⟩ : ByteArray) = T) := rfl
  generalize (fs.take 10).map cutF = us at *
  clear hG hV hc hdl hc' hlen hih hT hTL hid2 hID hSL HRF hS hPL hP hPT hf1 hZ his
  obtain ⟨PB, hPB⟩ : ∃ PB, PB = pathB ID := ⟨_, rfl⟩
  rw [← hPB] at HRP HWR
  have HPB := hidM hPB
  clear hPB
  go_enter Tryz.func4, Tryz.ntmps4
  go_wp2_with fail
  refine (HFW.out _).mono ?_
  rintro _ w9 ⟨rfl, h9⟩
  rw [h9]
  clear h9 w9 HFW
  have HE0 : Hid ((w.alloc (.cells #[.int .i64 k, .string D] 32)).heap[w.heap.size]? = some (.cells #[.int .i64 k, .string D] 32 (0, 0))) := heap_alloc_new w _
  have HB0 : Hid (Below w.heap.size w (w.alloc (.cells #[.int .i64 k, .string D] 32))) := (Below.refl _ w).alloc (Nat.le_refl _) _
  have HG0 := hidM (HG.out.below HB0.out)
  go_wp2_with fail
  generalize w.alloc (.cells #[.int .i64 k, .string D] 32) = W0 at *
  refine (HWR.out _ HG0.out).mono ?_
  rintro _ w1 ⟨⟨X, rfl, hX, hx1⟩, hb1⟩
  have HX := hidM hX
  clear hX
  have HLX : Hid (X.data.toList.length = X.size) := len_size X
  have HGw := hidM HG.out
  have HWA : Hid (w.heap.size < w1.heap.size) := Nat.lt_of_lt_of_le (Array.getElem?_eq_some_iff.1 HE0.out).1 hb1.size
  have HE1 := hidM (box_keptL HE0.out hb1)
  have HB1 := hidM (HB0.out.trans (hb1.mono HB0.out.size))
  have HG1 := hidM (HG0.out.below hb1)
  have HE2 : Hid ((w1.alloc (.cells #[.string PB, .string X] 48)).heap[w.heap.size]? = some (.cells #[.int .i64 k, .string D] 32 (0, 0))) := (heap_alloc_old _ _ (Array.getElem?_eq_some_iff.1 HE1.out).1).trans HE1.out
  have HF2 : Hid ((w1.alloc (.cells #[.string PB, .string X] 48)).heap[w1.heap.size]? = some (.cells #[.string PB, .string X] 48 (0, 0))) := heap_alloc_new _ _
  have HB2 : Hid (Below w.heap.size w (w1.alloc (.cells #[.string PB, .string X] 48))) := HB1.out.alloc HB1.out.size _
  have HG2 : Hid (LG (w1.alloc (.cells #[.string PB, .string X] 48))) := HG1.out.below ((Below.refl _ w1).alloc (Nat.le_refl _) _)
  clear hb1 HE0 HE1 HB0 HB1 HG0 HG1 HWR HG
  have c0 : (w1.alloc (.cells #[.string PB, .string X] 48)).cell? ⟨w.heap.size, 0, none⟩ = some (.int .i64 k) := by rw [cell_of_row _ _ _ _ 32 (0, 0) HE2.out]; rfl
  have c1 : (w1.alloc (.cells #[.string PB, .string X] 48)).cell? ⟨w.heap.size, 1, none⟩ = some (.string D) := by rw [cell_of_row _ _ _ _ 32 (0, 0) HE2.out]; rfl
  have c2 : True := trivial
  have c3 : True := trivial
  unfold filV
  go_wp2_with fail
  generalize w1.alloc (.cells #[.string PB, .string X] 48) = W1 at *
  generalize w1.heap.size = A at *
  refine (HCK.out _).mono ?_
  rintro _ w3 ⟨rfl, hb3⟩
  have HE3 := hidM (box_keptL HE2.out hb3)
  have HF3 := hidM (box_keptL HF2.out hb3)
  have HB3 := hidM (HB2.out.trans (hb3.mono HB2.out.size))
  have HG3 := hidM (HG2.out.below hb3)
  clear hb3 HE2 HF2 HB2 HG2 c0 c1 c2 c3 HCK
  have c0 : w3.cell? ⟨w.heap.size, 0, none⟩ = some (.int .i64 k) := by rw [cell_of_row _ _ _ _ 32 (0, 0) HE3.out]; rfl
  have c1 : w3.cell? ⟨w.heap.size, 1, none⟩ = some (.string D) := by rw [cell_of_row _ _ _ _ 32 (0, 0) HE3.out]; rfl
  have c2 : w3.cell? ⟨A, 0, none⟩ = some (.string PB) := by rw [cell_of_row _ _ _ _ 48 (0, 0) HF3.out]; rfl
  have c3 : w3.cell? ⟨A, 1, none⟩ = some (.string X) := by rw [cell_of_row _ _ _ _ 48 (0, 0) HF3.out]; rfl
  go_wp2_with fail
  refine (HRI.out _).mono ?_
  rintro _ w4 ⟨rfl, hb4⟩
  have HE4 := hidM (box_keptL HE3.out hb4)
  have HF4 := hidM (box_keptL HF3.out hb4)
  have HB4 := hidM (HB3.out.trans (hb4.mono HB3.out.size))
  have HG4 := hidM (HG3.out.below hb4)
  clear hb4 HE3 HF3 HB3 HG3 c0 c1 c2 c3 HRI
  have c0 : w4.cell? ⟨w.heap.size, 0, none⟩ = some (.int .i64 k) := by rw [cell_of_row _ _ _ _ 32 (0, 0) HE4.out]; rfl
  have c1 : w4.cell? ⟨w.heap.size, 1, none⟩ = some (.string D) := by rw [cell_of_row _ _ _ _ 32 (0, 0) HE4.out]; rfl
  have c2 : w4.cell? ⟨A, 0, none⟩ = some (.string PB) := by rw [cell_of_row _ _ _ _ 48 (0, 0) HF4.out]; rfl
  have c3 : w4.cell? ⟨A, 1, none⟩ = some (.string X) := by rw [cell_of_row _ _ _ _ 48 (0, 0) HF4.out]; rfl
  have HZR := hidM (HZ.out X w4 (by omega))
  go_wp2_with fail
  refine (HZR.out).mono ?_
  rintro _ w5 ⟨⟨r, hz, rfl⟩, hb5⟩
  have HE5 := hidM (box_keptL HE4.out hb5)
  have HF5 := hidM (box_keptL HF4.out hb5)
  have HB5 := hidM (HB4.out.trans (hb5.mono HB4.out.size))
  have HG5 := hidM (HG4.out.below hb5)
  obtain rfl := HFD.out X r HX.out hz
  clear hz
  clear hb5 HE4 HF4 HB4 HG4 c0 c1 c2 c3 HZR HZ HFD
  have c0 : w5.cell? ⟨w.heap.size, 0, none⟩ = some (.int .i64 k) := by rw [cell_of_row _ _ _ _ 32 (0, 0) HE5.out]; rfl
  have c1 : w5.cell? ⟨w.heap.size, 1, none⟩ = some (.string D) := by rw [cell_of_row _ _ _ _ 32 (0, 0) HE5.out]; rfl
  have c2 : w5.cell? ⟨A, 0, none⟩ = some (.string PB) := by rw [cell_of_row _ _ _ _ 48 (0, 0) HF5.out]; rfl
  have c3 : w5.cell? ⟨A, 1, none⟩ = some (.string X) := by rw [cell_of_row _ _ _ _ 48 (0, 0) HF5.out]; rfl
  simp only [HLX.out]
  have b1 : (PB.toList == PB.toList) = true := by simp
  have b2 : ((X.size : Int) == (X.size : Int)) = true := by simp
  have b3 : (T.toList == T.toList) = true := by simp
  have HS5 : Hid (LwS w A k D PB X w5) := ⟨HB5.out, HWA.out, HE5.out, HF5.out⟩
  have H14 : Hid (∀ V, Hid (LwS w A k D PB X V) → Calls Tryz.prog 14 #[] V fun e w' => e = .returned (.bool true) ∧ w'.cell? ⟨w.heap.size, 0, none⟩ = some (.int .i64 k) ∧ w'.cell? ⟨w.heap.size, 1, none⟩ = some (.string D) ∧ w'.cell? ⟨A, 0, none⟩ = some (.string PB) ∧ w'.cell? ⟨A, 1, none⟩ = some (.string X) ∧ Hid (LwS w A k D PB X w')) := fun V hV => (HAW.out V).mono fun e w' h => ⟨h.1, (hV.out.next h.2).full⟩
  have H16 : Hid (∀ V, Hid (LwS w A k D PB X V) → Calls Tryz.prog 16 #[.string ID] V fun e w' => e = .returned (.string PB) ∧ w'.cell? ⟨w.heap.size, 0, none⟩ = some (.int .i64 k) ∧ w'.cell? ⟨w.heap.size, 1, none⟩ = some (.string D) ∧ w'.cell? ⟨A, 0, none⟩ = some (.string PB) ∧ w'.cell? ⟨A, 1, none⟩ = some (.string X) ∧ Hid (LwS w A k D PB X w')) := fun V hV => (HRP.out V).mono fun e w' h => ⟨h.1, (hV.out.next h.2).full⟩
  have H26 : Hid (∀ V, Hid (LwS w A k D PB X V) → Calls Tryz.prog 26 #[.agg #[.int .i64 k, .string D]] V fun e w' => e = .returned (.string T) ∧ w'.cell? ⟨w.heap.size, 0, none⟩ = some (.int .i64 k) ∧ w'.cell? ⟨w.heap.size, 1, none⟩ = some (.string D) ∧ w'.cell? ⟨A, 0, none⟩ = some (.string PB) ∧ w'.cell? ⟨A, 1, none⟩ = some (.string X) ∧ Hid (LwS w A k D PB X w')) := fun V hV => (HTX.out V).mono fun e w' h => ⟨h.1, (hV.out.next h.2).full⟩
  clear HE5 HF5 HB5 HG5
  go_wp2_with fail
  go_region_held3 (fun w' => w'.cell? ⟨w.heap.size, 0, none⟩ = some (.int .i64 k) ∧ w'.cell? ⟨w.heap.size, 1, none⟩ = some (.string D) ∧ w'.cell? ⟨A, 0, none⟩ = some (.string PB) ∧ w'.cell? ⟨A, 1, none⟩ = some (.string X) ∧ Hid (LwS w A k D PB X w'))
    (first | exact hS26 | exact hS16 | exact hS14 | exact LwS.full (Hid.out (by repeat (first | exact HS5 | exact hS26.2.2.2.2 | exact hS16.2.2.2.2 | exact hS14.2.2.2.2 | apply LwS.drew | apply LwS.drewN))))
    (first
      | (go_at_call 14; with_reducible refine (H14.out _ (by repeat (first | exact HS5 | exact hS26.2.2.2.2 | exact hS16.2.2.2.2 | exact hS14.2.2.2.2 | apply LwS.drew | apply LwS.drewN))).mono ?_; rintro e w6 ⟨rfl, hS14⟩)
      | (go_at_call 16; with_reducible refine (H16.out _ (by repeat (first | exact HS5 | exact hS26.2.2.2.2 | exact hS16.2.2.2.2 | exact hS14.2.2.2.2 | apply LwS.drew | apply LwS.drewN))).mono ?_; rintro e w7 ⟨rfl, hS16⟩)
      | (go_at_call 26; with_reducible refine (H26.out _ (by repeat (first | exact HS5 | exact hS26.2.2.2.2 | exact hS16.2.2.2.2 | exact hS14.2.2.2.2 | apply LwS.drew | apply LwS.drewN))).mono ?_; rintro e w8 ⟨rfl, hS26⟩))
  clear hS14 hS16 HS5 H14 H16
  obtain ⟨c0, c1, c2, c3, HS8⟩ := hS26
  have HOK : Hid (∀ V, Hid (LwS w A k D PB X V) → Calls Tryz.prog 8 #[v, .int .i64 10] V fun e w' => ∃ g cap, e = .returned (.slice (some ⟨g, 0, none⟩) us.length cap) ∧ w'.ownsRow (A + 1) 48 2 (.slice (some ⟨g, 0, none⟩) us.length cap) us.length (flatF us) ∧ A + 1 ≤ g ∧ Below V.heap.size V w' ∧ w'.cell? ⟨A, 0, none⟩ = some (.string PB) ∧ w'.cell? ⟨A, 1, none⟩ = some (.string X) ∧ Hid (LwS w A k D PB X w')) := fun V hV => (HSH.out V (HV.out.below hV.out.1)).mono fun e w' ⟨⟨g, cap, he, hg, hgl, hcap, hFA, hRo⟩, hb⟩ => by
    have h1 : A + 1 ≤ g := Nat.le_trans hV.out.lt hg
    exact ⟨g, cap, he, (own_of hFA hRo hcap h1).1, h1, hb, (hV.out.next hb).full.2.2⟩
  have HM1 : Hid (us.length + 1 ≤ maxLen) := by unfold Hid maxLen; omega
  have HM2 : Hid ((us.length + 1) * 32 ≤ 140737488355328) := by unfold Hid; omega
  have HFZ : Hid (∀ f ∈ us ++ [(PB, X)], f.2.size ≤ 1000000) := fun f hf => by
    rcases List.mem_append.1 hf with h | h
    · have := HS4.out f h; omega
    · rw [List.mem_singleton.1 h]; show X.size ≤ _; omega
  have HRQ : Hid (∀ gs x, Apart (us ++ [(PB, X)]) → gs.Perm (us ++ [(PB, X)]) → ReadQ gs ID x → x = (k.toNat, D.data.toList, 0)) := fun gs x h1 h2 h3 => HRF'.out X ID us gs x HX.out HI2.out (by rw [← HPB.out]; exact h1) (by rw [← HPB.out]; exact h2) h3
  have HLN : Hid ((us ++ [(PB, X)]).length = us.length + 1) := by unfold Hid; simp
  have HNW : Hid (∀ V v', V.ownsRow (A + 1) 48 2 v' (us.length + 1) (flatF us ++ [.string PB, .string X]) → Hid (LwS w A k D PB X V) → Calls Tryz.prog 10 #[v'] V fun e w' => ∃ p n, e = .returned (.tuple #[.pointer p, .int .i64 n]) ∧ LNewQ (us ++ [(PB, X)]) p n w' ∧ w'.cell? ⟨A, 0, none⟩ = some (.string PB) ∧ w'.cell? ⟨A, 1, none⟩ = some (.string X) ∧ Hid (LwS w A k D PB X w')) := fun V v' ho hS => by
    have hn : v' ≠ .slice none 0 0 := by
      rintro rfl
      rcases ho.2 with ⟨_, h⟩ | ⟨_,_,_, h, _⟩
      · omega
      · cases h
    obtain ⟨g2, cap2, rfl, _,_, hg2, hFA2⟩ := (OwnR.more (f := (PB, X)) ho hn).shape
    have hsz2 : sizeF (us ++ [(PB, X)]) ≤ 100000 := by
      rw [sizeF_more]
      have h1 := HSZ.out
      show sizeF us + X.size ≤ _
      omega
    refine (new_anyO g2 0 cap2 (us ++ [(PB, X)]) V hg2 hFA2 (by omega) (by rw [HLN.out]; omega)).mono fun e w' ⟨hp, hb⟩ => ?_
    have hf := (hS.out.next hb).full.2.2
    rcases hp with ⟨_, rfl⟩ | ⟨_,_, rfl⟩ | ⟨_, hok, gs, q, b, c, hperm, hrise, hfold, _,_, rfl⟩
    · exact ⟨none, 2, rfl, .inl (by decide), hf⟩
    · exact ⟨none, 4, rfl, .inl (by decide), hf⟩
    · exact ⟨some ⟨q, 0, none⟩, 0, rfl, .inr ⟨rfl, gs, q, b, c, rfl, hperm, hrise, hok.2.1, hfold⟩, hf⟩
  clear HSH HV b1 b2 b3 HAW HRP HRF' HS4 HSZ
  go_wp2_with fail
  go_cut [11, 12] (fun s h wx => ∃ (p : Option Addr) (n : Int), s = .pointer p ∧ h = .int .i64 n ∧ LNewQ (us ++ [(PB, X)]) p n wx ∧ LwS w A k D PB X wx)
  case first =>
    refine wp_region_noPanic ?_
    refine wp_region_held_drew (S := (fun w' => w'.cell? ⟨A, 0, none⟩ = some (.string PB) ∧ w'.cell? ⟨A, 1, none⟩ = some (.string X) ∧ Hid (LwS w A k D PB X w'))) (by kernel_rfl) ?_ (fun hHeld => ?_)
    · exact (LwS.full (LwS.drew HS8).out).2.2
    refine wpAnyH_take (i := 0) (v := ?_) rfl (by kernel_rfl) (by kernel_rfl) (by kernel_rfl) (fun _ _ _ h => h) (Or.inl ⟨by kernel_rfl, ?_⟩) (by assumption) ?_
    rotate_left
    · intro w hSw
      clear hSw
      go_simp
      try with_reducible rfl
    change wpAnyH _ _ _ _ _ _ _ (⟨#[_,_,_,_,_,_,_,_,_,_,_,_,_,_,_,_,_,_,_,_,_,_,_,_,_,_,_,_,_,_,_,_,_,_,_,_,_,_,_,_,_,_,_,_,_,_,_,_,_,_,_,_,_,_,_,_,_,_,_,_,_,_,_,_,_,_,_,_,_,_,_,_,_,_,_,_,_,_,_,_,_,_,_,_,_,_,_,_,_,_,_,_,_,_,_,_,_,_,_,_,_,_,_,_,_,_,_,_,_,_,_,_,_,_,_,_,_,_,_,_,_,_,_,_,_,_,_,_], _⟩ : Act) _
    refine wpAnyH_take (i := 2) (v := ?_) rfl (by kernel_rfl) (by kernel_rfl) (by kernel_rfl) (fun _ _ _ h => h) (Or.inl ⟨by kernel_rfl, ?_⟩) (by assumption) ?_
    rotate_left
    · intro w hSw
      obtain ⟨c2, c3, _⟩ := hSw
      go_simp
      try with_reducible rfl
    change wpAnyH _ _ _ _ _ _ _ (⟨#[_,_,_,_,_,_,_,_,_,_,_,_,_,_,_,_,_,_,_,_,_,_,_,_,_,_,_,_,_,_,_,_,_,_,_,_,_,_,_,_,_,_,_,_,_,_,_,_,_,_,_,_,_,_,_,_,_,_,_,_,_,_,_,_,_,_,_,_,_,_,_,_,_,_,_,_,_,_,_,_,_,_,_,_,_,_,_,_,_,_,_,_,_,_,_,_,_,_,_,_,_,_,_,_,_,_,_,_,_,_,_,_,_,_,_,_,_,_,_,_,_,_,_,_,_,_,_,_], _⟩ : Act) _
    refine wpAnyH_ready (rs := [1, 3]) (by kernel_rfl) (by simp) ?_
    refine AllReadyH.cons rfl (fun K hK => ?_) (AllReadyH.cons rfl (fun K hK => ?_) AllReadyH.nil)
    · go_simp
      with_reducible refine (HOK.out _ hHeld.2.2).mono ?_
      rintro _ w9 ⟨g, cap, rfl, hown, hg, hb9, hS9⟩
      refine hK.out _ _ hS9 (fun hHeld => ?_)
      clear hK K hS9
      change wpAnyH _ _ _ _ _ _ _ (⟨#[_,_,_,_,_,_,_,_,_,_,_,_,_,_,_,_,_,_,_,_,_,_,_,_,_,_,_,_,_,_,_,_,_,_,_,_,_,_,_,_,_,_,_,_,_,_,_,_,_,_,_,_,_,_,_,_,_,_,_,_,_,_,_,_,_,_,_,_,_,_,_,_,_,_,_,_,_,_,_,_,_,_,_,_,_,_,_,_,_,_,_,_,_,_,_,_,_,_,_,_,_,_,_,_,_,_,_,_,_,_,_,_,_,_,_,_,_,_,_,_,_,_,_,_,_,_,_,_], _⟩ : Act) _
      refine wpAnyH_ready (rs := [3]) (by kernel_rfl) (by simp) ?_
      refine AllReadyH.cons rfl (fun K hK => ?_) AllReadyH.nil
      go_simp
      refine hK.out _ _ (LwS.full (LwS.alloc hHeld.2.2).out).2.2 (fun hHeld => ?_)
      clear hK K
      change wpAnyH _ _ _ _ _ _ _ (⟨#[_,_,_,_,_,_,_,_,_,_,_,_,_,_,_,_,_,_,_,_,_,_,_,_,_,_,_,_,_,_,_,_,_,_,_,_,_,_,_,_,_,_,_,_,_,_,_,_,_,_,_,_,_,_,_,_,_,_,_,_,_,_,_,_,_,_,_,_,_,_,_,_,_,_,_,_,_,_,_,_,_,_,_,_,_,_,_,_,_,_,_,_,_,_,_,_,_,_,_,_,_,_,_,_,_,_,_,_,_,_,_,_,_,_,_,_,_,_,_,_,_,_,_,_,_,_,_,_], _⟩ : Act) _
      refine wpAnyH_ready (rs := [4]) (by kernel_rfl) (by simp) ?_
      refine AllReadyH.cons rfl (fun K hK => ?_) AllReadyH.nil
      refine step_append_own rfl _ _ 22 rfl (A + 1) 48 i0 (.agg #[.string .empty, .string .empty]) 2 32 Tryz.underlying22 hi0 hz0 hz1 hz2 rfl (by decide) (.slice (some ⟨g, 0, none⟩) us.length cap) us.length (flatF us) rfl (World.ownsRow.alloc hown _) ⟨w9.heap.size, 0, none⟩ 1 1 [.string PB, .string X] (by rfl) rfl (cell_new2L rfl _ _) (one_two PB X) HM1.out HM2.out hHeld.2.2.out.lt ?_
      intro v' w10 hown' hgrow
      refine hK.out _ _ (LwS.full (LwS.grown hHeld.2.2.out hgrow hg)).2.2 (fun hHeld => ?_)
      clear hK K hgrow
      change wpAnyH _ _ _ _ _ _ _ (⟨#[_,_,_,_,_,_,_,_,_,_,_,_,_,_,_,_,_,_,_,_,_,_,_,_,_,_,_,_,_,_,_,_,_,_,_,_,_,_,_,_,_,_,_,_,_,_,_,_,_,_,_,_,_,_,_,_,_,_,_,_,_,_,_,_,_,_,_,_,_,_,_,_,_,_,_,_,_,_,_,_,_,_,_,_,_,_,_,_,_,_,_,_,_,_,_,_,_,_,_,_,_,_,_,_,_,_,_,_,_,_,_,_,_,_,_,_,_,_,_,_,_,_,_,_,_,_,_,_], _⟩ : Act) _
      refine wpAnyH_ready (rs := [5]) (by kernel_rfl) (by simp) ?_
      refine AllReadyH.cons rfl (fun K hK => ?_) AllReadyH.nil
      go_simp
      with_reducible refine (HNW.out _ _ hown' hHeld.2.2).mono ?_
      rintro _ w11 ⟨p, n, rfl, hnq, hS11⟩
      refine hK.out _ _ hS11 (fun hHeld => ?_)
      clear hK K hS11
      change wpAnyH _ _ _ _ _ _ _ (⟨#[_,_,_,_,_,_,_,_,_,_,_,_,_,_,_,_,_,_,_,_,_,_,_,_,_,_,_,_,_,_,_,_,_,_,_,_,_,_,_,_,_,_,_,_,_,_,_,_,_,_,_,_,_,_,_,_,_,_,_,_,_,_,_,_,_,_,_,_,_,_,_,_,_,_,_,_,_,_,_,_,_,_,_,_,_,_,_,_,_,_,_,_,_,_,_,_,_,_,_,_,_,_,_,_,_,_,_,_,_,_,_,_,_,_,_,_,_,_,_,_,_,_,_,_,_,_,_,_], _⟩ : Act) _
      refine wpAnyH_take (i := 6) (v := ?_) rfl (by kernel_rfl) (by kernel_rfl) (by kernel_rfl) (fun _ _ _ h => h) (Or.inl ⟨by kernel_rfl, ?_⟩) (by assumption) ?_
      rotate_left
      · intro w hSw
        clear hSw
        go_simp
        try with_reducible rfl
      change wpAnyH _ _ _ _ _ _ _ (⟨#[_,_,_,_,_,_,_,_,_,_,_,_,_,_,_,_,_,_,_,_,_,_,_,_,_,_,_,_,_,_,_,_,_,_,_,_,_,_,_,_,_,_,_,_,_,_,_,_,_,_,_,_,_,_,_,_,_,_,_,_,_,_,_,_,_,_,_,_,_,_,_,_,_,_,_,_,_,_,_,_,_,_,_,_,_,_,_,_,_,_,_,_,_,_,_,_,_,_,_,_,_,_,_,_,_,_,_,_,_,_,_,_,_,_,_,_,_,_,_,_,_,_,_,_,_,_,_,_], _⟩ : Act) _
      refine wpAnyH_take (i := 7) (v := ?_) rfl (by kernel_rfl) (by kernel_rfl) (by kernel_rfl) (fun _ _ _ h => h) (Or.inl ⟨by kernel_rfl, ?_⟩) (by assumption) ?_
      rotate_left
      · intro w hSw
        clear hSw
        go_simp
        try with_reducible rfl
      change wpAnyH _ _ _ _ _ _ _ (⟨#[_,_,_,_,_,_,_,_,_,_,_,_,_,_,_,_,_,_,_,_,_,_,_,_,_,_,_,_,_,_,_,_,_,_,_,_,_,_,_,_,_,_,_,_,_,_,_,_,_,_,_,_,_,_,_,_,_,_,_,_,_,_,_,_,_,_,_,_,_,_,_,_,_,_,_,_,_,_,_,_,_,_,_,_,_,_,_,_,_,_,_,_,_,_,_,_,_,_,_,_,_,_,_,_,_,_,_,_,_,_,_,_,_,_,_,_,_,_,_,_,_,_,_,_,_,_,_,_], _⟩ : Act) _
      refine wpAnyH_take (i := 8) (v := ?_) rfl (by kernel_rfl) (by kernel_rfl) (by kernel_rfl) (fun _ _ _ h => h) (Or.inl ⟨by kernel_rfl, ?_⟩) (by assumption) ?_
      rotate_left
      · intro w hSw
        clear hSw
        go_simp
        try with_reducible rfl
      change wpAnyH _ _ _ _ _ _ _ (⟨#[_,_,_,_,_,_,_,_,_,_,_,_,_,_,_,_,_,_,_,_,_,_,_,_,_,_,_,_,_,_,_,_,_,_,_,_,_,_,_,_,_,_,_,_,_,_,_,_,_,_,_,_,_,_,_,_,_,_,_,_,_,_,_,_,_,_,_,_,_,_,_,_,_,_,_,_,_,_,_,_,_,_,_,_,_,_,_,_,_,_,_,_,_,_,_,_,_,_,_,_,_,_,_,_,_,_,_,_,_,_,_,_,_,_,_,_,_,_,_,_,_,_,_,_,_,_,_,_], _⟩ : Act) _
      refine wpAnyH_take (i := 9) (v := ?_) rfl (by kernel_rfl) (by kernel_rfl) (by kernel_rfl) (fun _ _ _ h => h) (Or.inl ⟨by kernel_rfl, ?_⟩) (by assumption) ?_
      rotate_left
      · intro w hSw
        clear hSw
        go_simp
        try with_reducible rfl
      change wpAnyH _ _ _ _ _ _ _ (⟨#[_,_,_,_,_,_,_,_,_,_,_,_,_,_,_,_,_,_,_,_,_,_,_,_,_,_,_,_,_,_,_,_,_,_,_,_,_,_,_,_,_,_,_,_,_,_,_,_,_,_,_,_,_,_,_,_,_,_,_,_,_,_,_,_,_,_,_,_,_,_,_,_,_,_,_,_,_,_,_,_,_,_,_,_,_,_,_,_,_,_,_,_,_,_,_,_,_,_,_,_,_,_,_,_,_,_,_,_,_,_,_,_,_,_,_,_,_,_,_,_,_,_,_,_,_,_,_,_], _⟩ : Act) _
      refine wpAnyH_take (i := 10) (v := ?_) rfl (by kernel_rfl) (by kernel_rfl) (by kernel_rfl) (fun _ _ _ h => h) (Or.inl ⟨by kernel_rfl, ?_⟩) (by assumption) ?_
      rotate_left
      · intro w hSw
        clear hSw
        go_simp
        try with_reducible rfl
      change wpAnyH _ _ _ _ _ _ _ (⟨#[_,_,_,_,_,_,_,_,_,_,_,_,_,_,_,_,_,_,_,_,_,_,_,_,_,_,_,_,_,_,_,_,_,_,_,_,_,_,_,_,_,_,_,_,_,_,_,_,_,_,_,_,_,_,_,_,_,_,_,_,_,_,_,_,_,_,_,_,_,_,_,_,_,_,_,_,_,_,_,_,_,_,_,_,_,_,_,_,_,_,_,_,_,_,_,_,_,_,_,_,_,_,_,_,_,_,_,_,_,_,_,_,_,_,_,_,_,_,_,_,_,_,_,_,_,_,_,_], _⟩ : Act) _
      refine wpAnyH_done (by kernel_rfl) ?_ _
      refine NoPanic.normal ?_
      go_wp2_with fail
      go_meet
      exact ⟨p, n, rfl, rfl, hnq, hHeld.2.2.out⟩
    · go_simp
      refine hK.out _ _ (LwS.full (LwS.alloc hHeld.2.2).out).2.2 (fun hHeld => ?_)
      clear hK K
      change wpAnyH _ _ _ _ _ _ _ (⟨#[_,_,_,_,_,_,_,_,_,_,_,_,_,_,_,_,_,_,_,_,_,_,_,_,_,_,_,_,_,_,_,_,_,_,_,_,_,_,_,_,_,_,_,_,_,_,_,_,_,_,_,_,_,_,_,_,_,_,_,_,_,_,_,_,_,_,_,_,_,_,_,_,_,_,_,_,_,_,_,_,_,_,_,_,_,_,_,_,_,_,_,_,_,_,_,_,_,_,_,_,_,_,_,_,_,_,_,_,_,_,_,_,_,_,_,_,_,_,_,_,_,_,_,_,_,_,_,_], _⟩ : Act) _
      refine wpAnyH_ready (rs := [1]) (by kernel_rfl) (by simp) ?_
      refine AllReadyH.cons rfl (fun K hK => ?_) AllReadyH.nil
      go_simp
      with_reducible refine (HOK.out _ hHeld.2.2).mono ?_
      rintro _ w9 ⟨g, cap, rfl, hown, hg, hb9, hS9⟩
      refine hK.out _ _ hS9 (fun hHeld => ?_)
      clear hK K hS9
      change wpAnyH _ _ _ _ _ _ _ (⟨#[_,_,_,_,_,_,_,_,_,_,_,_,_,_,_,_,_,_,_,_,_,_,_,_,_,_,_,_,_,_,_,_,_,_,_,_,_,_,_,_,_,_,_,_,_,_,_,_,_,_,_,_,_,_,_,_,_,_,_,_,_,_,_,_,_,_,_,_,_,_,_,_,_,_,_,_,_,_,_,_,_,_,_,_,_,_,_,_,_,_,_,_,_,_,_,_,_,_,_,_,_,_,_,_,_,_,_,_,_,_,_,_,_,_,_,_,_,_,_,_,_,_,_,_,_,_,_,_], _⟩ : Act) _
      refine wpAnyH_ready (rs := [4]) (by kernel_rfl) (by simp) ?_
      refine AllReadyH.cons rfl (fun K hK => ?_) AllReadyH.nil
      refine step_append_own rfl _ _ 22 rfl (A + 1) 48 i0 (.agg #[.string .empty, .string .empty]) 2 32 Tryz.underlying22 hi0 hz0 hz1 hz2 rfl (by decide) (.slice (some ⟨g, 0, none⟩) us.length cap) us.length (flatF us) rfl hown ⟨w8.heap.size, 0, none⟩ 1 1 [.string PB, .string X] (by rfl) rfl (tmp_below hb9 (cell_new2L rfl _ _)) (one_two PB X) HM1.out HM2.out hHeld.2.2.out.lt ?_
      intro v' w10 hown' hgrow
      refine hK.out _ _ (LwS.full (LwS.grown hHeld.2.2.out hgrow hg)).2.2 (fun hHeld => ?_)
      clear hK K hgrow
      change wpAnyH _ _ _ _ _ _ _ (⟨#[_,_,_,_,_,_,_,_,_,_,_,_,_,_,_,_,_,_,_,_,_,_,_,_,_,_,_,_,_,_,_,_,_,_,_,_,_,_,_,_,_,_,_,_,_,_,_,_,_,_,_,_,_,_,_,_,_,_,_,_,_,_,_,_,_,_,_,_,_,_,_,_,_,_,_,_,_,_,_,_,_,_,_,_,_,_,_,_,_,_,_,_,_,_,_,_,_,_,_,_,_,_,_,_,_,_,_,_,_,_,_,_,_,_,_,_,_,_,_,_,_,_,_,_,_,_,_,_], _⟩ : Act) _
      refine wpAnyH_ready (rs := [5]) (by kernel_rfl) (by simp) ?_
      refine AllReadyH.cons rfl (fun K hK => ?_) AllReadyH.nil
      go_simp
      with_reducible refine (HNW.out _ _ hown' hHeld.2.2).mono ?_
      rintro _ w11 ⟨p, n, rfl, hnq, hS11⟩
      refine hK.out _ _ hS11 (fun hHeld => ?_)
      clear hK K hS11
      change wpAnyH _ _ _ _ _ _ _ (⟨#[_,_,_,_,_,_,_,_,_,_,_,_,_,_,_,_,_,_,_,_,_,_,_,_,_,_,_,_,_,_,_,_,_,_,_,_,_,_,_,_,_,_,_,_,_,_,_,_,_,_,_,_,_,_,_,_,_,_,_,_,_,_,_,_,_,_,_,_,_,_,_,_,_,_,_,_,_,_,_,_,_,_,_,_,_,_,_,_,_,_,_,_,_,_,_,_,_,_,_,_,_,_,_,_,_,_,_,_,_,_,_,_,_,_,_,_,_,_,_,_,_,_,_,_,_,_,_,_], _⟩ : Act) _
      refine wpAnyH_take (i := 6) (v := ?_) rfl (by kernel_rfl) (by kernel_rfl) (by kernel_rfl) (fun _ _ _ h => h) (Or.inl ⟨by kernel_rfl, ?_⟩) (by assumption) ?_
      rotate_left
      · intro w hSw
        clear hSw
        go_simp
        try with_reducible rfl
      change wpAnyH _ _ _ _ _ _ _ (⟨#[_,_,_,_,_,_,_,_,_,_,_,_,_,_,_,_,_,_,_,_,_,_,_,_,_,_,_,_,_,_,_,_,_,_,_,_,_,_,_,_,_,_,_,_,_,_,_,_,_,_,_,_,_,_,_,_,_,_,_,_,_,_,_,_,_,_,_,_,_,_,_,_,_,_,_,_,_,_,_,_,_,_,_,_,_,_,_,_,_,_,_,_,_,_,_,_,_,_,_,_,_,_,_,_,_,_,_,_,_,_,_,_,_,_,_,_,_,_,_,_,_,_,_,_,_,_,_,_], _⟩ : Act) _
      refine wpAnyH_take (i := 7) (v := ?_) rfl (by kernel_rfl) (by kernel_rfl) (by kernel_rfl) (fun _ _ _ h => h) (Or.inl ⟨by kernel_rfl, ?_⟩) (by assumption) ?_
      rotate_left
      · intro w hSw
        clear hSw
        go_simp
        try with_reducible rfl
      change wpAnyH _ _ _ _ _ _ _ (⟨#[_,_,_,_,_,_,_,_,_,_,_,_,_,_,_,_,_,_,_,_,_,_,_,_,_,_,_,_,_,_,_,_,_,_,_,_,_,_,_,_,_,_,_,_,_,_,_,_,_,_,_,_,_,_,_,_,_,_,_,_,_,_,_,_,_,_,_,_,_,_,_,_,_,_,_,_,_,_,_,_,_,_,_,_,_,_,_,_,_,_,_,_,_,_,_,_,_,_,_,_,_,_,_,_,_,_,_,_,_,_,_,_,_,_,_,_,_,_,_,_,_,_,_,_,_,_,_,_], _⟩ : Act) _
      refine wpAnyH_take (i := 8) (v := ?_) rfl (by kernel_rfl) (by kernel_rfl) (by kernel_rfl) (fun _ _ _ h => h) (Or.inl ⟨by kernel_rfl, ?_⟩) (by assumption) ?_
      rotate_left
      · intro w hSw
        clear hSw
        go_simp
        try with_reducible rfl
      change wpAnyH _ _ _ _ _ _ _ (⟨#[_,_,_,_,_,_,_,_,_,_,_,_,_,_,_,_,_,_,_,_,_,_,_,_,_,_,_,_,_,_,_,_,_,_,_,_,_,_,_,_,_,_,_,_,_,_,_,_,_,_,_,_,_,_,_,_,_,_,_,_,_,_,_,_,_,_,_,_,_,_,_,_,_,_,_,_,_,_,_,_,_,_,_,_,_,_,_,_,_,_,_,_,_,_,_,_,_,_,_,_,_,_,_,_,_,_,_,_,_,_,_,_,_,_,_,_,_,_,_,_,_,_,_,_,_,_,_,_], _⟩ : Act) _
      refine wpAnyH_take (i := 9) (v := ?_) rfl (by kernel_rfl) (by kernel_rfl) (by kernel_rfl) (fun _ _ _ h => h) (Or.inl ⟨by kernel_rfl, ?_⟩) (by assumption) ?_
      rotate_left
      · intro w hSw
        clear hSw
        go_simp
        try with_reducible rfl
      change wpAnyH _ _ _ _ _ _ _ (⟨#[_,_,_,_,_,_,_,_,_,_,_,_,_,_,_,_,_,_,_,_,_,_,_,_,_,_,_,_,_,_,_,_,_,_,_,_,_,_,_,_,_,_,_,_,_,_,_,_,_,_,_,_,_,_,_,_,_,_,_,_,_,_,_,_,_,_,_,_,_,_,_,_,_,_,_,_,_,_,_,_,_,_,_,_,_,_,_,_,_,_,_,_,_,_,_,_,_,_,_,_,_,_,_,_,_,_,_,_,_,_,_,_,_,_,_,_,_,_,_,_,_,_,_,_,_,_,_,_], _⟩ : Act) _
      refine wpAnyH_take (i := 10) (v := ?_) rfl (by kernel_rfl) (by kernel_rfl) (by kernel_rfl) (fun _ _ _ h => h) (Or.inl ⟨by kernel_rfl, ?_⟩) (by assumption) ?_
      rotate_left
      · intro w hSw
        clear hSw
        go_simp
        try with_reducible rfl
      change wpAnyH _ _ _ _ _ _ _ (⟨#[_,_,_,_,_,_,_,_,_,_,_,_,_,_,_,_,_,_,_,_,_,_,_,_,_,_,_,_,_,_,_,_,_,_,_,_,_,_,_,_,_,_,_,_,_,_,_,_,_,_,_,_,_,_,_,_,_,_,_,_,_,_,_,_,_,_,_,_,_,_,_,_,_,_,_,_,_,_,_,_,_,_,_,_,_,_,_,_,_,_,_,_,_,_,_,_,_,_,_,_,_,_,_,_,_,_,_,_,_,_,_,_,_,_,_,_,_,_,_,_,_,_,_,_,_,_,_,_], _⟩ : Act) _
      refine wpAnyH_done (by kernel_rfl) ?_ _
      refine NoPanic.normal ?_
      go_wp2_with fail
      go_meet
      exact ⟨p, n, rfl, rfl, hnq, hHeld.2.2.out⟩
  case rest =>
    obtain ⟨p, n, rfl, rfl, hnq, hS11⟩ := hcut
    have HS11 := hidM hS11
    clear hS11
    rcases hnq with hn | ⟨rfl, gs, q, b, c, rfl, hperm, hrise, hap, hfold⟩
    · have b1 : (n == 0) = false := by simp only [beq_eq_false_iff_ne, ne_eq]; exact hn
      clear hn
      go_wp2
      go_ret
      exact ⟨by first | rfl | simp, HS11.out.1⟩
    · have HR := hidM (HRD.out _ q b c gs hfold (by rw [hperm.length_eq, HLN.out]; omega) hrise.rise (fun f hf => HFZ.out f (hperm.mem_iff.1 hf)) (HGw.out.below HS11.out.1))
      have HRX := hidM (fun x (h : ReadQ gs ID x) => HRQ.out gs x hap hperm h)
      clear hap hperm hrise hfold HRD HRQ HFZ HNW HOK
      go_wp2_with fail
      refine HR.out.mono ?_
      rintro _ w12 ⟨⟨x, hx, rfl⟩, hb12⟩
      obtain rfl := HRX.out x hx
      rw [objV_back HKN.out]
      have HS12 := hidM (HS11.out.next hb12)
      clear hb12 HR HRX hx HS11
      have HS13 := hidM (HS12.out.next ((Below.refl _ w12).alloc (Nat.le_refl _) (.cells #[.int .i64 k, .string D] 32)))
      have HX13 : Hid ((w12.alloc (.cells #[.int .i64 k, .string D] 32)).heap[w12.heap.size]? = some (.cells #[.int .i64 k, .string D] 32 (0, 0))) := heap_alloc_new _ _
      obtain ⟨c0, c1, c2, c3, _⟩ := HS13.out.full
      clear HS12
      go_wp2_with fail
      have HX14 : Hid (LwX w A w12.heap.size k D PB X (w12.alloc (.cells #[.int .i64 k, .string D] 32))) := ⟨HS13.out, HX13.out⟩
      clear HS13 HX13
      generalize w12.alloc (.cells #[.int .i64 k, .string D] 32) = W13 at *
      generalize w12.heap.size = G at *
      clear c0 c1 c2 c3
      have H26 : Hid (∀ V, Hid (LwX w A G k D PB X V) → Calls Tryz.prog 26 #[.agg #[.int .i64 k, .string D]] V fun e w' => e = .returned (.string T) ∧ Below V.heap.size V w' ∧ w'.cell? ⟨w.heap.size, 0, none⟩ = some (.int .i64 k) ∧ w'.cell? ⟨w.heap.size, 1, none⟩ = some (.string D) ∧ Hid (LwX w A G k D PB X w')) := fun V hV => (HTX.out V).mono fun e w' h => ⟨h.1, h.2, (hV.out.next h.2).full⟩
      have H28 : Hid (∀ V, Hid (LwX w A G k D PB X V) → Calls Tryz.prog 28 #[.string T] V fun e w' => e = .returned (.string S) ∧ Below V.heap.size V w' ∧ w'.cell? ⟨w.heap.size, 0, none⟩ = some (.int .i64 k) ∧ w'.cell? ⟨w.heap.size, 1, none⟩ = some (.string D) ∧ Hid (LwX w A G k D PB X w')) := fun V hV => (HST.out V).mono fun e w' h => ⟨h.1, h.2, (hV.out.next h.2).full⟩
      have H27 : Hid (∀ V, Hid (LwX w A G k D PB X V) → Calls Tryz.prog 27 #[.string S, .string T] V fun e w' => e = .returned (.string P) ∧ Below V.heap.size V w' ∧ w'.cell? ⟨w.heap.size, 0, none⟩ = some (.int .i64 k) ∧ w'.cell? ⟨w.heap.size, 1, none⟩ = some (.string D) ∧ Hid (LwX w A G k D PB X w')) := fun V hV => (HFR.out V).mono fun e w' h => ⟨h.1, h.2, (hV.out.next h.2).full⟩
      have H12 : Hid (∀ V, Hid (LwX w A G k D PB X V) → Calls Tryz.prog 12 #[.string P] V fun e w' => e = .returned (.tuple #[.agg #[.int .i64 k, .string D], .int .i64 0]) ∧ Below V.heap.size V w' ∧ w'.cell? ⟨w.heap.size, 0, none⟩ = some (.int .i64 k) ∧ w'.cell? ⟨w.heap.size, 1, none⟩ = some (.string D) ∧ Hid (LwX w A G k D PB X w')) := fun V hV => (HUN.out V (HGw.out.below hV.out.1.1)).mono fun e w' ⟨⟨x, hx, he⟩, hb⟩ => by
        obtain rfl := HUF.out _ x HFP.out hx
        rw [objV_back HKN.out] at he
        exact ⟨he, hb, (hV.out.next hb).full⟩
      clear HTX HST HFR HUN HUF HFP
      have hz32 := zero32
      go_cut [15, 16] (fun s h wx => ∃ B, s = .pointer (some ⟨B, 0, none⟩) ∧ h = .int .i64 0 ∧ LwX w A G k D PB X wx ∧ wx.heap[B]? = some (.cells #[.int .i64 k, .string D] 32 (0, 0)))
      case first =>
        refine wp_region_noPanic ?_
        refine wp_region_held_drew (S := (fun w' => w'.cell? ⟨w.heap.size, 0, none⟩ = some (.int .i64 k) ∧ w'.cell? ⟨w.heap.size, 1, none⟩ = some (.string D) ∧ Hid (LwX w A G k D PB X w'))) (by kernel_rfl) ?_ (fun hHeld => ?_)
        · exact LwX.full (LwX.drew HX14).out
        refine wpAnyH_take (i := 0) (v := ?_) rfl (by kernel_rfl) (by kernel_rfl) (by kernel_rfl) (fun _ _ _ h => h) (Or.inl ⟨by kernel_rfl, ?_⟩) (by assumption) ?_
        rotate_left
        · intro w hSw
          obtain ⟨c0, c1, _⟩ := hSw
          go_simp
          try with_reducible rfl
        change wpAnyH _ _ _ _ _ _ _ (⟨#[_,_,_,_,_,_,_,_,_,_,_,_,_,_,_,_,_,_,_,_,_,_,_,_,_,_,_,_,_,_,_,_,_,_,_,_,_,_,_,_,_,_,_,_,_,_,_,_,_,_,_,_,_,_,_,_,_,_,_,_,_,_,_,_,_,_,_,_,_,_,_,_,_,_,_,_,_,_,_,_,_,_,_,_,_,_,_,_,_,_,_,_,_,_,_,_,_,_,_,_,_,_,_,_,_,_,_,_,_,_,_,_,_,_,_,_,_,_,_,_,_,_,_,_,_,_,_,_], _⟩ : Act) _
        refine wpAnyH_take (i := 3) (v := ?_) rfl (by kernel_rfl) (by kernel_rfl) (by kernel_rfl) (fun _ _ _ h => h) (Or.inl ⟨by kernel_rfl, ?_⟩) (by assumption) ?_
        rotate_left
        · intro w hSw
          obtain ⟨c0, c1, _⟩ := hSw
          go_simp
          try with_reducible rfl
        change wpAnyH _ _ _ _ _ _ _ (⟨#[_,_,_,_,_,_,_,_,_,_,_,_,_,_,_,_,_,_,_,_,_,_,_,_,_,_,_,_,_,_,_,_,_,_,_,_,_,_,_,_,_,_,_,_,_,_,_,_,_,_,_,_,_,_,_,_,_,_,_,_,_,_,_,_,_,_,_,_,_,_,_,_,_,_,_,_,_,_,_,_,_,_,_,_,_,_,_,_,_,_,_,_,_,_,_,_,_,_,_,_,_,_,_,_,_,_,_,_,_,_,_,_,_,_,_,_,_,_,_,_,_,_,_,_,_,_,_,_], _⟩ : Act) _
        refine wpAnyH_ready (rs := [1, 10]) (by kernel_rfl) (by simp) ?_
        refine AllReadyH.cons rfl (fun K hK => ?_) (AllReadyH.cons rfl (fun K hK => ?_) AllReadyH.nil)
        · go_simp
          with_reducible refine (H26.out _ hHeld.2.2).mono ?_
          rintro _ V' ⟨rfl, hb, hS⟩
          clear hb
          refine hK.out _ _ hS (fun hHeld => ?_)
          clear hK K hS
          change wpAnyH _ _ _ _ _ _ _ (⟨#[_,_,_,_,_,_,_,_,_,_,_,_,_,_,_,_,_,_,_,_,_,_,_,_,_,_,_,_,_,_,_,_,_,_,_,_,_,_,_,_,_,_,_,_,_,_,_,_,_,_,_,_,_,_,_,_,_,_,_,_,_,_,_,_,_,_,_,_,_,_,_,_,_,_,_,_,_,_,_,_,_,_,_,_,_,_,_,_,_,_,_,_,_,_,_,_,_,_,_,_,_,_,_,_,_,_,_,_,_,_,_,_,_,_,_,_,_,_,_,_,_,_,_,_,_,_,_,_], _⟩ : Act) _
          refine wpAnyH_ready (rs := [2, 10]) (by kernel_rfl) (by simp) ?_
          refine AllReadyH.cons rfl (fun K hK => ?_) (AllReadyH.cons rfl (fun K hK => ?_) AllReadyH.nil)
          · go_simp
            with_reducible refine (H28.out _ hHeld.2.2).mono ?_
            rintro _ V' ⟨rfl, hb, hS⟩
            clear hb
            refine hK.out _ _ hS (fun hHeld => ?_)
            clear hK K hS
            change wpAnyH _ _ _ _ _ _ _ (⟨#[_,_,_,_,_,_,_,_,_,_,_,_,_,_,_,_,_,_,_,_,_,_,_,_,_,_,_,_,_,_,_,_,_,_,_,_,_,_,_,_,_,_,_,_,_,_,_,_,_,_,_,_,_,_,_,_,_,_,_,_,_,_,_,_,_,_,_,_,_,_,_,_,_,_,_,_,_,_,_,_,_,_,_,_,_,_,_,_,_,_,_,_,_,_,_,_,_,_,_,_,_,_,_,_,_,_,_,_,_,_,_,_,_,_,_,_,_,_,_,_,_,_,_,_,_,_,_,_], _⟩ : Act) _
            refine wpAnyH_ready (rs := [4, 10]) (by kernel_rfl) (by simp) ?_
            refine AllReadyH.cons rfl (fun K hK => ?_) (AllReadyH.cons rfl (fun K hK => ?_) AllReadyH.nil)
            · go_simp
              with_reducible refine (H26.out _ hHeld.2.2).mono ?_
              rintro _ V' ⟨rfl, hb, hS⟩
              clear hb
              refine hK.out _ _ hS (fun hHeld => ?_)
              clear hK K hS
              change wpAnyH _ _ _ _ _ _ _ (⟨#[_,_,_,_,_,_,_,_,_,_,_,_,_,_,_,_,_,_,_,_,_,_,_,_,_,_,_,_,_,_,_,_,_,_,_,_,_,_,_,_,_,_,_,_,_,_,_,_,_,_,_,_,_,_,_,_,_,_,_,_,_,_,_,_,_,_,_,_,_,_,_,_,_,_,_,_,_,_,_,_,_,_,_,_,_,_,_,_,_,_,_,_,_,_,_,_,_,_,_,_,_,_,_,_,_,_,_,_,_,_,_,_,_,_,_,_,_,_,_,_,_,_,_,_,_,_,_,_], _⟩ : Act) _
              refine wpAnyH_ready (rs := [5, 10]) (by kernel_rfl) (by simp) ?_
              refine AllReadyH.cons rfl (fun K hK => ?_) (AllReadyH.cons rfl (fun K hK => ?_) AllReadyH.nil)
              · go_simp
                with_reducible refine (H27.out _ hHeld.2.2).mono ?_
                rintro _ V' ⟨rfl, hb, hS⟩
                clear hb
                refine hK.out _ _ hS (fun hHeld => ?_)
                clear hK K hS
                change wpAnyH _ _ _ _ _ _ _ (⟨#[_,_,_,_,_,_,_,_,_,_,_,_,_,_,_,_,_,_,_,_,_,_,_,_,_,_,_,_,_,_,_,_,_,_,_,_,_,_,_,_,_,_,_,_,_,_,_,_,_,_,_,_,_,_,_,_,_,_,_,_,_,_,_,_,_,_,_,_,_,_,_,_,_,_,_,_,_,_,_,_,_,_,_,_,_,_,_,_,_,_,_,_,_,_,_,_,_,_,_,_,_,_,_,_,_,_,_,_,_,_,_,_,_,_,_,_,_,_,_,_,_,_,_,_,_,_,_,_], _⟩ : Act) _
                refine wpAnyH_ready (rs := [6, 10]) (by kernel_rfl) (by simp) ?_
                refine AllReadyH.cons rfl (fun K hK => ?_) (AllReadyH.cons rfl (fun K hK => ?_) AllReadyH.nil)
                · go_simp
                  with_reducible refine (H12.out _ hHeld.2.2).mono ?_
                  rintro _ V' ⟨rfl, hb, hS⟩
                  clear hb
                  refine hK.out _ _ hS (fun hHeld => ?_)
                  clear hK K hS
                  change wpAnyH _ _ _ _ _ _ _ (⟨#[_,_,_,_,_,_,_,_,_,_,_,_,_,_,_,_,_,_,_,_,_,_,_,_,_,_,_,_,_,_,_,_,_,_,_,_,_,_,_,_,_,_,_,_,_,_,_,_,_,_,_,_,_,_,_,_,_,_,_,_,_,_,_,_,_,_,_,_,_,_,_,_,_,_,_,_,_,_,_,_,_,_,_,_,_,_,_,_,_,_,_,_,_,_,_,_,_,_,_,_,_,_,_,_,_,_,_,_,_,_,_,_,_,_,_,_,_,_,_,_,_,_,_,_,_,_,_,_], _⟩ : Act) _
                  refine wpAnyH_take (i := 7) (v := ?_) rfl (by kernel_rfl) (by kernel_rfl) (by kernel_rfl) (fun _ _ _ h => h) (Or.inl ⟨by kernel_rfl, ?_⟩) (by assumption) ?_
                  rotate_left
                  · intro w hSw
                    clear hSw
                    go_simp
                    try with_reducible rfl
                  change wpAnyH _ _ _ _ _ _ _ (⟨#[_,_,_,_,_,_,_,_,_,_,_,_,_,_,_,_,_,_,_,_,_,_,_,_,_,_,_,_,_,_,_,_,_,_,_,_,_,_,_,_,_,_,_,_,_,_,_,_,_,_,_,_,_,_,_,_,_,_,_,_,_,_,_,_,_,_,_,_,_,_,_,_,_,_,_,_,_,_,_,_,_,_,_,_,_,_,_,_,_,_,_,_,_,_,_,_,_,_,_,_,_,_,_,_,_,_,_,_,_,_,_,_,_,_,_,_,_,_,_,_,_,_,_,_,_,_,_,_], _⟩ : Act) _
                  refine wpAnyH_take (i := 8) (v := ?_) rfl (by kernel_rfl) (by kernel_rfl) (by kernel_rfl) (fun _ _ _ h => h) (Or.inl ⟨by kernel_rfl, ?_⟩) (by assumption) ?_
                  rotate_left
                  · intro w hSw
                    clear hSw
                    go_simp
                    try with_reducible rfl
                  change wpAnyH _ _ _ _ _ _ _ (⟨#[_,_,_,_,_,_,_,_,_,_,_,_,_,_,_,_,_,_,_,_,_,_,_,_,_,_,_,_,_,_,_,_,_,_,_,_,_,_,_,_,_,_,_,_,_,_,_,_,_,_,_,_,_,_,_,_,_,_,_,_,_,_,_,_,_,_,_,_,_,_,_,_,_,_,_,_,_,_,_,_,_,_,_,_,_,_,_,_,_,_,_,_,_,_,_,_,_,_,_,_,_,_,_,_,_,_,_,_,_,_,_,_,_,_,_,_,_,_,_,_,_,_,_,_,_,_,_,_], _⟩ : Act) _
                  refine wpAnyH_take (i := 9) (v := ?_) rfl (by kernel_rfl) (by kernel_rfl) (by kernel_rfl) (fun _ _ _ h => h) (Or.inl ⟨by kernel_rfl, ?_⟩) (by assumption) ?_
                  rotate_left
                  · intro w hSw
                    clear hSw
                    go_simp
                    try with_reducible rfl
                  change wpAnyH _ _ _ _ _ _ _ (⟨#[_,_,_,_,_,_,_,_,_,_,_,_,_,_,_,_,_,_,_,_,_,_,_,_,_,_,_,_,_,_,_,_,_,_,_,_,_,_,_,_,_,_,_,_,_,_,_,_,_,_,_,_,_,_,_,_,_,_,_,_,_,_,_,_,_,_,_,_,_,_,_,_,_,_,_,_,_,_,_,_,_,_,_,_,_,_,_,_,_,_,_,_,_,_,_,_,_,_,_,_,_,_,_,_,_,_,_,_,_,_,_,_,_,_,_,_,_,_,_,_,_,_,_,_,_,_,_,_], _⟩ : Act) _
                  refine wpAnyH_ready (rs := [10]) (by kernel_rfl) (by simp) ?_
                  refine AllReadyH.cons rfl (fun K hK => ?_) AllReadyH.nil
                  have HH := hHeld.2.2
                  go_simp
                  have HQ : Hid (w.heap.size < V'.heap.size ∧ A < V'.heap.size ∧ G < V'.heap.size) := hHeld.2.2.out.lts
                  have HP : Hid ((V'.alloc (.cells #[.int .i64 0, .string ⟨#[]⟩] 32)).heap[V'.heap.size]? = some (.cells #[.int .i64 0, .string ⟨#[]⟩] 32 (0, 0))) := heap_alloc_new V' _
                  refine hK.out _ _ (LwX.full (LwX.alloc hHeld.2.2).out) (fun hHeld => ?_)
                  clear hK K
                  change wpAnyH _ _ _ _ _ _ _ (⟨#[_,_,_,_,_,_,_,_,_,_,_,_,_,_,_,_,_,_,_,_,_,_,_,_,_,_,_,_,_,_,_,_,_,_,_,_,_,_,_,_,_,_,_,_,_,_,_,_,_,_,_,_,_,_,_,_,_,_,_,_,_,_,_,_,_,_,_,_,_,_,_,_,_,_,_,_,_,_,_,_,_,_,_,_,_,_,_,_,_,_,_,_,_,_,_,_,_,_,_,_,_,_,_,_,_,_,_,_,_,_,_,_,_,_,_,_,_,_,_,_,_,_,_,_,_,_,_,_], _⟩ : Act) _
                  refine wpAnyH_ready (rs := [11]) (by kernel_rfl) (by simp) ?_
                  refine AllReadyH.cons rfl (fun K hK => ?_) AllReadyH.nil
                  obtain ⟨p0, p1, p2, p3, hset, hrow⟩ := LwX.set hHeld.2.2.out HQ.out HP.out
                  go_simp
                  refine hK.out _ _ (LwX.full (LwX.alloc HH).out) (fun hHeld => ?_)
                  clear hK K p0 p1 p2 p3 hset hrow
                  have hrow := heap_alloc_new V' (.cells #[.int .i64 k, .string D] 32)
                  change wpAnyH _ _ _ _ _ _ _ (⟨#[_,_,_,_,_,_,_,_,_,_,_,_,_,_,_,_,_,_,_,_,_,_,_,_,_,_,_,_,_,_,_,_,_,_,_,_,_,_,_,_,_,_,_,_,_,_,_,_,_,_,_,_,_,_,_,_,_,_,_,_,_,_,_,_,_,_,_,_,_,_,_,_,_,_,_,_,_,_,_,_,_,_,_,_,_,_,_,_,_,_,_,_,_,_,_,_,_,_,_,_,_,_,_,_,_,_,_,_,_,_,_,_,_,_,_,_,_,_,_,_,_,_,_,_,_,_,_,_], _⟩ : Act) _
                  refine wpAnyH_take (i := 12) (v := ?_) rfl (by kernel_rfl) (by kernel_rfl) (by kernel_rfl) (fun _ _ _ h => h) (Or.inl ⟨by kernel_rfl, ?_⟩) (by assumption) ?_
                  rotate_left
                  · intro w hSw
                    clear hSw
                    go_simp
                    try with_reducible rfl
                  change wpAnyH _ _ _ _ _ _ _ (⟨#[_,_,_,_,_,_,_,_,_,_,_,_,_,_,_,_,_,_,_,_,_,_,_,_,_,_,_,_,_,_,_,_,_,_,_,_,_,_,_,_,_,_,_,_,_,_,_,_,_,_,_,_,_,_,_,_,_,_,_,_,_,_,_,_,_,_,_,_,_,_,_,_,_,_,_,_,_,_,_,_,_,_,_,_,_,_,_,_,_,_,_,_,_,_,_,_,_,_,_,_,_,_,_,_,_,_,_,_,_,_,_,_,_,_,_,_,_,_,_,_,_,_,_,_,_,_,_,_], _⟩ : Act) _
                  refine wpAnyH_done (by kernel_rfl) ?_ _
                  refine NoPanic.normal ?_
                  go_wp2_with fail
                  go_meet
                  exact ⟨_, rfl, rfl, hHeld.2.2.out, hrow⟩
                · go_simp
                  have HQ : Hid (w.heap.size < V'.heap.size ∧ A < V'.heap.size ∧ G < V'.heap.size) := hHeld.2.2.out.lts
                  have HP : Hid ((V'.alloc (.cells #[.int .i64 0, .string ⟨#[]⟩] 32)).heap[V'.heap.size]? = some (.cells #[.int .i64 0, .string ⟨#[]⟩] 32 (0, 0))) := heap_alloc_new V' _
                  refine hK.out _ _ (LwX.full (LwX.alloc hHeld.2.2).out) (fun hHeld => ?_)
                  clear hK K
                  change wpAnyH _ _ _ _ _ _ _ (⟨#[_,_,_,_,_,_,_,_,_,_,_,_,_,_,_,_,_,_,_,_,_,_,_,_,_,_,_,_,_,_,_,_,_,_,_,_,_,_,_,_,_,_,_,_,_,_,_,_,_,_,_,_,_,_,_,_,_,_,_,_,_,_,_,_,_,_,_,_,_,_,_,_,_,_,_,_,_,_,_,_,_,_,_,_,_,_,_,_,_,_,_,_,_,_,_,_,_,_,_,_,_,_,_,_,_,_,_,_,_,_,_,_,_,_,_,_,_,_,_,_,_,_,_,_,_,_,_,_], _⟩ : Act) _
                  refine wpAnyH_ready (rs := [6]) (by kernel_rfl) (by simp) ?_
                  refine AllReadyH.cons rfl (fun K hK => ?_) AllReadyH.nil
                  go_simp
                  with_reducible refine (H12.out _ hHeld.2.2).mono ?_
                  rintro _ V' ⟨rfl, hb, hS⟩
                  have HP := hidM (box_keptL HP.out hb)
                  clear hb
                  refine hK.out _ _ hS (fun hHeld => ?_)
                  clear hK K hS
                  change wpAnyH _ _ _ _ _ _ _ (⟨#[_,_,_,_,_,_,_,_,_,_,_,_,_,_,_,_,_,_,_,_,_,_,_,_,_,_,_,_,_,_,_,_,_,_,_,_,_,_,_,_,_,_,_,_,_,_,_,_,_,_,_,_,_,_,_,_,_,_,_,_,_,_,_,_,_,_,_,_,_,_,_,_,_,_,_,_,_,_,_,_,_,_,_,_,_,_,_,_,_,_,_,_,_,_,_,_,_,_,_,_,_,_,_,_,_,_,_,_,_,_,_,_,_,_,_,_,_,_,_,_,_,_,_,_,_,_,_,_], _⟩ : Act) _
                  refine wpAnyH_take (i := 7) (v := ?_) rfl (by kernel_rfl) (by kernel_rfl) (by kernel_rfl) (fun _ _ _ h => h) (Or.inl ⟨by kernel_rfl, ?_⟩) (by assumption) ?_
                  rotate_left
                  · intro w hSw
                    clear hSw
                    go_simp
                    try with_reducible rfl
                  change wpAnyH _ _ _ _ _ _ _ (⟨#[_,_,_,_,_,_,_,_,_,_,_,_,_,_,_,_,_,_,_,_,_,_,_,_,_,_,_,_,_,_,_,_,_,_,_,_,_,_,_,_,_,_,_,_,_,_,_,_,_,_,_,_,_,_,_,_,_,_,_,_,_,_,_,_,_,_,_,_,_,_,_,_,_,_,_,_,_,_,_,_,_,_,_,_,_,_,_,_,_,_,_,_,_,_,_,_,_,_,_,_,_,_,_,_,_,_,_,_,_,_,_,_,_,_,_,_,_,_,_,_,_,_,_,_,_,_,_,_], _⟩ : Act) _
                  refine wpAnyH_take (i := 8) (v := ?_) rfl (by kernel_rfl) (by kernel_rfl) (by kernel_rfl) (fun _ _ _ h => h) (Or.inl ⟨by kernel_rfl, ?_⟩) (by assumption) ?_
                  rotate_left
                  · intro w hSw
                    clear hSw
                    go_simp
                    try with_reducible rfl
                  change wpAnyH _ _ _ _ _ _ _ (⟨#[_,_,_,_,_,_,_,_,_,_,_,_,_,_,_,_,_,_,_,_,_,_,_,_,_,_,_,_,_,_,_,_,_,_,_,_,_,_,_,_,_,_,_,_,_,_,_,_,_,_,_,_,_,_,_,_,_,_,_,_,_,_,_,_,_,_,_,_,_,_,_,_,_,_,_,_,_,_,_,_,_,_,_,_,_,_,_,_,_,_,_,_,_,_,_,_,_,_,_,_,_,_,_,_,_,_,_,_,_,_,_,_,_,_,_,_,_,_,_,_,_,_,_,_,_,_,_,_], _⟩ : Act) _
                  refine wpAnyH_take (i := 9) (v := ?_) rfl (by kernel_rfl) (by kernel_rfl) (by kernel_rfl) (fun _ _ _ h => h) (Or.inl ⟨by kernel_rfl, ?_⟩) (by assumption) ?_
                  rotate_left
                  · intro w hSw
                    clear hSw
                    go_simp
                    try with_reducible rfl
                  change wpAnyH _ _ _ _ _ _ _ (⟨#[_,_,_,_,_,_,_,_,_,_,_,_,_,_,_,_,_,_,_,_,_,_,_,_,_,_,_,_,_,_,_,_,_,_,_,_,_,_,_,_,_,_,_,_,_,_,_,_,_,_,_,_,_,_,_,_,_,_,_,_,_,_,_,_,_,_,_,_,_,_,_,_,_,_,_,_,_,_,_,_,_,_,_,_,_,_,_,_,_,_,_,_,_,_,_,_,_,_,_,_,_,_,_,_,_,_,_,_,_,_,_,_,_,_,_,_,_,_,_,_,_,_,_,_,_,_,_,_], _⟩ : Act) _
                  refine wpAnyH_ready (rs := [11]) (by kernel_rfl) (by simp) ?_
                  refine AllReadyH.cons rfl (fun K hK => ?_) AllReadyH.nil
                  obtain ⟨p0, p1, p2, p3, hset, hrow⟩ := LwX.set hHeld.2.2.out HQ.out HP.out
                  go_simp
                  refine hK.out _ _ hset.full (fun hHeld => ?_)
                  clear hK K p0 p1 p2 p3 hset
                  change wpAnyH _ _ _ _ _ _ _ (⟨#[_,_,_,_,_,_,_,_,_,_,_,_,_,_,_,_,_,_,_,_,_,_,_,_,_,_,_,_,_,_,_,_,_,_,_,_,_,_,_,_,_,_,_,_,_,_,_,_,_,_,_,_,_,_,_,_,_,_,_,_,_,_,_,_,_,_,_,_,_,_,_,_,_,_,_,_,_,_,_,_,_,_,_,_,_,_,_,_,_,_,_,_,_,_,_,_,_,_,_,_,_,_,_,_,_,_,_,_,_,_,_,_,_,_,_,_,_,_,_,_,_,_,_,_,_,_,_,_], _⟩ : Act) _
                  refine wpAnyH_take (i := 12) (v := ?_) rfl (by kernel_rfl) (by kernel_rfl) (by kernel_rfl) (fun _ _ _ h => h) (Or.inl ⟨by kernel_rfl, ?_⟩) (by assumption) ?_
                  rotate_left
                  · intro w hSw
                    clear hSw
                    go_simp
                    try with_reducible rfl
                  change wpAnyH _ _ _ _ _ _ _ (⟨#[_,_,_,_,_,_,_,_,_,_,_,_,_,_,_,_,_,_,_,_,_,_,_,_,_,_,_,_,_,_,_,_,_,_,_,_,_,_,_,_,_,_,_,_,_,_,_,_,_,_,_,_,_,_,_,_,_,_,_,_,_,_,_,_,_,_,_,_,_,_,_,_,_,_,_,_,_,_,_,_,_,_,_,_,_,_,_,_,_,_,_,_,_,_,_,_,_,_,_,_,_,_,_,_,_,_,_,_,_,_,_,_,_,_,_,_,_,_,_,_,_,_,_,_,_,_,_,_], _⟩ : Act) _
                  refine wpAnyH_done (by kernel_rfl) ?_ _
                  refine NoPanic.normal ?_
                  go_wp2_with fail
                  go_meet
                  exact ⟨_, rfl, rfl, hHeld.2.2.out, hrow⟩
              · go_simp
                have HQ : Hid (w.heap.size < V'.heap.size ∧ A < V'.heap.size ∧ G < V'.heap.size) := hHeld.2.2.out.lts
                have HP : Hid ((V'.alloc (.cells #[.int .i64 0, .string ⟨#[]⟩] 32)).heap[V'.heap.size]? = some (.cells #[.int .i64 0, .string ⟨#[]⟩] 32 (0, 0))) := heap_alloc_new V' _
                refine hK.out _ _ (LwX.full (LwX.alloc hHeld.2.2).out) (fun hHeld => ?_)
                clear hK K
                change wpAnyH _ _ _ _ _ _ _ (⟨#[_,_,_,_,_,_,_,_,_,_,_,_,_,_,_,_,_,_,_,_,_,_,_,_,_,_,_,_,_,_,_,_,_,_,_,_,_,_,_,_,_,_,_,_,_,_,_,_,_,_,_,_,_,_,_,_,_,_,_,_,_,_,_,_,_,_,_,_,_,_,_,_,_,_,_,_,_,_,_,_,_,_,_,_,_,_,_,_,_,_,_,_,_,_,_,_,_,_,_,_,_,_,_,_,_,_,_,_,_,_,_,_,_,_,_,_,_,_,_,_,_,_,_,_,_,_,_,_], _⟩ : Act) _
                refine wpAnyH_ready (rs := [5]) (by kernel_rfl) (by simp) ?_
                refine AllReadyH.cons rfl (fun K hK => ?_) AllReadyH.nil
                go_simp
                with_reducible refine (H27.out _ hHeld.2.2).mono ?_
                rintro _ V' ⟨rfl, hb, hS⟩
                have HP := hidM (box_keptL HP.out hb)
                clear hb
                refine hK.out _ _ hS (fun hHeld => ?_)
                clear hK K hS
                change wpAnyH _ _ _ _ _ _ _ (⟨#[_,_,_,_,_,_,_,_,_,_,_,_,_,_,_,_,_,_,_,_,_,_,_,_,_,_,_,_,_,_,_,_,_,_,_,_,_,_,_,_,_,_,_,_,_,_,_,_,_,_,_,_,_,_,_,_,_,_,_,_,_,_,_,_,_,_,_,_,_,_,_,_,_,_,_,_,_,_,_,_,_,_,_,_,_,_,_,_,_,_,_,_,_,_,_,_,_,_,_,_,_,_,_,_,_,_,_,_,_,_,_,_,_,_,_,_,_,_,_,_,_,_,_,_,_,_,_,_], _⟩ : Act) _
                refine wpAnyH_ready (rs := [6]) (by kernel_rfl) (by simp) ?_
                refine AllReadyH.cons rfl (fun K hK => ?_) AllReadyH.nil
                go_simp
                with_reducible refine (H12.out _ hHeld.2.2).mono ?_
                rintro _ V' ⟨rfl, hb, hS⟩
                have HP := hidM (box_keptL HP.out hb)
                clear hb
                refine hK.out _ _ hS (fun hHeld => ?_)
                clear hK K hS
                change wpAnyH _ _ _ _ _ _ _ (⟨#[_,_,_,_,_,_,_,_,_,_,_,_,_,_,_,_,_,_,_,_,_,_,_,_,_,_,_,_,_,_,_,_,_,_,_,_,_,_,_,_,_,_,_,_,_,_,_,_,_,_,_,_,_,_,_,_,_,_,_,_,_,_,_,_,_,_,_,_,_,_,_,_,_,_,_,_,_,_,_,_,_,_,_,_,_,_,_,_,_,_,_,_,_,_,_,_,_,_,_,_,_,_,_,_,_,_,_,_,_,_,_,_,_,_,_,_,_,_,_,_,_,_,_,_,_,_,_,_], _⟩ : Act) _
                refine wpAnyH_take (i := 7) (v := ?_) rfl (by kernel_rfl) (by kernel_rfl) (by kernel_rfl) (fun _ _ _ h => h) (Or.inl ⟨by kernel_rfl, ?_⟩) (by assumption) ?_
                rotate_left
                · intro w hSw
                  clear hSw
                  go_simp
                  try with_reducible rfl
                change wpAnyH _ _ _ _ _ _ _ (⟨#[_,_,_,_,_,_,_,_,_,_,_,_,_,_,_,_,_,_,_,_,_,_,_,_,_,_,_,_,_,_,_,_,_,_,_,_,_,_,_,_,_,_,_,_,_,_,_,_,_,_,_,_,_,_,_,_,_,_,_,_,_,_,_,_,_,_,_,_,_,_,_,_,_,_,_,_,_,_,_,_,_,_,_,_,_,_,_,_,_,_,_,_,_,_,_,_,_,_,_,_,_,_,_,_,_,_,_,_,_,_,_,_,_,_,_,_,_,_,_,_,_,_,_,_,_,_,_,_], _⟩ : Act) _
                refine wpAnyH_take (i := 8) (v := ?_) rfl (by kernel_rfl) (by kernel_rfl) (by kernel_rfl) (fun _ _ _ h => h) (Or.inl ⟨by kernel_rfl, ?_⟩) (by assumption) ?_
                rotate_left
                · intro w hSw
                  clear hSw
                  go_simp
                  try with_reducible rfl
                change wpAnyH _ _ _ _ _ _ _ (⟨#[_,_,_,_,_,_,_,_,_,_,_,_,_,_,_,_,_,_,_,_,_,_,_,_,_,_,_,_,_,_,_,_,_,_,_,_,_,_,_,_,_,_,_,_,_,_,_,_,_,_,_,_,_,_,_,_,_,_,_,_,_,_,_,_,_,_,_,_,_,_,_,_,_,_,_,_,_,_,_,_,_,_,_,_,_,_,_,_,_,_,_,_,_,_,_,_,_,_,_,_,_,_,_,_,_,_,_,_,_,_,_,_,_,_,_,_,_,_,_,_,_,_,_,_,_,_,_,_], _⟩ : Act) _
                refine wpAnyH_take (i := 9) (v := ?_) rfl (by kernel_rfl) (by kernel_rfl) (by kernel_rfl) (fun _ _ _ h => h) (Or.inl ⟨by kernel_rfl, ?_⟩) (by assumption) ?_
                rotate_left
                · intro w hSw
                  clear hSw
                  go_simp
                  try with_reducible rfl
                change wpAnyH _ _ _ _ _ _ _ (⟨#[_,_,_,_,_,_,_,_,_,_,_,_,_,_,_,_,_,_,_,_,_,_,_,_,_,_,_,_,_,_,_,_,_,_,_,_,_,_,_,_,_,_,_,_,_,_,_,_,_,_,_,_,_,_,_,_,_,_,_,_,_,_,_,_,_,_,_,_,_,_,_,_,_,_,_,_,_,_,_,_,_,_,_,_,_,_,_,_,_,_,_,_,_,_,_,_,_,_,_,_,_,_,_,_,_,_,_,_,_,_,_,_,_,_,_,_,_,_,_,_,_,_,_,_,_,_,_,_], _⟩ : Act) _
                refine wpAnyH_ready (rs := [11]) (by kernel_rfl) (by simp) ?_
                refine AllReadyH.cons rfl (fun K hK => ?_) AllReadyH.nil
                obtain ⟨p0, p1, p2, p3, hset, hrow⟩ := LwX.set hHeld.2.2.out HQ.out HP.out
                go_simp
                refine hK.out _ _ hset.full (fun hHeld => ?_)
                clear hK K p0 p1 p2 p3 hset
                change wpAnyH _ _ _ _ _ _ _ (⟨#[_,_,_,_,_,_,_,_,_,_,_,_,_,_,_,_,_,_,_,_,_,_,_,_,_,_,_,_,_,_,_,_,_,_,_,_,_,_,_,_,_,_,_,_,_,_,_,_,_,_,_,_,_,_,_,_,_,_,_,_,_,_,_,_,_,_,_,_,_,_,_,_,_,_,_,_,_,_,_,_,_,_,_,_,_,_,_,_,_,_,_,_,_,_,_,_,_,_,_,_,_,_,_,_,_,_,_,_,_,_,_,_,_,_,_,_,_,_,_,_,_,_,_,_,_,_,_,_], _⟩ : Act) _
                refine wpAnyH_take (i := 12) (v := ?_) rfl (by kernel_rfl) (by kernel_rfl) (by kernel_rfl) (fun _ _ _ h => h) (Or.inl ⟨by kernel_rfl, ?_⟩) (by assumption) ?_
                rotate_left
                · intro w hSw
                  clear hSw
                  go_simp
                  try with_reducible rfl
                change wpAnyH _ _ _ _ _ _ _ (⟨#[_,_,_,_,_,_,_,_,_,_,_,_,_,_,_,_,_,_,_,_,_,_,_,_,_,_,_,_,_,_,_,_,_,_,_,_,_,_,_,_,_,_,_,_,_,_,_,_,_,_,_,_,_,_,_,_,_,_,_,_,_,_,_,_,_,_,_,_,_,_,_,_,_,_,_,_,_,_,_,_,_,_,_,_,_,_,_,_,_,_,_,_,_,_,_,_,_,_,_,_,_,_,_,_,_,_,_,_,_,_,_,_,_,_,_,_,_,_,_,_,_,_,_,_,_,_,_,_], _⟩ : Act) _
                refine wpAnyH_done (by kernel_rfl) ?_ _
                refine NoPanic.normal ?_
                go_wp2_with fail
                go_meet
                exact ⟨_, rfl, rfl, hHeld.2.2.out, hrow⟩
            · go_simp
              have HQ : Hid (w.heap.size < V'.heap.size ∧ A < V'.heap.size ∧ G < V'.heap.size) := hHeld.2.2.out.lts
              have HP : Hid ((V'.alloc (.cells #[.int .i64 0, .string ⟨#[]⟩] 32)).heap[V'.heap.size]? = some (.cells #[.int .i64 0, .string ⟨#[]⟩] 32 (0, 0))) := heap_alloc_new V' _
              refine hK.out _ _ (LwX.full (LwX.alloc hHeld.2.2).out) (fun hHeld => ?_)
              clear hK K
              change wpAnyH _ _ _ _ _ _ _ (⟨#[_,_,_,_,_,_,_,_,_,_,_,_,_,_,_,_,_,_,_,_,_,_,_,_,_,_,_,_,_,_,_,_,_,_,_,_,_,_,_,_,_,_,_,_,_,_,_,_,_,_,_,_,_,_,_,_,_,_,_,_,_,_,_,_,_,_,_,_,_,_,_,_,_,_,_,_,_,_,_,_,_,_,_,_,_,_,_,_,_,_,_,_,_,_,_,_,_,_,_,_,_,_,_,_,_,_,_,_,_,_,_,_,_,_,_,_,_,_,_,_,_,_,_,_,_,_,_,_], _⟩ : Act) _
              refine wpAnyH_ready (rs := [4]) (by kernel_rfl) (by simp) ?_
              refine AllReadyH.cons rfl (fun K hK => ?_) AllReadyH.nil
              go_simp
              with_reducible refine (H26.out _ hHeld.2.2).mono ?_
              rintro _ V' ⟨rfl, hb, hS⟩
              have HP := hidM (box_keptL HP.out hb)
              clear hb
              refine hK.out _ _ hS (fun hHeld => ?_)
              clear hK K hS
              change wpAnyH _ _ _ _ _ _ _ (⟨#[_,_,_,_,_,_,_,_,_,_,_,_,_,_,_,_,_,_,_,_,_,_,_,_,_,_,_,_,_,_,_,_,_,_,_,_,_,_,_,_,_,_,_,_,_,_,_,_,_,_,_,_,_,_,_,_,_,_,_,_,_,_,_,_,_,_,_,_,_,_,_,_,_,_,_,_,_,_,_,_,_,_,_,_,_,_,_,_,_,_,_,_,_,_,_,_,_,_,_,_,_,_,_,_,_,_,_,_,_,_,_,_,_,_,_,_,_,_,_,_,_,_,_,_,_,_,_,_], _⟩ : Act) _
              refine wpAnyH_ready (rs := [5]) (by kernel_rfl) (by simp) ?_
              refine AllReadyH.cons rfl (fun K hK => ?_) AllReadyH.nil
              go_simp
              with_reducible refine (H27.out _ hHeld.2.2).mono ?_
              rintro _ V' ⟨rfl, hb, hS⟩
              have HP := hidM (box_keptL HP.out hb)
              clear hb
              refine hK.out _ _ hS (fun hHeld => ?_)
              clear hK K hS
              change wpAnyH _ _ _ _ _ _ _ (⟨#[_,_,_,_,_,_,_,_,_,_,_,_,_,_,_,_,_,_,_,_,_,_,_,_,_,_,_,_,_,_,_,_,_,_,_,_,_,_,_,_,_,_,_,_,_,_,_,_,_,_,_,_,_,_,_,_,_,_,_,_,_,_,_,_,_,_,_,_,_,_,_,_,_,_,_,_,_,_,_,_,_,_,_,_,_,_,_,_,_,_,_,_,_,_,_,_,_,_,_,_,_,_,_,_,_,_,_,_,_,_,_,_,_,_,_,_,_,_,_,_,_,_,_,_,_,_,_,_], _⟩ : Act) _
              refine wpAnyH_ready (rs := [6]) (by kernel_rfl) (by simp) ?_
              refine AllReadyH.cons rfl (fun K hK => ?_) AllReadyH.nil
              go_simp
              with_reducible refine (H12.out _ hHeld.2.2).mono ?_
              rintro _ V' ⟨rfl, hb, hS⟩
              have HP := hidM (box_keptL HP.out hb)
              clear hb
              refine hK.out _ _ hS (fun hHeld => ?_)
              clear hK K hS
              change wpAnyH _ _ _ _ _ _ _ (⟨#[_,_,_,_,_,_,_,_,_,_,_,_,_,_,_,_,_,_,_,_,_,_,_,_,_,_,_,_,_,_,_,_,_,_,_,_,_,_,_,_,_,_,_,_,_,_,_,_,_,_,_,_,_,_,_,_,_,_,_,_,_,_,_,_,_,_,_,_,_,_,_,_,_,_,_,_,_,_,_,_,_,_,_,_,_,_,_,_,_,_,_,_,_,_,_,_,_,_,_,_,_,_,_,_,_,_,_,_,_,_,_,_,_,_,_,_,_,_,_,_,_,_,_,_,_,_,_,_], _⟩ : Act) _
              refine wpAnyH_take (i := 7) (v := ?_) rfl (by kernel_rfl) (by kernel_rfl) (by kernel_rfl) (fun _ _ _ h => h) (Or.inl ⟨by kernel_rfl, ?_⟩) (by assumption) ?_
              rotate_left
              · intro w hSw
                clear hSw
                go_simp
                try with_reducible rfl
              change wpAnyH _ _ _ _ _ _ _ (⟨#[_,_,_,_,_,_,_,_,_,_,_,_,_,_,_,_,_,_,_,_,_,_,_,_,_,_,_,_,_,_,_,_,_,_,_,_,_,_,_,_,_,_,_,_,_,_,_,_,_,_,_,_,_,_,_,_,_,_,_,_,_,_,_,_,_,_,_,_,_,_,_,_,_,_,_,_,_,_,_,_,_,_,_,_,_,_,_,_,_,_,_,_,_,_,_,_,_,_,_,_,_,_,_,_,_,_,_,_,_,_,_,_,_,_,_,_,_,_,_,_,_,_,_,_,_,_,_,_], _⟩ : Act) _
              refine wpAnyH_take (i := 8) (v := ?_) rfl (by kernel_rfl) (by kernel_rfl) (by kernel_rfl) (fun _ _ _ h => h) (Or.inl ⟨by kernel_rfl, ?_⟩) (by assumption) ?_
              rotate_left
              · intro w hSw
                clear hSw
                go_simp
                try with_reducible rfl
              change wpAnyH _ _ _ _ _ _ _ (⟨#[_,_,_,_,_,_,_,_,_,_,_,_,_,_,_,_,_,_,_,_,_,_,_,_,_,_,_,_,_,_,_,_,_,_,_,_,_,_,_,_,_,_,_,_,_,_,_,_,_,_,_,_,_,_,_,_,_,_,_,_,_,_,_,_,_,_,_,_,_,_,_,_,_,_,_,_,_,_,_,_,_,_,_,_,_,_,_,_,_,_,_,_,_,_,_,_,_,_,_,_,_,_,_,_,_,_,_,_,_,_,_,_,_,_,_,_,_,_,_,_,_,_,_,_,_,_,_,_], _⟩ : Act) _
              refine wpAnyH_take (i := 9) (v := ?_) rfl (by kernel_rfl) (by kernel_rfl) (by kernel_rfl) (fun _ _ _ h => h) (Or.inl ⟨by kernel_rfl, ?_⟩) (by assumption) ?_
              rotate_left
              · intro w hSw
                clear hSw
                go_simp
                try with_reducible rfl
              change wpAnyH _ _ _ _ _ _ _ (⟨#[_,_,_,_,_,_,_,_,_,_,_,_,_,_,_,_,_,_,_,_,_,_,_,_,_,_,_,_,_,_,_,_,_,_,_,_,_,_,_,_,_,_,_,_,_,_,_,_,_,_,_,_,_,_,_,_,_,_,_,_,_,_,_,_,_,_,_,_,_,_,_,_,_,_,_,_,_,_,_,_,_,_,_,_,_,_,_,_,_,_,_,_,_,_,_,_,_,_,_,_,_,_,_,_,_,_,_,_,_,_,_,_,_,_,_,_,_,_,_,_,_,_,_,_,_,_,_,_], _⟩ : Act) _
              refine wpAnyH_ready (rs := [11]) (by kernel_rfl) (by simp) ?_
              refine AllReadyH.cons rfl (fun K hK => ?_) AllReadyH.nil
              obtain ⟨p0, p1, p2, p3, hset, hrow⟩ := LwX.set hHeld.2.2.out HQ.out HP.out
              go_simp
              refine hK.out _ _ hset.full (fun hHeld => ?_)
              clear hK K p0 p1 p2 p3 hset
              change wpAnyH _ _ _ _ _ _ _ (⟨#[_,_,_,_,_,_,_,_,_,_,_,_,_,_,_,_,_,_,_,_,_,_,_,_,_,_,_,_,_,_,_,_,_,_,_,_,_,_,_,_,_,_,_,_,_,_,_,_,_,_,_,_,_,_,_,_,_,_,_,_,_,_,_,_,_,_,_,_,_,_,_,_,_,_,_,_,_,_,_,_,_,_,_,_,_,_,_,_,_,_,_,_,_,_,_,_,_,_,_,_,_,_,_,_,_,_,_,_,_,_,_,_,_,_,_,_,_,_,_,_,_,_,_,_,_,_,_,_], _⟩ : Act) _
              refine wpAnyH_take (i := 12) (v := ?_) rfl (by kernel_rfl) (by kernel_rfl) (by kernel_rfl) (fun _ _ _ h => h) (Or.inl ⟨by kernel_rfl, ?_⟩) (by assumption) ?_
              rotate_left
              · intro w hSw
                clear hSw
                go_simp
                try with_reducible rfl
              change wpAnyH _ _ _ _ _ _ _ (⟨#[_,_,_,_,_,_,_,_,_,_,_,_,_,_,_,_,_,_,_,_,_,_,_,_,_,_,_,_,_,_,_,_,_,_,_,_,_,_,_,_,_,_,_,_,_,_,_,_,_,_,_,_,_,_,_,_,_,_,_,_,_,_,_,_,_,_,_,_,_,_,_,_,_,_,_,_,_,_,_,_,_,_,_,_,_,_,_,_,_,_,_,_,_,_,_,_,_,_,_,_,_,_,_,_,_,_,_,_,_,_,_,_,_,_,_,_,_,_,_,_,_,_,_,_,_,_,_,_], _⟩ : Act) _
              refine wpAnyH_done (by kernel_rfl) ?_ _
              refine NoPanic.normal ?_
              go_wp2_with fail
              go_meet
              exact ⟨_, rfl, rfl, hHeld.2.2.out, hrow⟩
          · go_simp
            have HQ : Hid (w.heap.size < V'.heap.size ∧ A < V'.heap.size ∧ G < V'.heap.size) := hHeld.2.2.out.lts
            have HP : Hid ((V'.alloc (.cells #[.int .i64 0, .string ⟨#[]⟩] 32)).heap[V'.heap.size]? = some (.cells #[.int .i64 0, .string ⟨#[]⟩] 32 (0, 0))) := heap_alloc_new V' _
            refine hK.out _ _ (LwX.full (LwX.alloc hHeld.2.2).out) (fun hHeld => ?_)
            clear hK K
            change wpAnyH _ _ _ _ _ _ _ (⟨#[_,_,_,_,_,_,_,_,_,_,_,_,_,_,_,_,_,_,_,_,_,_,_,_,_,_,_,_,_,_,_,_,_,_,_,_,_,_,_,_,_,_,_,_,_,_,_,_,_,_,_,_,_,_,_,_,_,_,_,_,_,_,_,_,_,_,_,_,_,_,_,_,_,_,_,_,_,_,_,_,_,_,_,_,_,_,_,_,_,_,_,_,_,_,_,_,_,_,_,_,_,_,_,_,_,_,_,_,_,_,_,_,_,_,_,_,_,_,_,_,_,_,_,_,_,_,_,_], _⟩ : Act) _
            refine wpAnyH_ready (rs := [2]) (by kernel_rfl) (by simp) ?_
            refine AllReadyH.cons rfl (fun K hK => ?_) AllReadyH.nil
            go_simp
            with_reducible refine (H28.out _ hHeld.2.2).mono ?_
            rintro _ V' ⟨rfl, hb, hS⟩
            have HP := hidM (box_keptL HP.out hb)
            clear hb
            refine hK.out _ _ hS (fun hHeld => ?_)
            clear hK K hS
            change wpAnyH _ _ _ _ _ _ _ (⟨#[_,_,_,_,_,_,_,_,_,_,_,_,_,_,_,_,_,_,_,_,_,_,_,_,_,_,_,_,_,_,_,_,_,_,_,_,_,_,_,_,_,_,_,_,_,_,_,_,_,_,_,_,_,_,_,_,_,_,_,_,_,_,_,_,_,_,_,_,_,_,_,_,_,_,_,_,_,_,_,_,_,_,_,_,_,_,_,_,_,_,_,_,_,_,_,_,_,_,_,_,_,_,_,_,_,_,_,_,_,_,_,_,_,_,_,_,_,_,_,_,_,_,_,_,_,_,_,_], _⟩ : Act) _
            refine wpAnyH_ready (rs := [4]) (by kernel_rfl) (by simp) ?_
            refine AllReadyH.cons rfl (fun K hK => ?_) AllReadyH.nil
            go_simp
            with_reducible refine (H26.out _ hHeld.2.2).mono ?_
            rintro _ V' ⟨rfl, hb, hS⟩
            have HP := hidM (box_keptL HP.out hb)
            clear hb
            refine hK.out _ _ hS (fun hHeld => ?_)
            clear hK K hS
            change wpAnyH _ _ _ _ _ _ _ (⟨#[_,_,_,_,_,_,_,_,_,_,_,_,_,_,_,_,_,_,_,_,_,_,_,_,_,_,_,_,_,_,_,_,_,_,_,_,_,_,_,_,_,_,_,_,_,_,_,_,_,_,_,_,_,_,_,_,_,_,_,_,_,_,_,_,_,_,_,_,_,_,_,_,_,_,_,_,_,_,_,_,_,_,_,_,_,_,_,_,_,_,_,_,_,_,_,_,_,_,_,_,_,_,_,_,_,_,_,_,_,_,_,_,_,_,_,_,_,_,_,_,_,_,_,_,_,_,_,_], _⟩ : Act) _
            refine wpAnyH_ready (rs := [5]) (by kernel_rfl) (by simp) ?_
            refine AllReadyH.cons rfl (fun K hK => ?_) AllReadyH.nil
            go_simp
            with_reducible refine (H27.out _ hHeld.2.2).mono ?_
            rintro _ V' ⟨rfl, hb, hS⟩
            have HP := hidM (box_keptL HP.out hb)
            clear hb
            refine hK.out _ _ hS (fun hHeld => ?_)
            clear hK K hS
            change wpAnyH _ _ _ _ _ _ _ (⟨#[_,_,_,_,_,_,_,_,_,_,_,_,_,_,_,_,_,_,_,_,_,_,_,_,_,_,_,_,_,_,_,_,_,_,_,_,_,_,_,_,_,_,_,_,_,_,_,_,_,_,_,_,_,_,_,_,_,_,_,_,_,_,_,_,_,_,_,_,_,_,_,_,_,_,_,_,_,_,_,_,_,_,_,_,_,_,_,_,_,_,_,_,_,_,_,_,_,_,_,_,_,_,_,_,_,_,_,_,_,_,_,_,_,_,_,_,_,_,_,_,_,_,_,_,_,_,_,_], _⟩ : Act) _
            refine wpAnyH_ready (rs := [6]) (by kernel_rfl) (by simp) ?_
            refine AllReadyH.cons rfl (fun K hK => ?_) AllReadyH.nil
            go_simp
            with_reducible refine (H12.out _ hHeld.2.2).mono ?_
            rintro _ V' ⟨rfl, hb, hS⟩
            have HP := hidM (box_keptL HP.out hb)
            clear hb
            refine hK.out _ _ hS (fun hHeld => ?_)
            clear hK K hS
            change wpAnyH _ _ _ _ _ _ _ (⟨#[_,_,_,_,_,_,_,_,_,_,_,_,_,_,_,_,_,_,_,_,_,_,_,_,_,_,_,_,_,_,_,_,_,_,_,_,_,_,_,_,_,_,_,_,_,_,_,_,_,_,_,_,_,_,_,_,_,_,_,_,_,_,_,_,_,_,_,_,_,_,_,_,_,_,_,_,_,_,_,_,_,_,_,_,_,_,_,_,_,_,_,_,_,_,_,_,_,_,_,_,_,_,_,_,_,_,_,_,_,_,_,_,_,_,_,_,_,_,_,_,_,_,_,_,_,_,_,_], _⟩ : Act) _
            refine wpAnyH_take (i := 7) (v := ?_) rfl (by kernel_rfl) (by kernel_rfl) (by kernel_rfl) (fun _ _ _ h => h) (Or.inl ⟨by kernel_rfl, ?_⟩) (by assumption) ?_
            rotate_left
            · intro w hSw
              clear hSw
              go_simp
              try with_reducible rfl
            change wpAnyH _ _ _ _ _ _ _ (⟨#[_,_,_,_,_,_,_,_,_,_,_,_,_,_,_,_,_,_,_,_,_,_,_,_,_,_,_,_,_,_,_,_,_,_,_,_,_,_,_,_,_,_,_,_,_,_,_,_,_,_,_,_,_,_,_,_,_,_,_,_,_,_,_,_,_,_,_,_,_,_,_,_,_,_,_,_,_,_,_,_,_,_,_,_,_,_,_,_,_,_,_,_,_,_,_,_,_,_,_,_,_,_,_,_,_,_,_,_,_,_,_,_,_,_,_,_,_,_,_,_,_,_,_,_,_,_,_,_], _⟩ : Act) _
            refine wpAnyH_take (i := 8) (v := ?_) rfl (by kernel_rfl) (by kernel_rfl) (by kernel_rfl) (fun _ _ _ h => h) (Or.inl ⟨by kernel_rfl, ?_⟩) (by assumption) ?_
            rotate_left
            · intro w hSw
              clear hSw
              go_simp
              try with_reducible rfl
            change wpAnyH _ _ _ _ _ _ _ (⟨#[_,_,_,_,_,_,_,_,_,_,_,_,_,_,_,_,_,_,_,_,_,_,_,_,_,_,_,_,_,_,_,_,_,_,_,_,_,_,_,_,_,_,_,_,_,_,_,_,_,_,_,_,_,_,_,_,_,_,_,_,_,_,_,_,_,_,_,_,_,_,_,_,_,_,_,_,_,_,_,_,_,_,_,_,_,_,_,_,_,_,_,_,_,_,_,_,_,_,_,_,_,_,_,_,_,_,_,_,_,_,_,_,_,_,_,_,_,_,_,_,_,_,_,_,_,_,_,_], _⟩ : Act) _
            refine wpAnyH_take (i := 9) (v := ?_) rfl (by kernel_rfl) (by kernel_rfl) (by kernel_rfl) (fun _ _ _ h => h) (Or.inl ⟨by kernel_rfl, ?_⟩) (by assumption) ?_
            rotate_left
            · intro w hSw
              clear hSw
              go_simp
              try with_reducible rfl
            change wpAnyH _ _ _ _ _ _ _ (⟨#[_,_,_,_,_,_,_,_,_,_,_,_,_,_,_,_,_,_,_,_,_,_,_,_,_,_,_,_,_,_,_,_,_,_,_,_,_,_,_,_,_,_,_,_,_,_,_,_,_,_,_,_,_,_,_,_,_,_,_,_,_,_,_,_,_,_,_,_,_,_,_,_,_,_,_,_,_,_,_,_,_,_,_,_,_,_,_,_,_,_,_,_,_,_,_,_,_,_,_,_,_,_,_,_,_,_,_,_,_,_,_,_,_,_,_,_,_,_,_,_,_,_,_,_,_,_,_,_], _⟩ : Act) _
            refine wpAnyH_ready (rs := [11]) (by kernel_rfl) (by simp) ?_
            refine AllReadyH.cons rfl (fun K hK => ?_) AllReadyH.nil
            obtain ⟨p0, p1, p2, p3, hset, hrow⟩ := LwX.set hHeld.2.2.out HQ.out HP.out
            go_simp
            refine hK.out _ _ hset.full (fun hHeld => ?_)
            clear hK K p0 p1 p2 p3 hset
            change wpAnyH _ _ _ _ _ _ _ (⟨#[_,_,_,_,_,_,_,_,_,_,_,_,_,_,_,_,_,_,_,_,_,_,_,_,_,_,_,_,_,_,_,_,_,_,_,_,_,_,_,_,_,_,_,_,_,_,_,_,_,_,_,_,_,_,_,_,_,_,_,_,_,_,_,_,_,_,_,_,_,_,_,_,_,_,_,_,_,_,_,_,_,_,_,_,_,_,_,_,_,_,_,_,_,_,_,_,_,_,_,_,_,_,_,_,_,_,_,_,_,_,_,_,_,_,_,_,_,_,_,_,_,_,_,_,_,_,_,_], _⟩ : Act) _
            refine wpAnyH_take (i := 12) (v := ?_) rfl (by kernel_rfl) (by kernel_rfl) (by kernel_rfl) (fun _ _ _ h => h) (Or.inl ⟨by kernel_rfl, ?_⟩) (by assumption) ?_
            rotate_left
            · intro w hSw
              clear hSw
              go_simp
              try with_reducible rfl
            change wpAnyH _ _ _ _ _ _ _ (⟨#[_,_,_,_,_,_,_,_,_,_,_,_,_,_,_,_,_,_,_,_,_,_,_,_,_,_,_,_,_,_,_,_,_,_,_,_,_,_,_,_,_,_,_,_,_,_,_,_,_,_,_,_,_,_,_,_,_,_,_,_,_,_,_,_,_,_,_,_,_,_,_,_,_,_,_,_,_,_,_,_,_,_,_,_,_,_,_,_,_,_,_,_,_,_,_,_,_,_,_,_,_,_,_,_,_,_,_,_,_,_,_,_,_,_,_,_,_,_,_,_,_,_,_,_,_,_,_,_], _⟩ : Act) _
            refine wpAnyH_done (by kernel_rfl) ?_ _
            refine NoPanic.normal ?_
            go_wp2_with fail
            go_meet
            exact ⟨_, rfl, rfl, hHeld.2.2.out, hrow⟩
        · go_simp
          have HQ : Hid (w.heap.size < W13.heap.size ∧ A < W13.heap.size ∧ G < W13.heap.size) := hHeld.2.2.out.lts
          have HP : Hid ((W13.drew.alloc (.cells #[.int .i64 0, .string ⟨#[]⟩] 32)).heap[W13.heap.size]? = some (.cells #[.int .i64 0, .string ⟨#[]⟩] 32 (0, 0))) := heap_alloc_new W13.drew _
          refine hK.out _ _ (LwX.full (LwX.alloc hHeld.2.2).out) (fun hHeld => ?_)
          clear hK K
          change wpAnyH _ _ _ _ _ _ _ (⟨#[_,_,_,_,_,_,_,_,_,_,_,_,_,_,_,_,_,_,_,_,_,_,_,_,_,_,_,_,_,_,_,_,_,_,_,_,_,_,_,_,_,_,_,_,_,_,_,_,_,_,_,_,_,_,_,_,_,_,_,_,_,_,_,_,_,_,_,_,_,_,_,_,_,_,_,_,_,_,_,_,_,_,_,_,_,_,_,_,_,_,_,_,_,_,_,_,_,_,_,_,_,_,_,_,_,_,_,_,_,_,_,_,_,_,_,_,_,_,_,_,_,_,_,_,_,_,_,_], _⟩ : Act) _
          refine wpAnyH_ready (rs := [1]) (by kernel_rfl) (by simp) ?_
          refine AllReadyH.cons rfl (fun K hK => ?_) AllReadyH.nil
          go_simp
          with_reducible refine (H26.out _ hHeld.2.2).mono ?_
          rintro _ V' ⟨rfl, hb, hS⟩
          have HP := hidM (box_keptL HP.out hb)
          clear hb
          refine hK.out _ _ hS (fun hHeld => ?_)
          clear hK K hS
          change wpAnyH _ _ _ _ _ _ _ (⟨#[_,_,_,_,_,_,_,_,_,_,_,_,_,_,_,_,_,_,_,_,_,_,_,_,_,_,_,_,_,_,_,_,_,_,_,_,_,_,_,_,_,_,_,_,_,_,_,_,_,_,_,_,_,_,_,_,_,_,_,_,_,_,_,_,_,_,_,_,_,_,_,_,_,_,_,_,_,_,_,_,_,_,_,_,_,_,_,_,_,_,_,_,_,_,_,_,_,_,_,_,_,_,_,_,_,_,_,_,_,_,_,_,_,_,_,_,_,_,_,_,_,_,_,_,_,_,_,_], _⟩ : Act) _
          refine wpAnyH_ready (rs := [2]) (by kernel_rfl) (by simp) ?_
          refine AllReadyH.cons rfl (fun K hK => ?_) AllReadyH.nil
          go_simp
          with_reducible refine (H28.out _ hHeld.2.2).mono ?_
          rintro _ V' ⟨rfl, hb, hS⟩
          have HP := hidM (box_keptL HP.out hb)
          clear hb
          refine hK.out _ _ hS (fun hHeld => ?_)
          clear hK K hS
          change wpAnyH _ _ _ _ _ _ _ (⟨#[_,_,_,_,_,_,_,_,_,_,_,_,_,_,_,_,_,_,_,_,_,_,_,_,_,_,_,_,_,_,_,_,_,_,_,_,_,_,_,_,_,_,_,_,_,_,_,_,_,_,_,_,_,_,_,_,_,_,_,_,_,_,_,_,_,_,_,_,_,_,_,_,_,_,_,_,_,_,_,_,_,_,_,_,_,_,_,_,_,_,_,_,_,_,_,_,_,_,_,_,_,_,_,_,_,_,_,_,_,_,_,_,_,_,_,_,_,_,_,_,_,_,_,_,_,_,_,_], _⟩ : Act) _
          refine wpAnyH_ready (rs := [4]) (by kernel_rfl) (by simp) ?_
          refine AllReadyH.cons rfl (fun K hK => ?_) AllReadyH.nil
          go_simp
          with_reducible refine (H26.out _ hHeld.2.2).mono ?_
          rintro _ V' ⟨rfl, hb, hS⟩
          have HP := hidM (box_keptL HP.out hb)
          clear hb
          refine hK.out _ _ hS (fun hHeld => ?_)
          clear hK K hS
          change wpAnyH _ _ _ _ _ _ _ (⟨#[_,_,_,_,_,_,_,_,_,_,_,_,_,_,_,_,_,_,_,_,_,_,_,_,_,_,_,_,_,_,_,_,_,_,_,_,_,_,_,_,_,_,_,_,_,_,_,_,_,_,_,_,_,_,_,_,_,_,_,_,_,_,_,_,_,_,_,_,_,_,_,_,_,_,_,_,_,_,_,_,_,_,_,_,_,_,_,_,_,_,_,_,_,_,_,_,_,_,_,_,_,_,_,_,_,_,_,_,_,_,_,_,_,_,_,_,_,_,_,_,_,_,_,_,_,_,_,_], _⟩ : Act) _
          refine wpAnyH_ready (rs := [5]) (by kernel_rfl) (by simp) ?_
          refine AllReadyH.cons rfl (fun K hK => ?_) AllReadyH.nil
          go_simp
          with_reducible refine (H27.out _ hHeld.2.2).mono ?_
          rintro _ V' ⟨rfl, hb, hS⟩
          have HP := hidM (box_keptL HP.out hb)
          clear hb
          refine hK.out _ _ hS (fun hHeld => ?_)
          clear hK K hS
          change wpAnyH _ _ _ _ _ _ _ (⟨#[_,_,_,_,_,_,_,_,_,_,_,_,_,_,_,_,_,_,_,_,_,_,_,_,_,_,_,_,_,_,_,_,_,_,_,_,_,_,_,_,_,_,_,_,_,_,_,_,_,_,_,_,_,_,_,_,_,_,_,_,_,_,_,_,_,_,_,_,_,_,_,_,_,_,_,_,_,_,_,_,_,_,_,_,_,_,_,_,_,_,_,_,_,_,_,_,_,_,_,_,_,_,_,_,_,_,_,_,_,_,_,_,_,_,_,_,_,_,_,_,_,_,_,_,_,_,_,_], _⟩ : Act) _
          refine wpAnyH_ready (rs := [6]) (by kernel_rfl) (by simp) ?_
          refine AllReadyH.cons rfl (fun K hK => ?_) AllReadyH.nil
          go_simp
          with_reducible refine (H12.out _ hHeld.2.2).mono ?_
          rintro _ V' ⟨rfl, hb, hS⟩
          have HP := hidM (box_keptL HP.out hb)
          clear hb
          refine hK.out _ _ hS (fun hHeld => ?_)
          clear hK K hS
          change wpAnyH _ _ _ _ _ _ _ (⟨#[_,_,_,_,_,_,_,_,_,_,_,_,_,_,_,_,_,_,_,_,_,_,_,_,_,_,_,_,_,_,_,_,_,_,_,_,_,_,_,_,_,_,_,_,_,_,_,_,_,_,_,_,_,_,_,_,_,_,_,_,_,_,_,_,_,_,_,_,_,_,_,_,_,_,_,_,_,_,_,_,_,_,_,_,_,_,_,_,_,_,_,_,_,_,_,_,_,_,_,_,_,_,_,_,_,_,_,_,_,_,_,_,_,_,_,_,_,_,_,_,_,_,_,_,_,_,_,_], _⟩ : Act) _
          refine wpAnyH_take (i := 7) (v := ?_) rfl (by kernel_rfl) (by kernel_rfl) (by kernel_rfl) (fun _ _ _ h => h) (Or.inl ⟨by kernel_rfl, ?_⟩) (by assumption) ?_
          rotate_left
          · intro w hSw
            clear hSw
            go_simp
            try with_reducible rfl
          change wpAnyH _ _ _ _ _ _ _ (⟨#[_,_,_,_,_,_,_,_,_,_,_,_,_,_,_,_,_,_,_,_,_,_,_,_,_,_,_,_,_,_,_,_,_,_,_,_,_,_,_,_,_,_,_,_,_,_,_,_,_,_,_,_,_,_,_,_,_,_,_,_,_,_,_,_,_,_,_,_,_,_,_,_,_,_,_,_,_,_,_,_,_,_,_,_,_,_,_,_,_,_,_,_,_,_,_,_,_,_,_,_,_,_,_,_,_,_,_,_,_,_,_,_,_,_,_,_,_,_,_,_,_,_,_,_,_,_,_,_], _⟩ : Act) _
          refine wpAnyH_take (i := 8) (v := ?_) rfl (by kernel_rfl) (by kernel_rfl) (by kernel_rfl) (fun _ _ _ h => h) (Or.inl ⟨by kernel_rfl, ?_⟩) (by assumption) ?_
          rotate_left
          · intro w hSw
            clear hSw
            go_simp
            try with_reducible rfl
          change wpAnyH _ _ _ _ _ _ _ (⟨#[_,_,_,_,_,_,_,_,_,_,_,_,_,_,_,_,_,_,_,_,_,_,_,_,_,_,_,_,_,_,_,_,_,_,_,_,_,_,_,_,_,_,_,_,_,_,_,_,_,_,_,_,_,_,_,_,_,_,_,_,_,_,_,_,_,_,_,_,_,_,_,_,_,_,_,_,_,_,_,_,_,_,_,_,_,_,_,_,_,_,_,_,_,_,_,_,_,_,_,_,_,_,_,_,_,_,_,_,_,_,_,_,_,_,_,_,_,_,_,_,_,_,_,_,_,_,_,_], _⟩ : Act) _
          refine wpAnyH_take (i := 9) (v := ?_) rfl (by kernel_rfl) (by kernel_rfl) (by kernel_rfl) (fun _ _ _ h => h) (Or.inl ⟨by kernel_rfl, ?_⟩) (by assumption) ?_
          rotate_left
          · intro w hSw
            clear hSw
            go_simp
            try with_reducible rfl
          change wpAnyH _ _ _ _ _ _ _ (⟨#[_,_,_,_,_,_,_,_,_,_,_,_,_,_,_,_,_,_,_,_,_,_,_,_,_,_,_,_,_,_,_,_,_,_,_,_,_,_,_,_,_,_,_,_,_,_,_,_,_,_,_,_,_,_,_,_,_,_,_,_,_,_,_,_,_,_,_,_,_,_,_,_,_,_,_,_,_,_,_,_,_,_,_,_,_,_,_,_,_,_,_,_,_,_,_,_,_,_,_,_,_,_,_,_,_,_,_,_,_,_,_,_,_,_,_,_,_,_,_,_,_,_,_,_,_,_,_,_], _⟩ : Act) _
          refine wpAnyH_ready (rs := [11]) (by kernel_rfl) (by simp) ?_
          refine AllReadyH.cons rfl (fun K hK => ?_) AllReadyH.nil
          obtain ⟨p0, p1, p2, p3, hset, hrow⟩ := LwX.set hHeld.2.2.out HQ.out HP.out
          go_simp
          refine hK.out _ _ hset.full (fun hHeld => ?_)
          clear hK K p0 p1 p2 p3 hset
          change wpAnyH _ _ _ _ _ _ _ (⟨#[_,_,_,_,_,_,_,_,_,_,_,_,_,_,_,_,_,_,_,_,_,_,_,_,_,_,_,_,_,_,_,_,_,_,_,_,_,_,_,_,_,_,_,_,_,_,_,_,_,_,_,_,_,_,_,_,_,_,_,_,_,_,_,_,_,_,_,_,_,_,_,_,_,_,_,_,_,_,_,_,_,_,_,_,_,_,_,_,_,_,_,_,_,_,_,_,_,_,_,_,_,_,_,_,_,_,_,_,_,_,_,_,_,_,_,_,_,_,_,_,_,_,_,_,_,_,_,_], _⟩ : Act) _
          refine wpAnyH_take (i := 12) (v := ?_) rfl (by kernel_rfl) (by kernel_rfl) (by kernel_rfl) (fun _ _ _ h => h) (Or.inl ⟨by kernel_rfl, ?_⟩) (by assumption) ?_
          rotate_left
          · intro w hSw
            clear hSw
            go_simp
            try with_reducible rfl
          change wpAnyH _ _ _ _ _ _ _ (⟨#[_,_,_,_,_,_,_,_,_,_,_,_,_,_,_,_,_,_,_,_,_,_,_,_,_,_,_,_,_,_,_,_,_,_,_,_,_,_,_,_,_,_,_,_,_,_,_,_,_,_,_,_,_,_,_,_,_,_,_,_,_,_,_,_,_,_,_,_,_,_,_,_,_,_,_,_,_,_,_,_,_,_,_,_,_,_,_,_,_,_,_,_,_,_,_,_,_,_,_,_,_,_,_,_,_,_,_,_,_,_,_,_,_,_,_,_,_,_,_,_,_,_,_,_,_,_,_,_], _⟩ : Act) _
          refine wpAnyH_done (by kernel_rfl) ?_ _
          refine NoPanic.normal ?_
          go_wp2_with fail
          go_meet
          exact ⟨_, rfl, rfl, hHeld.2.2.out, hrow⟩
      case rest =>
        obtain ⟨B, rfl, rfl, hS, hrow⟩ := hcut
        have HB := hidM hS.1.1
        obtain ⟨c0, c1, _⟩ := hS.full
        have hr := hS.2
        have c2 := cell_of_row _ G 0 _ 32 (0, 0) hr
        have c3 := cell_of_row _ G 1 _ 32 (0, 0) hr
        have c4 := cell_of_row _ B 0 _ 32 (0, 0) hrow
        have c5 := cell_of_row _ B 1 _ 32 (0, 0) hrow
        simp only [List.getElem?_toArray, List.getElem?_cons_zero, List.getElem?_cons_succ] at c2 c3 c4 c5
        have hgd := guard32
        have heq := fun V => equal32 k D V
        clear hS hr hrow
        go_wp2
        go_ret
        exact ⟨by first | rfl | simp, HB.out⟩
end Go.Proofs.YtddoemeellbhaaaGreatDoor
