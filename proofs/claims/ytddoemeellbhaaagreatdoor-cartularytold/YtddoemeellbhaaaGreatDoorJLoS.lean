/-
  The law CartularyTold, walked.
  The way to the card where the road reads a variable that no laid table ties: the world that the card hands on is of its shape, and this says what the variable holds.
-/
import Derived.Test.YtddoemeellbhaaaGreatDoorTolM
import Derived.Test.YtddoemeellbhaaaGreatDoorJLrA
import Derived.Test.YtddoemeellbhaaaGreatDoorJLrB
import Derived.Test.YtddoemeellbhaaaGreatDoorTLawW
import Derived.Test.YtddoemeellbhaaaGreatDoorJTDltF
import Derived.Test.YtddoemeellbhaaaGreatDoorJLoF
import Derived.Handed
import Derived.SizedLaws
import Derived.ChangeOld
import Derived.ShutString
import Derived.Shelf.Vars
namespace Go.Proofs.YtddoemeellbhaaaGreatDoor
open Go.RowKit

/-- the delta that was met so far -/
def outD (l : List ByteArray) (IB D : ByteArray) : ByteArray := if (l.any fun x => decide (x = IB)) = true then D else ⟨#[]⟩
theorem outD_next {l : List ByteArray} {IB D : ByteArray} {k : Nat} (h : k < l.length) : outD (l.take (k + 1)) IB D = if l[k] = IB then D else outD (l.take k) IB D := by
  unfold outD
  rw [List.take_succ_eq_append_getElem h, List.any_append]
  by_cases he : l[k] = IB
  · simp only [he, List.any_cons, List.any_nil, decide_true, Bool.or_false, Bool.or_true, if_true]
  · simp only [he, List.any_cons, List.any_nil, decide_false, Bool.or_false, if_false]
theorem Apart.swap2 {f g : FileB} (h : Apart [f, g]) : Apart [g, f] := by
  unfold Apart at h ⊢
  simp at h ⊢
  exact fun e => h e.symm
set_option maxHeartbeats 16000000 in
set_option maxRecDepth 100000 in
theorem told_walk (base text : ByteArray) (w : World) (hG : LG w) (hM : MI w) :
    Calls Tryz.prog 7 #[.string base, .string text] w fun e w' => e = .returned (.bool true) ∧ Below w.heap.size w w' := by
  have HG := hidM hG
  have HM := hidM hM
  have HF1 := hidM (fun V => fewL_any base V)
  have HF2 := hidM (fun V => fewL_any text V)
  have hb4 := fewS_size base
  have ht4 := fewS_size text
  clear hG hM
  generalize fewS base = b at *
  generalize fewS text = t at *
  have HMK := hidM (fun V => Dlt.make_any b t V (by omega) (by omega))
  go_enter Tryz.func7, Tryz.ntmps7
  go_wp2_with fail
  refine (HF1.out _).mono ?_
  rintro _ wv ⟨rfl, hwv⟩
  rw [hwv]
  clear hwv wv HF1
  go_wp2_with fail
  refine (HF2.out _).mono ?_
  rintro _ wv ⟨rfl, hwv⟩
  rw [hwv]
  clear hwv wv HF2
  go_wp2_with fail
  refine (HMK.out _).mono ?_
  rintro _ w1 ⟨D, rfl, hD, hb1⟩
  have hds := hD.size
  have HD := hidM hD
  have HB1 := hidM hb1
  have HG1 := hidM (HG.out.below hb1)
  have HM1 := hidM (HM.out.below hb1)
  clear hD hb1 HMK HG HM
  have cB : checkE 3 b.size = 0 := checkE_zero.2 ⟨by decide, by omega⟩
  have cD : checkE 4 D.size = 0 := checkE_zero.2 ⟨by decide, by omega⟩
  have HW1 := hidM (lwrite_yes 3 b w1 HG1.out cB)
  have HW2 := hidM (fun V (hV : LG V) => lwrite_yes 4 D V hV cD)
  obtain ⟨IA, hIA⟩ : ∃ IA : ByteArray, IA = ⟨(hexL (sha1L (encL 3 b.data.toList))).toArray⟩ := ⟨_, rfl⟩
  obtain ⟨IB, hIB⟩ : ∃ IB : ByteArray, IB = ⟨(hexL (sha1L (encL 4 D.data.toList))).toArray⟩ := ⟨_, rfl⟩
  have hAL : IA.data.toList = hexL (sha1L (encL 3 b.data.toList)) := by rw [hIA]
  have hBL : IB.data.toList = hexL (sha1L (encL 4 D.data.toList)) := by rw [hIB]
  have HAB := hidM (show idB IA.data.toList = true by rw [hAL]; exact idB_hex _ (sha1L_len _))
  have HBB := hidM (show idB IB.data.toList = true by rw [hBL]; exact idB_hex _ (sha1L_len _))
  have HAL := hidM hAL
  have HBL := hidM hBL
  rw [← hIA] at HW1
  rw [← hIB] at HW2
  have hpa := path_size HAB.out
  have hpb := path_size HBB.out
  have HPI := hidM (path_inj HAB.out HBB.out)
  have HOK := hidM (fun (X Y : ByteArray) h => two_ok (X := X) (Y := Y) HAB.out HBB.out h)
  clear hIA hIB hAL hBL
  obtain ⟨PA, hPA⟩ : ∃ PA, PA = pathB IA := ⟨_, rfl⟩
  obtain ⟨PB, hPB⟩ : ∃ PB, PB = pathB IB := ⟨_, rfl⟩
  have HPA := hidM hPA
  have HPB := hidM hPB
  rw [← hPA] at HW1 hpa HPI
  rw [← hPB] at HW2 hpb HPI
  clear hPA hPB
  go_wp2_with fail
  refine HW1.out.mono ?_
  rintro _ w2 ⟨⟨X, rfl, hfr, hxs⟩, hb2⟩
  have HFX := hidM hfr
  have HB2 := hidM (HB1.out.trans (hb2.mono HB1.out.size))
  have HG2 := hidM (HG1.out.below hb2)
  have HM2 := hidM (HM1.out.below hb2)
  clear hfr hb2 HB1 HG1 HM1 HW1
  unfold filV
  go_wp2_with fail
  have HBA : Hid (Below w2.heap.size w2 (w2.alloc (.cells #[.string PA, .string X] 48))) := (Below.refl _ _).alloc (Nat.le_refl _) _
  have HXA : Hid ((w2.alloc (.cells #[.string PA, .string X] 48)).heap[w2.heap.size]? = some (.cells #[.string PA, .string X] 48 (0, 0))) := heap_alloc_new w2 _
  have HB3 := hidM (HB2.out.trans (HBA.out.mono HB2.out.size))
  have HG3 := hidM (HG2.out.below HBA.out)
  have HM3 := hidM (HM2.out.below HBA.out)
  have HF0 : Hid (w.heap.size ≤ w2.heap.size) := HB2.out.size
  clear HB2 HG2 HM2 HBA
  generalize w2.alloc (.cells #[.string PA, .string X] 48) = w3 at *
  generalize w2.heap.size = F at *
  refine (HW2.out _ HG3.out).mono ?_
  rintro _ w4 ⟨⟨Y, rfl, hfr, hys⟩, hb4⟩
  have HFY := hidM hfr
  have HX4 := hidM (box_keptL HXA.out hb4)
  have HB4 := hidM (HB3.out.trans (hb4.mono HB3.out.size))
  have HG4 := hidM (HG3.out.below hb4)
  have HM4 := hidM (HM3.out.below hb4)
  have HFl : Hid (F < w4.heap.size) := (Array.getElem?_eq_some_iff.1 HX4.out).1
  clear hfr hb4 HB3 HG3 HM3 HXA HW2
  unfold filV
  have HBA : Hid (Below w4.heap.size w4 (w4.alloc (.cells #[.string PB, .string Y] 48))) := (Below.refl _ _).alloc (Nat.le_refl _) _
  have HX5 : Hid ((w4.alloc (.cells #[.string PB, .string Y] 48)).heap[F]? = some (.cells #[.string PA, .string X] 48 (0, 0))) := box_keptL HX4.out HBA.out
  have HY5 : Hid ((w4.alloc (.cells #[.string PB, .string Y] 48)).heap[w4.heap.size]? = some (.cells #[.string PB, .string Y] 48 (0, 0))) := heap_alloc_new w4 _
  have HB5 := hidM (HB4.out.trans (HBA.out.mono HB4.out.size))
  have HG5 := hidM (HG4.out.below HBA.out)
  have HM5 := hidM (HM4.out.below HBA.out)
  have cF0 : (w4.alloc (.cells #[.string PB, .string Y] 48)).cell? ⟨F, 0, none⟩ = some (.string PA) := by rw [cell_of_row _ F 0 _ 48 (0, 0) HX5.out]; rfl
  have cF1 : (w4.alloc (.cells #[.string PB, .string Y] 48)).cell? ⟨F, 1, none⟩ = some (.string X) := by rw [cell_of_row _ F 1 _ 48 (0, 0) HX5.out]; rfl
  by_cases hpp : PA = PB
  · have e1 : (PA.toList == PB.toList) = true := beq_iff.2 hpp
    have e2 : PA.toList.isEmpty = false := by
      have h : PA.toList ≠ [] := fun h => by
        have h2 : PA.toList.length = PA.size := by rw [ByteArray.toList_eq]; exact len_size PA
        rw [h] at h2; cases hpa.symm.trans h2.symm
      cases h' : PA.toList <;> simp_all
    have HBZ := hidM HB5.out
    clear hpp
    go_wp2_with fail
    go_ret
    exact ⟨rfl, HBZ.out⟩
  have e1 : (PA.toList == PB.toList) = false := bytes_ne hpp
  have HNE := hidM hpp
  clear hpp
  have HCA : Hid (∀ V : World, V = (w4.alloc (.cells #[.string PB, .string Y] 48)).alloc (.cells #[.string PA, .string X, .string PB, .string Y] 48) → V.heap[w4.heap.size + 1]? = some (.cells #[.string PA, .string X, .string PB, .string Y] 48 (0, 0)) ∧ Below w.heap.size w V ∧ LG V ∧ MI V ∧ w4.heap.size + 1 < V.heap.size) := by
    rintro V rfl
    have hbx : Below (w4.alloc (.cells #[.string PB, .string Y] 48)).heap.size (w4.alloc (.cells #[.string PB, .string Y] 48)) ((w4.alloc (.cells #[.string PB, .string Y] 48)).alloc (.cells #[.string PA, .string X, .string PB, .string Y] 48)) := (Below.refl _ _).alloc (Nat.le_refl _) _
    have hh := heap_alloc_new (w4.alloc (.cells #[.string PB, .string Y] 48)) (.cells #[.string PA, .string X, .string PB, .string Y] 48)
    have hsz : (w4.alloc (.cells #[.string PB, .string Y] 48)).heap.size = w4.heap.size + 1 := by simp
    rw [hsz] at hh
    exact ⟨hh, HB5.out.trans (hbx.mono HB5.out.size), HG5.out.below hbx, HM5.out.below hbx, (Array.getElem?_eq_some_iff.1 hh).1⟩
  clear HB4 HG4 HM4 HX4 HB5 HG5 HM5 HX5 HY5 HBA HFl HF0
  go_wp2_with fail
  generalize (w4.alloc (.cells #[.string PB, .string Y] 48)).alloc (.cells #[.string PA, .string X, .string PB, .string Y] 48) = w6 at *
  obtain ⟨h6, hB6, hG6, hM6, hl6⟩ := HCA.out _ rfl
  clear HCA cF0 cF1
  have HB6 := hidM hB6
  have HG6 := hidM hG6
  have HM6 := hidM hM6
  have hFA : FilesAt w6 (w4.heap.size + 1) 0 (twoF IA IB X Y) := by
    intro i hi
    have hi2 : i < 2 := hi
    rcases i with _ | _ | i
    · exact ⟨by rw [cell_of_row _ _ _ _ 48 (0, 0) h6, HPA.out]; rfl, by rw [cell_of_row _ _ _ _ 48 (0, 0) h6]; rfl⟩
    · exact ⟨by rw [cell_of_row _ _ _ _ 48 (0, 0) h6, HPB.out]; rfl, by rw [cell_of_row _ _ _ _ 48 (0, 0) h6]; rfl⟩
    · omega
  have hok2 := HOK.out X Y (by rw [← HPA.out, ← HPB.out]; exact HNE.out)
  have hsz2 : sizeF (twoF IA IB X Y) ≤ 132000 := by unfold sizeF twoF; simp; omega
  have HNEW := hidM (new_anyO (w4.heap.size + 1) 0 2 (twoF IA IB X Y) w6 hl6 hFA (by omega) (by unfold twoF; simp))
  have HOK2 := hidM hok2
  have HSZ2 := hidM hsz2
  clear h6 hB6 hG6 hM6 hFA hok2 hsz2 HOK
  have hl2 : (twoF IA IB X Y).length = 2 := rfl
  rw [hl2] at HNEW
  clear hl2
  refine HNEW.out.mono ?_
  rintro _ w7 ⟨hnp, hb7⟩
  have HB7 := hidM (HB6.out.trans (hb7.mono HB6.out.size))
  have HG7 := hidM (HG6.out.below hb7)
  have HM7 := hidM (HM6.out.below hb7)
  clear hb7 HNEW HB6 HG6 HM6 hl6
  obtain ⟨gs, q, bb, c, hperm, hrise, hfold, rfl⟩ : ∃ gs q bb c, gs.Perm (twoF IA IB X Y) ∧ RiseS gs ∧ Folder w7 q bb 0 c gs ∧ _ = newR (some ⟨q, 0, none⟩) 0 := by
    rcases hnp with ⟨hbig, _⟩ | ⟨_, hno, _⟩ | ⟨_,_, gs, q, bb, c, h1, h2, h3, _,_, h6⟩
    · exfalso
      have := HSZ2.out
      unfold bigF at hbig
      have h2 : (twoF IA IB X Y).length = 2 := rfl
      omega
    · exact absurd HOK2.out hno
    · exact ⟨gs, q, bb, c, h1, h2, h3, h6⟩
  unfold newR
  have HPE := hidM hperm
  have HRI := hidM hrise
  have HFO := hidM hfold
  have hgl : gs.length = 2 := hperm.length_eq
  have HGL := hidM hgl
  have HLS := hidM (llist_any q bb 0 c gs w7 hfold (by omega) hrise.rise (fun f hf => clean_size (HOK2.out.1 f (hperm.mem_iff.1 hf))) HM7.out)
  have HTL := hidM (twoF_list (X := X) (Y := Y) HAB.out HBB.out hperm)
  have HSF : Hid (∀ f ∈ gs, f.2.size ≤ 1000000) := fun f hf => by
    have := hperm.mem_iff.1 hf
    unfold twoF at this
    simp at this
    rcases this with rfl | rfl
    · show X.size ≤ _; omega
    · show Y.size ≤ _; omega
  clear hnp hperm hrise hfold hgl
  generalize listL (pathsL (undF gs objS)) = ls at *
  go_wp2_with fail
  refine HLS.out.mono ?_
  rintro _ w8 ⟨⟨v8, ho8, rfl⟩, hb8⟩
  have HB8 := hidM (HB7.out.trans (hb8.mono HB7.out.size))
  have HG8 := hidM (HG7.out.below hb8)
  have HFO8 := hidM (HFO.out.below hb8)
  clear hb8 HLS HB7 HG7 HM7 HFO
  obtain ⟨a8, c8, rfl, hsa⟩ := ho8.shape
  have HLL : Hid (ls.length = 2) := by unfold Hid; rcases HTL.out with h | h <;> rw [h] <;> rfl
  obtain ⟨g8, rfl, _, hg8, hcl⟩ := hsa (fun h => by have := HLL.out; rw [h] at this; cases this)
  have HCL := hidM hcl
  clear hcl hsa ho8
  rw [HLL.out]
  have hAP := HOK2.out.2.1
  have HRA : Hid (∀ V, Folder V q bb 0 c gs → LG V → Calls Tryz.prog 17 #[.pointer (some ⟨q, 0, none⟩), .string IA] V fun e w' => e = .returned (.tuple #[.agg #[.int .i64 3, .string b], .int .i64 0]) ∧ Below V.heap.size V w') := fun V hF hV => by
    refine (lread_any q bb 0 c gs IA V hF (by rw [HGL.out]; decide) HRI.out.rise HSF.out hV (by rw [idB_size HAB.out]; decide)).mono ?_
    rintro _ w' ⟨⟨x, hq, rfl⟩, hb⟩
    have h := read_frame (k := 3) (d := b.data.toList) (X := X) (id := IA) (us := [(pathB IB, Y)]) (by rw [len_size]; exact cB) HFX.out HAL.out (Apart.swap2 hAP) (HPE.out.trans (List.Perm.swap _ _ _)) hq
    rw [h]
    exact ⟨rfl, hb⟩
  have HRB : Hid (∀ V, Folder V q bb 0 c gs → LG V → Calls Tryz.prog 17 #[.pointer (some ⟨q, 0, none⟩), .string IB] V fun e w' => e = .returned (.tuple #[.agg #[.int .i64 4, .string D], .int .i64 0]) ∧ Below V.heap.size V w') := fun V hF hV => by
    refine (lread_any q bb 0 c gs IB V hF (by rw [HGL.out]; decide) HRI.out.rise HSF.out hV (by rw [idB_size HBB.out]; decide)).mono ?_
    rintro _ w' ⟨⟨x, hq, rfl⟩, hb⟩
    have h := read_frame (k := 4) (d := D.data.toList) (X := Y) (id := IB) (us := [(pathB IA, X)]) (by rw [len_size]; exact cD) HFY.out HBL.out hAP HPE.out hq
    rw [h]
    exact ⟨rfl, hb⟩
  have HIA : Hid ((⟨(idT 3 b.data.toList).toArray⟩ : ByteArray) = IA) := by
    unfold Hid
    refine bytes_ext ?_
    rw [HAL.out]
    unfold idT
    rw [if_pos (by rw [len_size]; exact cB)]
  have HNI : Hid (¬ IA = IB) := fun h => HNE.out (by rw [HPA.out, HPB.out, h])
  clear hAP HRI HSF HPE HOK2 HSZ2 HFX HFY HPI HPA HPB hpa hpb HAL HBL hxs hys HNE e1
  have hlk : ∀ k (h : k < ls.length), (ls[k] = IA ∨ ls[k] = IB) ∧ (k = 0 → outD [] IB D = ⟨#[]⟩) := fun k h => by
    refine ⟨?_, fun _ => rfl⟩
    have h2 : k < 2 := by rw [← HLL.out]; exact h
    rcases HTL.out with e | e <;> simp only [e] <;> rcases k with _ | _ | k <;> first | omega | simp
  have HLK := hidM hlk
  have HLI : Hid (outD (ls.take 2) IB D = D) := by
    unfold Hid outD
    rcases HTL.out with e | e <;> rw [e] <;> simp
  have HCK := hidM (fun (V : World) (hb : Below w8.heap.size w8 V) (k : Nat) (h : k < ls.length) => (hb.cell (p := ⟨g8, k, none⟩) hg8).trans (HCL.out k h))
  clear hlk HCL HTL hg8
  go_wp2
  go_loopw [12, 14, 15, 16, 80] (fun ov _ _ _ iv wr => ∃ k : Nat, k ≤ 2 ∧ iv = .int .i64 (k : Int) ∧ ov = .string (outD (ls.take k) IB D) ∧ Below w8.heap.size w8 wr) (fun _ _ _ _ iv _ => 2 - (intOf iv).toNat)
  case atStart => exact ⟨0, Nat.zero_le _, rfl, rfl, Below.refl _ _⟩
  case round =>
    obtain ⟨k, hk, rfl, rfl, hbel⟩ := hrel
    have HW := hidM hbel
    have HGr := hidM (HG8.out.below hbel)
    have HFr := hidM (HFO8.out.below hbel)
    by_cases hlt : k < 2
    · have hkl : k < ls.length := by rw [HLL.out]; exact hlt
      have x0 := HCK.out wr hbel k hkl
      have HST := hidM (outD_next (IB := IB) (D := D) hkl)
      clear hbel
      rcases (HLK.out k hkl).1 with e | e
      · rw [e] at x0 HST
        rw [if_neg HNI.out] at HST
        go_wp2_with fail
        refine (HRA.out wr HFr.out HGr.out).mono ?_
        rintro _ wv ⟨rfl, hbv⟩
        have HWv := hidM (HW.out.trans (hbv.mono HW.out.size))
        clear hbv HW HGr HFr x0
        have HA : Hid (∀ ob, Below w8.heap.size w8 (wv.alloc ob)) := fun ob => HWv.out.alloc HWv.out.size ob
        have HEA : Hid ((wv.alloc (.cells #[.int .i64 3, .string b] 32)).heap[wv.heap.size]? = some (.cells #[.int .i64 3, .string b] 32 (0, 0))) := heap_alloc_new _ _
        have c0 : (wv.alloc (.cells #[.int .i64 3, .string b] 32)).cell? ⟨wv.heap.size, 0, none⟩ = some (.int .i64 3) := by rw [cell_of_row _ _ _ _ 32 (0, 0) HEA.out]; rfl
        go_wp2
        go_roundw
        case rel => exact ⟨k + 1, by omega, by go_num, by rw [HST.out], HA.out _⟩
        case measure => simp [intOf]; omega
      · rw [e] at x0 HST
        rw [if_pos rfl] at HST
        go_wp2_with fail
        refine (HRB.out wr HFr.out HGr.out).mono ?_
        rintro _ wv ⟨rfl, hbv⟩
        have HWv := hidM (HW.out.trans (hbv.mono HW.out.size))
        clear hbv HW HGr HFr x0
        have HA : Hid (∀ ob, Below w8.heap.size w8 (wv.alloc ob)) := fun ob => HWv.out.alloc HWv.out.size ob
        have HEA : Hid ((wv.alloc (.cells #[.int .i64 4, .string D] 32)).heap[wv.heap.size]? = some (.cells #[.int .i64 4, .string D] 32 (0, 0))) := heap_alloc_new _ _
        have c0 : (wv.alloc (.cells #[.int .i64 4, .string D] 32)).cell? ⟨wv.heap.size, 0, none⟩ = some (.int .i64 4) := by rw [cell_of_row _ _ _ _ 32 (0, 0) HEA.out]; rfl
        have c1 : (wv.alloc (.cells #[.int .i64 4, .string D] 32)).cell? ⟨wv.heap.size, 1, none⟩ = some (.string D) := by rw [cell_of_row _ _ _ _ 32 (0, 0) HEA.out]; rfl
        go_wp2
        go_roundw
        case rel => exact ⟨k + 1, by omega, by go_num, by rw [HST.out], HA.out _⟩
        case measure => simp [intOf]; omega
    · obtain rfl : k = 2 := by omega
      rw [HLI.out]
      have HBr := hidM (HB8.out.trans (HW.out.mono HB8.out.size))
      have cT : checkE 3 t.size = 0 := checkE_zero.2 ⟨by decide, by omega⟩
      have HT40 : Hid ((⟨(idT 3 t.data.toList).toArray⟩ : ByteArray).size = 40) := by
        unfold Hid
        rw [← len_size]
        show (idT 3 t.data.toList).length = 40
        unfold idT
        rw [if_pos (by rw [len_size]; exact cT)]
        exact idB_len40 (idB_hex _ (sha1L_len _))
      have HIDT := hidM (fun V (hV : LG V) => id_any 3 t V hV.2)
      rw [cT] at HIDT
      generalize (⟨(idT 3 t.data.toList).toArray⟩ : ByteArray) = T at *
      have HIDB := hidM (id_any 3 b wr HGr.out.2)
      rw [cB, HIA.out] at HIDB
      have HAPP := hidM (fun V => Dlt.apply_any b D (t.size : Int) V (by omega) (by omega))
      have hap := HD.out.ok (t.size : Int) (by omega) (by omega) (Int.le_refl _)
      rw [hap] at HAPP
      clear hap hbel HW HRB HCK HLK HLI HNI HLL cB cD cT HB8 HG8 HFO8 HIA HAB HBB HD
      have HTT : Hid ((⟨t.data.toList.toArray⟩ : ByteArray) = t) := rfl
      simp only [HTT.out] at HAPP
      go_wp2_with fail
      refine HIDB.out.mono ?_
      rintro _ w10 ⟨rfl, hb10⟩
      have HB10 := hidM (HBr.out.trans (hb10.mono HBr.out.size))
      have HG10 := hidM (HGr.out.below hb10)
      have HF10 := hidM (HFr.out.below hb10)
      clear hb10 HIDB HBr HGr HFr
      go_wp2_with fail
      refine (HRA.out w10 HF10.out HG10.out).mono ?_
      rintro _ w11 ⟨rfl, hb11⟩
      have HB11 := hidM (HB10.out.trans (hb11.mono HB10.out.size))
      have HG11 := hidM (HG10.out.below hb11)
      clear hb11 HRA HB10 HG10 HF10
      have HEA : Hid ((w11.alloc (.cells #[.int .i64 3, .string b] 32)).heap[w11.heap.size]? = some (.cells #[.int .i64 3, .string b] 32 (0, 0))) := heap_alloc_new _ _
      have HBA : Hid (Below w11.heap.size w11 (w11.alloc (.cells #[.int .i64 3, .string b] 32))) := (Below.refl _ _).alloc (Nat.le_refl _) _
      have c0 : (w11.alloc (.cells #[.int .i64 3, .string b] 32)).cell? ⟨w11.heap.size, 0, none⟩ = some (.int .i64 3) := by rw [cell_of_row _ _ _ _ 32 (0, 0) HEA.out]; rfl
      have c1 : (w11.alloc (.cells #[.int .i64 3, .string b] 32)).cell? ⟨w11.heap.size, 1, none⟩ = some (.string b) := by rw [cell_of_row _ _ _ _ 32 (0, 0) HEA.out]; rfl
      have HB12 := hidM (HB11.out.trans (HBA.out.mono HB11.out.size))
      have HG12 := hidM (HG11.out.below HBA.out)
      clear HB11 HG11 HBA
      go_wp2_with fail
      generalize hW12 : w11.alloc (.cells #[.int .i64 3, .string b] 32) = w12 at *
      clear hW12
      generalize w11.heap.size = O at *
      have hOl : O < w12.heap.size := (Array.getElem?_eq_some_iff.1 HEA.out).1
      refine (HAPP.out w12).mono ?_
      rintro _ w13 ⟨rfl, hb13⟩
      have HB13 := hidM (HB12.out.trans (hb13.mono HB12.out.size))
      have HG13 := hidM (HG12.out.below hb13)
      have HE13 := hidM (box_keptL HEA.out hb13)
      clear hb13 HAPP HB12 HG12 HEA c0 c1 hOl
      go_wp2_with fail
      refine (HIDT.out w13 HG13.out).mono ?_
      rintro _ w14 ⟨rfl, hb14⟩
      have HB14 := hidM (HB13.out.trans (hb14.mono HB13.out.size))
      have HG14 := hidM (HG13.out.below hb14)
      have HE14 := hidM (box_keptL HE13.out hb14)
      clear hb14 HB13 HG13 HE13
      have c0 : w14.cell? ⟨O, 0, none⟩ = some (.int .i64 3) := by rw [cell_of_row _ _ _ _ 32 (0, 0) HE14.out]; rfl
      go_wp2_with fail
      refine (HIDT.out w14 HG14.out).mono ?_
      rintro _ w15 ⟨rfl, hb15⟩
      have HB15 := hidM (HB14.out.trans (hb15.mono HB14.out.size))
      clear hb15 HB14 HG14 HE14 HIDT c0
      have b1 : (t.toList == t.toList) = true := by simp
      have b2 : (T.toList == T.toList) = true := by simp
      have b3 : ((T.size : Int) == 40) = true := by rw [HT40.out]; rfl
      go_wp2
      go_ret
      exact ⟨rfl, HB15.out⟩
end Go.Proofs.YtddoemeellbhaaaGreatDoor
namespace Go.Proofs.YtddoemeellbhaaaGreatDoor
open Go.ChangeShapes Go.WideShapes Go.WideMaps Go.WideElems

theorem mi_of_open {w : World} (h : w.ShapedOpen Tryz.prog) : MI w :=
  cell_of_shapedOpen_int (P := Tryz.prog) (g := 0) (t := 3) (zero := #[.int .i64 0]) (k := .i64) h (of_decide_eq_true (by kernel_rfl)) (by kernel_rfl) rfl (by kernel_rfl) (by kernel_rfl) (by kernel_rfl)

theorem handed_open {H : Type} {enc : TypeId × Value → H} {a : Assume} {C : Checked} {os : Os} {f : FuncId} {fn : Func} {s : ChangeSpec} {conds : List PathCond} {apart fresh handsOn again : Bool} {X : World → Array Value → Prop}
    (hX : ∀ (w w' : World) (args : Array Value), w.heap = w'.heap → X w args → X w' args)
    (own : ownKnob C.prog.godebug = none) (started : os.Started) (noInit : C.prog.inits.idxOf? f = none) (hfn : C.prog.funcs[f]? = some fn)
    (wit : ∃ (w : World) (tape : Tape) (i : Input), w.os = os ∧ (w.forCall tape i).Shaped C.prog ∧ i.vars = [] ∧ Input.okWide C.prog (w.forCall tape i) .any w.heap.size f i ∧
      ((s.pre enc C.prog fn conds apart (w.forCall tape i).memory i.args ∧ X (w.forCall tape i).memory i.args) ∧ sizedMet enc C.prog fn (OpenSpec.ofChange s) apart (w.forCall tape i).memory i.args) ∧ a.holds C.prog (lone (Frame.enter C.prog f i.args .normal) [] (w.forCall tape i)))
    (K : ∀ (W : World) (base : Nat) (args : Array Value) (ds gs : List (DataW H)) (before : List MemPlace), W.ShapedOpen C.prog →
      (∀ (j : Nat) t v, fn.params[j]? = some t → args[j]? = some v → Value.okWide C.prog W .any base t v) →
      DataW.Whole enc C.prog fn.params.toList s.vars apart W args.toList ds gs before →
      conds.all (PathCond.test C.prog ⟨fn.params.toList, ds, s.plain.varTypes C.prog, gs⟩) = true →
      (DataW.weightsEach C.prog (fn.params.toList ++ s.plain.varTypes C.prog) (ds ++ gs)).all (· ≤ reachBytes) = true → X W args →
      Calls C.prog f args W fun e W' => ∃ v, e = .returned v ∧ s.post enc C.prog fn apart fresh handsOn again W args v W') :
    ReturnsInHanded a C os f .any (fun w args => (s.pre enc C.prog fn conds apart w args ∧ X w args) ∧ sizedMet enc C.prog fn (OpenSpec.ofChange s) apart w args) (s.post enc C.prog fn apart fresh handsOn again) := by
  refine returnsInHanded_of_calls own started noInit wit fun w tape i _ hso _ hok hpre _ => ?_
  obtain ⟨_,_,_, g, hg, _,_,_,_, hval⟩ := hok
  obtain rfl : g = fn := Option.some.inj (hg.symm.trans hfn)
  obtain ⟨⟨⟨ds, gs, before, hw, hc⟩, hx⟩, hz⟩ := hpre
  refine (K (w.forCall tape i) w.heap.size i.args ds gs before hso hval (DataW.Whole.of_heap (w' := w.forCall tape i) (by rfl) hw) hc (hz.weights hw) (hX _ _ _ (by rfl) hx)).mono fun e W' ⟨v, he, hp⟩ => ?_
  subst he
  exact ChangeSpec.post_blind hp
end Go.Proofs.YtddoemeellbhaaaGreatDoor
