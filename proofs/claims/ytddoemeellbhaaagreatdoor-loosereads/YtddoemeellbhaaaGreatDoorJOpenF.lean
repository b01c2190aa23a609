/-
  The law LooseReads, walked.
  The way to the card where the road reads a variable that no laid table ties: the world that the card hands on is of its shape, and this says what the variable holds.
  A slice of files that was handed in, opened.
-/
import Derived.Test.YtddoemeellbhaaaGreatDoorJLrD
import Derived.Test.YtddoemeellbhaaaGreatDoorJLrA
import Derived.Handed
import Derived.SizedLaws
import Derived.ChangeOld
import Derived.ShutString
import Derived.Shelf.Vars
import Derived.Test.YtddoemeellbhaaaGreatDoorJSnapL
import Derived.Deep.SlicePairs
namespace Go.Proofs.YtddoemeellbhaaaGreatDoor
open Go.RowKit

theorem read_det {us gs : List FileB} {id : ByteArray} {x y : Nat × List UInt8 × Nat} (ha : Apart us) (hg : gs.Perm us) (hx : ReadQ gs id x) (hy : ReadQ us id y) : x = y := by
  rcases hx with ⟨h1, rfl⟩ | ⟨h1, h2, rfl⟩ | ⟨h1, f, hf, hfp, hq⟩
  · rcases hy with ⟨_, rfl⟩ | ⟨k1, _⟩ | ⟨k1, _⟩
    · rfl
    · rw [h1] at k1; cases k1
    · rw [h1] at k1; cases k1
  · rcases hy with ⟨k1, rfl⟩ | ⟨_,_, rfl⟩ | ⟨_, f, hf, hfp, _⟩
    · rw [h1] at k1; cases k1
    · rfl
    · exact absurd hfp (h2 f (hg.mem_iff.2 hf))
  · rcases hy with ⟨k1, rfl⟩ | ⟨_, k2, rfl⟩ | ⟨_, f', hf', hfp', hq'⟩
    · rw [h1] at k1; cases k1
    · exact absurd hfp (k2 f (hg.mem_iff.1 hf))
    · obtain rfl : f = f' := apart_eq ha (hg.mem_iff.1 hf) hf' (hfp.trans hfp'.symm)
      exact FilQ.det hq hq'
theorem und_begin {gs : List FileB} : ∀ p ∈ pathsL (undF gs objS), ∃ t, p.data.toList = objL ++ t := by
  intro p hp
  unfold pathsL undF at hp
  obtain ⟨f, hf, rfl⟩ := List.mem_map.1 hp
  rw [List.mem_filter] at hf
  have h := hf.2
  unfold beginsF Lib.hasPrefix at h
  obtain ⟨t, ht⟩ := List.isPrefixOf_iff_prefix.1 h
  exact ⟨t, ht.symm⟩
theorem lists_same {us gs : List FileB} (hg : gs.Perm us) (hr : RiseS gs) : dlist (rundF us objS) = listL (pathsL (undF gs objS)) := by
  rw [rund_eq objS hg hr, list_same und_begin]
theorem same_self (l : List ByteArray) : sameB l l = true := by unfold sameB; exact decide_eq_true rfl
def LRq (us : List FileB) (p : Option Addr) (n : Int) (V : World) : Prop := n ≠ 0 ∨ (n = 0 ∧ ∃ gs q b c, p = some ⟨q, 0, none⟩ ∧ gs.Perm us ∧ RiseS gs ∧ OkF us ∧ Folder V q b 0 c gs)
theorem LRq.below {us : List FileB} {p : Option Addr} {n : Int} {V V' : World} (h : LRq us p n V) (hb : Below V.heap.size V V') : LRq us p n V' := by
  rcases h with h | ⟨h, gs, q, b, c, h1, h2, h3, h4, h5⟩
  · exact .inl h
  · exact .inr ⟨h, gs, q, b, c, h1, h2, h3, h4, h5.below hb⟩
set_option maxHeartbeats 16000000 in
set_option maxRecDepth 100000 in
theorem lreads_walk (v : Value) (fs : List FileB) (id raw : ByteArray) (w : World) (hG : LG w) (hM : MI w) (hV : FilesV w v fs) (hi : id.size ≤ maxLen) :
    Calls Tryz.prog 3 #[v, .string id, .string raw] w fun e w' => e = .returned (.bool true) ∧ Below w.heap.size w w' := by
  have HG := hidM hG
  have HM := hidM hM
  have HSH := hidM (short_any v 30 fs w hV (by decide))
  have HS4 : Hid (∀ f ∈ (fs.take 30).map cutF, f.2.size ≤ 400) := fun f hf => by
    obtain ⟨g, _, rfl⟩ := List.mem_map.1 hf
    exact fewS_size _
  have hl30 : ((fs.take 30).map cutF).length ≤ 30 := by rw [List.length_map, List.length_take]; omega
  have HAW := hidM (fun V => lawake_any V)
  have HFW := hidM (fun V => fewL_any raw V)
  have hfz := fewS_size raw
  have HPA := hidM (fun V => lpath_any id V hi)
  have HID := hidM (fun V => rid9_any id V hi)
  have HRP := hidM (fun V h => rpath_any id V h)
  have HMX := hidM hi
  have HPR : Hid ((idB id.data.toList = true → (pathR id).1 = pathB id ∧ (pathR id).2 = 0 ∧ id.size = 40) ∧ (idB id.data.toList = false → (pathR id).1 = ⟨#[]⟩ ∧ (pathR id).2 = 4)) := by
    refine ⟨fun h => ?_, fun h => ?_⟩
    · unfold pathR; rw [if_pos h]; exact ⟨rfl, rfl, idB_size h⟩
    · unfold pathR; rw [h, if_neg (by decide)]; exact ⟨rfl, rfl⟩
  clear hG hV hM hi
  generalize (fs.take 30).map cutF = us at *
  generalize fewS raw = RW at *
  have HSZ := hidM (sizeF_le400 HS4.out)
  go_enter Tryz.func3, Tryz.ntmps3
  go_wp2_with fail
  refine HSH.out.mono ?_
  rintro _ w1 ⟨⟨g, cap, rfl, hg, hgl, hcap, hFA⟩, hb1⟩
  have HB1 := hidM hb1
  have HG1 := hidM (HG.out.below hb1)
  have HM1 := hidM (HM.out.below hb1)
  have HF1 := hidM hFA
  have HNEW := hidM (new_anyO g 0 cap us w1 hgl hFA (by have := HSZ.out; omega) (by omega))
  clear hb1 hFA HSH HG HM hg hcap
  obtain ⟨len, hl⟩ : ∃ len, len = us.length := ⟨_, rfl⟩
  rw [← hl] at HNEW hl30 ⊢
  have HL := hidM hl
  clear hl
  go_wp2_with fail
  refine (HFW.out _).mono ?_
  rintro _ w1' ⟨rfl, rfl⟩
  clear HFW
  go_wp2_with fail
  refine HNEW.out.mono ?_
  rintro e2 w2 ⟨hnp, hb2⟩
  have HB2 := hidM (HB1.out.trans (hb2.mono HB1.out.size))
  have HG2 := hidM (HG1.out.below hb2)
  have HM2 := hidM (HM1.out.below hb2)
  have HF2 := hidM (HF1.out.below hb2 hgl)
  have hgl2 : g < w2.heap.size := Nat.lt_of_lt_of_le hgl hb2.size
  obtain ⟨ps, en, rfl, hnq⟩ : ∃ ps en, e2 = newR ps en ∧ LRq us ps en w2 := by
    rcases hnp with ⟨hbig, rfl⟩ | ⟨_, hnok, rfl⟩ | ⟨hnb, hok, gs, q, b, c, hperm, hrise, hfold, hq, hb, rfl⟩
    · exact ⟨_,_, rfl, .inl (by decide)⟩
    · exact ⟨_,_, rfl, .inl (by decide)⟩
    · exact ⟨_,_, rfl, .inr ⟨rfl, gs, q, b, c, rfl, hperm, hrise, hok, hfold⟩⟩
  have HQ2 := hidM hnq
  clear hb2 HNEW HB1 HG1 HF1 HM1 hgl hnp hnq
  unfold newR
  go_wp2_with fail
  refine (HPA.out _).mono ?_
  rintro _ w3 ⟨rfl, hb3⟩
  have HB3 := hidM (HB2.out.trans (hb3.mono HB2.out.size))
  have HG3 := hidM (HG2.out.below hb3)
  have HM3 := hidM (HM2.out.below hb3)
  have HF3 := hidM (HF2.out.below hb3 hgl2)
  have HQ3 := hidM (HQ2.out.below hb3)
  have hgl3 : g < w3.heap.size := Nat.lt_of_lt_of_le hgl2 hb3.size
  clear hb3 HB2 HG2 HM2 HF2 HQ2 hgl2 HPA
  generalize (pathR id).1 = P1 at *
  generalize (pathR id).2 = P2 at *
  have HU1 := hidM (unpack_any RW w3 (by omega) HG3.out)
  go_wp2_with fail
  refine HU1.out.mono ?_
  rintro _ w4 ⟨⟨⟨kx, dx, ex⟩, hqx, rfl⟩, hb4⟩
  have HB4 := hidM (HB3.out.trans (hb4.mono HB3.out.size))
  have HG4 := hidM (HG3.out.below hb4)
  have HM4 := hidM (HM3.out.below hb4)
  have HF4 := hidM (HF3.out.below hb4 hgl3)
  have HQ4 := hidM (HQ3.out.below hb4)
  have hgl4 : g < w4.heap.size := Nat.lt_of_lt_of_le hgl3 hb4.size
  have HQX := hidM hqx
  clear hb4 HU1 HB3 HG3 HM3 HF3 HQ3 hgl3 hqx
  unfold objV
  simp only
  obtain ⟨DB, hDB⟩ : ∃ DB : ByteArray, DB = ⟨dx.toArray⟩ := ⟨_, rfl⟩
  rw [← hDB]
  have HDQ := hidM hDB
  clear hDB
  have HEA : Hid ((w4.alloc (.cells #[.int .i64 (kx : Nat), .string DB] 32)).heap[w4.heap.size]? = some (.cells #[.int .i64 (kx : Nat), .string DB] 32 (0, 0))) := heap_alloc_new _ _
  have HBb : Hid (Below w4.heap.size w4 (w4.alloc (.cells #[.int .i64 (kx : Nat), .string DB] 32))) := (Below.refl _ w4).alloc (Nat.le_refl _) _
  have HBa := hidM (HB4.out.trans (HBb.out.mono HB4.out.size))
  have HGa := hidM (HG4.out.below HBb.out)
  have HMa := hidM (HM4.out.below HBb.out)
  have HFa := hidM (HF4.out.below HBb.out hgl4)
  have HQa := hidM (HQ4.out.below HBb.out)
  have hgla : g < (w4.alloc (.cells #[.int .i64 (kx : Nat), .string DB] 32)).heap.size := Nat.lt_of_lt_of_le hgl4 HBb.out.size
  clear HBb HB4 HG4 HM4 HF4 HQ4 hgl4
  have HU2 := hidM (runpack_any RW (w4.alloc (.cells #[.int .i64 (kx : Nat), .string DB] 32)) (by omega))
  go_wp2_with fail
  generalize w4.alloc (.cells #[.int .i64 (kx : Nat), .string DB] 32) = W4 at *
  generalize w4.heap.size = A at *
  refine HU2.out.mono ?_
  rintro _ w5 ⟨⟨y, hqy, rfl⟩, hb5⟩
  obtain rfl := UnpQ.det HQX.out hqy
  have HEA5 := hidM (box_keptL HEA.out hb5)
  have HB5 := hidM (HBa.out.trans (hb5.mono HBa.out.size))
  have HG5 := hidM (HGa.out.below hb5)
  have HM5 := hidM (HMa.out.below hb5)
  have HF5 := hidM (HFa.out.below hb5 hgla)
  have HQ5 := hidM (HQa.out.below hb5)
  have hgl5 : g < w5.heap.size := Nat.lt_of_lt_of_le hgla hb5.size
  clear hb5 HU2 HBa HGa HMa HFa HQa HEA hgla hqy HQX
  unfold objV
  simp only
  rw [← HDQ.out]
  have hA5 := (Array.getElem?_eq_some_iff.1 HEA5.out).1
  have HEB6 : Hid ((w5.alloc (.cells #[.int .i64 (kx : Nat), .string DB] 32)).heap[w5.heap.size]? = some (.cells #[.int .i64 (kx : Nat), .string DB] 32 (0, 0))) := heap_alloc_new _ _
  have HEA6 : Hid ((w5.alloc (.cells #[.int .i64 (kx : Nat), .string DB] 32)).heap[A]? = some (.cells #[.int .i64 (kx : Nat), .string DB] 32 (0, 0))) := (heap_alloc_old _ _ hA5).trans HEA5.out
  have HBb : Hid (Below w5.heap.size w5 (w5.alloc (.cells #[.int .i64 (kx : Nat), .string DB] 32))) := (Below.refl _ w5).alloc (Nat.le_refl _) _
  have HB6 := hidM (HB5.out.trans (HBb.out.mono HB5.out.size))
  have HG6 := hidM (HG5.out.below HBb.out)
  have HM6 := hidM (HM5.out.below HBb.out)
  have HF6 := hidM (HF5.out.below HBb.out hgl5)
  have HQ6 := hidM (HQ5.out.below HBb.out)
  have hgl6 : g < (w5.alloc (.cells #[.int .i64 (kx : Nat), .string DB] 32)).heap.size := Nat.lt_of_lt_of_le hgl5 HBb.out.size
  clear HEA5 HB5 HG5 HM5 HF5 HQ5 hA5 HBb hgl5 HDQ
  have hgd := guard32
  have heq := fun V => equal32 (kx : Nat) DB V
  have bee : ((ex : Int) == (ex : Int)) = true := by simp
  go_wp2_with fail
  generalize w5.alloc (.cells #[.int .i64 (kx : Nat), .string DB] 32) = W5 at *
  generalize w5.heap.size = B at *
  refine (HAW.out _).mono ?_
  rintro _ w7 ⟨rfl, hb7⟩
  have HEA7 := hidM (box_keptL HEA6.out hb7)
  have HEB7 := hidM (box_keptL HEB6.out hb7)
  have HB7 := hidM (HB6.out.trans (hb7.mono HB6.out.size))
  have HG7 := hidM (HG6.out.below hb7)
  have HM7 := hidM (HM6.out.below hb7)
  have HF7 := hidM (HF6.out.below hb7 hgl6)
  have HQ7 := hidM (HQ6.out.below hb7)
  have hgl7 : g < w7.heap.size := Nat.lt_of_lt_of_le hgl6 hb7.size
  clear hb7 HEA6 HEB6 HB6 HG6 HM6 HF6 HQ6 HAW hgl6
  have c0 : w7.cell? ⟨A, 0, none⟩ = some (.int .i64 (kx : Nat)) := by rw [cell_of_row _ _ _ _ 32 (0, 0) HEA7.out]; rfl
  have c1 : w7.cell? ⟨A, 1, none⟩ = some (.string DB) := by rw [cell_of_row _ _ _ _ 32 (0, 0) HEA7.out]; rfl
  have c2' : w7.cell? ⟨B, 0, none⟩ = some (.int .i64 (kx : Nat)) := by rw [cell_of_row _ _ _ _ 32 (0, 0) HEB7.out]; rfl
  have c3 : w7.cell? ⟨B, 1, none⟩ = some (.string DB) := by rw [cell_of_row _ _ _ _ 32 (0, 0) HEB7.out]; rfl
  clear HEA7 HEB7
  cases hib : idB id.data.toList with
  | false =>
    rw [hib] at HID HPR
    obtain ⟨rfl, rfl⟩ := HPR.out.2 rfl
    clear hib HPR HRP
    go_wp2_with fail
    refine (HID.out _).mono ?_
    rintro _ wv ⟨rfl, hwv⟩
    rw [hwv]
    clear hwv
    go_wp2_with fail
    refine (HID.out _).mono ?_
    rintro _ wv ⟨rfl, hwv⟩
    rw [hwv]
    clear hwv
    go_wp2_with fail
    refine (HID.out _).mono ?_
    rintro _ wv ⟨rfl, hwv⟩
    rw [hwv]
    clear hwv
    clear HID
    have HB8 := hidM HB7.out
    have HG8 := hidM HG7.out
    have HM8 := hidM HM7.out
    have HF8 := hidM HF7.out
    have HQ8 := hidM HQ7.out
    have hgl8 := hgl7
    clear HB7 HG7 HM7 HF7 HQ7 hgl7 c0 c1 c2' c3
    generalize w7 = w8 at *
    rcases HQ8.out with hn0 | ⟨rfl, gs, q, b, c, rfl, hperm, hrise, hok, hfold⟩
    · go_wp2_with fail
      go_ret
      exact ⟨by first | rfl | simp [hn0], HB8.out⟩
    have HPE := hidM hperm
    have HRI := hidM hrise
    have HOK := hidM hok
    have HR1 := hidM (lread_any q b 0 c gs id w8 hfold (by rw [hperm.length_eq, ← HL.out]; omega) hrise.rise (fun f hf => by have := HS4.out f (hperm.mem_iff.1 hf); omega) HG8.out HMX.out)
    have HFo := hidM hfold
    clear hperm hrise hok hfold HQ8
    go_wp2_with fail
    refine HR1.out.mono ?_
    rintro _ w9 ⟨⟨⟨ky, dy, ey⟩, hqy, rfl⟩, hb9⟩
    have HB9 := hidM (HB8.out.trans (hb9.mono HB8.out.size))
    have HM9 := hidM (HM8.out.below hb9)
    have HF9 := hidM (HF8.out.below hb9 hgl8)
    have HFo9 := hidM (HFo.out.below hb9)
    have hgl9 : g < w9.heap.size := Nat.lt_of_lt_of_le hgl8 hb9.size
    have HQY := hidM hqy
    clear hb9 HR1 HB8 HG8 HM8 HF8 HFo hgl8 hqy
    unfold objV
    simp only
    obtain ⟨DY, hDY⟩ : ∃ DY : ByteArray, DY = ⟨dy.toArray⟩ := ⟨_, rfl⟩
    rw [← hDY]
    have HDY := hidM hDY
    clear hDY
    have HEY : Hid ((w9.alloc (.cells #[.int .i64 (ky : Nat), .string DY] 32)).heap[w9.heap.size]? = some (.cells #[.int .i64 (ky : Nat), .string DY] 32 (0, 0))) := heap_alloc_new _ _
    have HBb : Hid (Below w9.heap.size w9 (w9.alloc (.cells #[.int .i64 (ky : Nat), .string DY] 32))) := (Below.refl _ w9).alloc (Nat.le_refl _) _
    have HBa := hidM (HB9.out.trans (HBb.out.mono HB9.out.size))
    have HMa := hidM (HM9.out.below HBb.out)
    have HFa := hidM (HF9.out.below HBb.out hgl9)
    have HFoa := hidM (HFo9.out.below HBb.out)
    have hgla : g < (w9.alloc (.cells #[.int .i64 (ky : Nat), .string DY] 32)).heap.size := Nat.lt_of_lt_of_le hgl9 HBb.out.size
    clear HBb HB9 HM9 HF9 HFo9 hgl9
    have HR2 := hidM (rread9_any g cap us id (w9.alloc (.cells #[.int .i64 (ky : Nat), .string DY] 32)) hgla HFa.out (by rw [← HL.out]; omega) (fun f hf => by have := HS4.out f hf; omega) HMX.out)
    rw [← HL.out] at HR2
    go_wp2_with fail
    generalize w9.alloc (.cells #[.int .i64 (ky : Nat), .string DY] 32) = W9 at *
    generalize w9.heap.size = C at *
    refine HR2.out.mono ?_
    rintro _ wa ⟨⟨z, hqz, rfl⟩, hba⟩
    obtain rfl := read_det HOK.out.2.1 HPE.out HQY.out hqz
    have HEYa := hidM (box_keptL HEY.out hba)
    have HBc := hidM (HBa.out.trans (hba.mono HBa.out.size))
    have HMc := hidM (HMa.out.below hba)
    have HFc := hidM (HFa.out.below hba hgla)
    have HFoc := hidM (HFoa.out.below hba)
    have hglc : g < wa.heap.size := Nat.lt_of_lt_of_le hgla hba.size
    clear hba HR2 HBa HMa HFa HFoa HEY hgla hqz HQY
    unfold objV
    simp only
    rw [← HDY.out]
    have hCa := (Array.getElem?_eq_some_iff.1 HEYa.out).1
    have HEZ : Hid ((wa.alloc (.cells #[.int .i64 (ky : Nat), .string DY] 32)).heap[wa.heap.size]? = some (.cells #[.int .i64 (ky : Nat), .string DY] 32 (0, 0))) := heap_alloc_new _ _
    have HEYb : Hid ((wa.alloc (.cells #[.int .i64 (ky : Nat), .string DY] 32)).heap[C]? = some (.cells #[.int .i64 (ky : Nat), .string DY] 32 (0, 0))) := (heap_alloc_old _ _ hCa).trans HEYa.out
    have HBb : Hid (Below wa.heap.size wa (wa.alloc (.cells #[.int .i64 (ky : Nat), .string DY] 32))) := (Below.refl _ wa).alloc (Nat.le_refl _) _
    have HBd := hidM (HBc.out.trans (HBb.out.mono HBc.out.size))
    have HMd := hidM (HMc.out.below HBb.out)
    have HFd := hidM (HFc.out.below HBb.out hglc)
    have HFod := hidM (HFoc.out.below HBb.out)
    have hgld : g < (wa.alloc (.cells #[.int .i64 (ky : Nat), .string DY] 32)).heap.size := Nat.lt_of_lt_of_le hglc HBb.out.size
    clear HEYa HBc HMc HFc HFoc hCa HBb hglc HDY
    have d0 : (wa.alloc (.cells #[.int .i64 (ky : Nat), .string DY] 32)).cell? ⟨C, 0, none⟩ = some (.int .i64 (ky : Nat)) := by rw [cell_of_row _ _ _ _ 32 (0, 0) HEYb.out]; rfl
    have d1 : (wa.alloc (.cells #[.int .i64 (ky : Nat), .string DY] 32)).cell? ⟨C, 1, none⟩ = some (.string DY) := by rw [cell_of_row _ _ _ _ 32 (0, 0) HEYb.out]; rfl
    have d2 : (wa.alloc (.cells #[.int .i64 (ky : Nat), .string DY] 32)).cell? ⟨wa.heap.size, 0, none⟩ = some (.int .i64 (ky : Nat)) := by rw [cell_of_row _ _ _ _ 32 (0, 0) HEZ.out]; rfl
    have d3 : (wa.alloc (.cells #[.int .i64 (ky : Nat), .string DY] 32)).cell? ⟨wa.heap.size, 1, none⟩ = some (.string DY) := by rw [cell_of_row _ _ _ _ 32 (0, 0) HEZ.out]; rfl
    have heqy := fun V => equal32 (ky : Nat) DY V
    have beey : ((ey : Int) == (ey : Int)) = true := by simp
    have HLS := hidM (llist_any q b 0 c gs _ HFod.out (by rw [HPE.out.length_eq, ← HL.out]; omega) HRI.out.rise (fun f hf => clean_size (HOK.out.1 f (HPE.out.mem_iff.1 hf))) HMd.out)
    have HEQL := hidM (lists_same HPE.out HRI.out)
    have hll : (listL (pathsL (undF gs objS))).length ≤ 1000 := by
      have h1 : (listL (pathsL (undF gs objS))).length ≤ (pathsL (undF gs objS)).length := List.length_filterMap_le _ _
      have h2 : (pathsL (undF gs objS)).length ≤ gs.length := by unfold pathsL undF; rw [List.length_map]; exact List.length_filter_le _ _
      rw [HPE.out.length_eq, ← HL.out] at h2
      omega
    clear HEYb HEZ heq
    go_wp2_with fail
    refine HLS.out.mono ?_
    rintro _ we ⟨⟨v3, ho3, rfl⟩, hbe⟩
    have HBe := hidM (HBd.out.trans (hbe.mono HBd.out.size))
    have HFe := hidM (HFd.out.below hbe hgld)
    have hgle : g < we.heap.size := Nat.lt_of_lt_of_le hgld hbe.size
    have HS3 := hidM ho3.strs
    have HRL := hidM (rlist_any g cap us we hgle HFe.out (by rw [← HL.out]; omega))
    rw [← HL.out, HEQL.out] at HRL
    generalize listL (pathsL (undF gs objS)) = LL at *
    clear hbe ho3 HLS d0 d1 d2 d3 HBd HMd HFd HFod hgld heqy
    go_wp2_with fail
    refine HRL.out.mono ?_
    rintro _ wf ⟨⟨v4, ho4, rfl⟩, hbf⟩
    have HBf := hidM (HBe.out.trans (hbf.mono HBe.out.size))
    have HSM := hidM (same_any v3 v4 LL LL wf (HS3.out.below hbf) ho4.strs (by omega))
    rw [same_self] at HSM
    clear hbf ho4 HRL HBe HFe hgle
    go_wp2_with fail
    refine HSM.out.mono ?_
    rintro _ wg ⟨rfl, hbg⟩
    have HBg := hidM (HBf.out.trans (hbg.mono HBf.out.size))
    clear hbg HSM
    go_wp2_with fail
    go_ret
    exact ⟨by first | rfl | simp, HBg.out⟩
  | true =>
    rw [hib] at HID HPR
    obtain ⟨rfl, rfl, h40⟩ := HPR.out.1 rfl
    have HRP2 := hidM (HRP.out w7 h40)
    clear hib HPR HRP h40
    generalize pathB id = PB at *
    go_wp2_with fail
    refine (HID.out _).mono ?_
    rintro _ wv ⟨rfl, hwv⟩
    rw [hwv]
    clear hwv
    go_wp2_with fail
    refine (HID.out _).mono ?_
    rintro _ wv ⟨rfl, hwv⟩
    rw [hwv]
    clear hwv
    go_wp2_with fail
    refine HRP2.out.mono ?_
    rintro _ w8 ⟨rfl, hb8⟩
    have HB8 := hidM (HB7.out.trans (hb8.mono HB7.out.size))
    have HG8 := hidM (HG7.out.below hb8)
    have HM8 := hidM (HM7.out.below hb8)
    have HF8 := hidM (HF7.out.below hb8 hgl7)
    have HQ8 := hidM (HQ7.out.below hb8)
    have hgl8 : g < w8.heap.size := Nat.lt_of_lt_of_le hgl7 hb8.size
    clear HB7 HG7 HM7 HF7 HQ7 hgl7 c0 c1 c2' c3 hb8 HRP2
    go_wp2_with fail
    refine (HID.out _).mono ?_
    rintro _ wv ⟨rfl, hwv⟩
    rw [hwv]
    clear hwv
    clear HID
    rcases HQ8.out with hn0 | ⟨rfl, gs, q, b, c, rfl, hperm, hrise, hok, hfold⟩
    · go_wp2_with fail
      go_ret
      exact ⟨by first | rfl | simp [hn0], HB8.out⟩
    have HPE := hidM hperm
    have HRI := hidM hrise
    have HOK := hidM hok
    have HR1 := hidM (lread_any q b 0 c gs id w8 hfold (by rw [hperm.length_eq, ← HL.out]; omega) hrise.rise (fun f hf => by have := HS4.out f (hperm.mem_iff.1 hf); omega) HG8.out HMX.out)
    have HFo := hidM hfold
    clear hperm hrise hok hfold HQ8
    go_wp2_with fail
    refine HR1.out.mono ?_
    rintro _ w9 ⟨⟨⟨ky, dy, ey⟩, hqy, rfl⟩, hb9⟩
    have HB9 := hidM (HB8.out.trans (hb9.mono HB8.out.size))
    have HM9 := hidM (HM8.out.below hb9)
    have HF9 := hidM (HF8.out.below hb9 hgl8)
    have HFo9 := hidM (HFo.out.below hb9)
    have hgl9 : g < w9.heap.size := Nat.lt_of_lt_of_le hgl8 hb9.size
    have HQY := hidM hqy
    clear hb9 HR1 HB8 HG8 HM8 HF8 HFo hgl8 hqy
    unfold objV
    simp only
    obtain ⟨DY, hDY⟩ : ∃ DY : ByteArray, DY = ⟨dy.toArray⟩ := ⟨_, rfl⟩
    rw [← hDY]
    have HDY := hidM hDY
    clear hDY
    have HEY : Hid ((w9.alloc (.cells #[.int .i64 (ky : Nat), .string DY] 32)).heap[w9.heap.size]? = some (.cells #[.int .i64 (ky : Nat), .string DY] 32 (0, 0))) := heap_alloc_new _ _
    have HBb : Hid (Below w9.heap.size w9 (w9.alloc (.cells #[.int .i64 (ky : Nat), .string DY] 32))) := (Below.refl _ w9).alloc (Nat.le_refl _) _
    have HBa := hidM (HB9.out.trans (HBb.out.mono HB9.out.size))
    have HMa := hidM (HM9.out.below HBb.out)
    have HFa := hidM (HF9.out.below HBb.out hgl9)
    have HFoa := hidM (HFo9.out.below HBb.out)
    have hgla : g < (w9.alloc (.cells #[.int .i64 (ky : Nat), .string DY] 32)).heap.size := Nat.lt_of_lt_of_le hgl9 HBb.out.size
    clear HBb HB9 HM9 HF9 HFo9 hgl9
    have HR2 := hidM (rread9_any g cap us id (w9.alloc (.cells #[.int .i64 (ky : Nat), .string DY] 32)) hgla HFa.out (by rw [← HL.out]; omega) (fun f hf => by have := HS4.out f hf; omega) HMX.out)
    rw [← HL.out] at HR2
    go_wp2_with fail
    generalize w9.alloc (.cells #[.int .i64 (ky : Nat), .string DY] 32) = W9 at *
    generalize w9.heap.size = C at *
    refine HR2.out.mono ?_
    rintro _ wa ⟨⟨z, hqz, rfl⟩, hba⟩
    obtain rfl := read_det HOK.out.2.1 HPE.out HQY.out hqz
    have HEYa := hidM (box_keptL HEY.out hba)
    have HBc := hidM (HBa.out.trans (hba.mono HBa.out.size))
    have HMc := hidM (HMa.out.below hba)
    have HFc := hidM (HFa.out.below hba hgla)
    have HFoc := hidM (HFoa.out.below hba)
    have hglc : g < wa.heap.size := Nat.lt_of_lt_of_le hgla hba.size
    clear hba HR2 HBa HMa HFa HFoa HEY hgla hqz HQY
    unfold objV
    simp only
    rw [← HDY.out]
    have hCa := (Array.getElem?_eq_some_iff.1 HEYa.out).1
    have HEZ : Hid ((wa.alloc (.cells #[.int .i64 (ky : Nat), .string DY] 32)).heap[wa.heap.size]? = some (.cells #[.int .i64 (ky : Nat), .string DY] 32 (0, 0))) := heap_alloc_new _ _
    have HEYb : Hid ((wa.alloc (.cells #[.int .i64 (ky : Nat), .string DY] 32)).heap[C]? = some (.cells #[.int .i64 (ky : Nat), .string DY] 32 (0, 0))) := (heap_alloc_old _ _ hCa).trans HEYa.out
    have HBb : Hid (Below wa.heap.size wa (wa.alloc (.cells #[.int .i64 (ky : Nat), .string DY] 32))) := (Below.refl _ wa).alloc (Nat.le_refl _) _
    have HBd := hidM (HBc.out.trans (HBb.out.mono HBc.out.size))
    have HMd := hidM (HMc.out.below HBb.out)
    have HFd := hidM (HFc.out.below HBb.out hglc)
    have HFod := hidM (HFoc.out.below HBb.out)
    have hgld : g < (wa.alloc (.cells #[.int .i64 (ky : Nat), .string DY] 32)).heap.size := Nat.lt_of_lt_of_le hglc HBb.out.size
    clear HEYa HBc HMc HFc HFoc hCa HBb hglc HDY
    have d0 : (wa.alloc (.cells #[.int .i64 (ky : Nat), .string DY] 32)).cell? ⟨C, 0, none⟩ = some (.int .i64 (ky : Nat)) := by rw [cell_of_row _ _ _ _ 32 (0, 0) HEYb.out]; rfl
    have d1 : (wa.alloc (.cells #[.int .i64 (ky : Nat), .string DY] 32)).cell? ⟨C, 1, none⟩ = some (.string DY) := by rw [cell_of_row _ _ _ _ 32 (0, 0) HEYb.out]; rfl
    have d2 : (wa.alloc (.cells #[.int .i64 (ky : Nat), .string DY] 32)).cell? ⟨wa.heap.size, 0, none⟩ = some (.int .i64 (ky : Nat)) := by rw [cell_of_row _ _ _ _ 32 (0, 0) HEZ.out]; rfl
    have d3 : (wa.alloc (.cells #[.int .i64 (ky : Nat), .string DY] 32)).cell? ⟨wa.heap.size, 1, none⟩ = some (.string DY) := by rw [cell_of_row _ _ _ _ 32 (0, 0) HEZ.out]; rfl
    have heqy := fun V => equal32 (ky : Nat) DY V
    have beey : ((ey : Int) == (ey : Int)) = true := by simp
    have HLS := hidM (llist_any q b 0 c gs _ HFod.out (by rw [HPE.out.length_eq, ← HL.out]; omega) HRI.out.rise (fun f hf => clean_size (HOK.out.1 f (HPE.out.mem_iff.1 hf))) HMd.out)
    have HEQL := hidM (lists_same HPE.out HRI.out)
    have hll : (listL (pathsL (undF gs objS))).length ≤ 1000 := by
      have h1 : (listL (pathsL (undF gs objS))).length ≤ (pathsL (undF gs objS)).length := List.length_filterMap_le _ _
      have h2 : (pathsL (undF gs objS)).length ≤ gs.length := by unfold pathsL undF; rw [List.length_map]; exact List.length_filter_le _ _
      rw [HPE.out.length_eq, ← HL.out] at h2
      omega
    clear HEYb HEZ heq
    go_wp2_with fail
    refine HLS.out.mono ?_
    rintro _ we ⟨⟨v3, ho3, rfl⟩, hbe⟩
    have HBe := hidM (HBd.out.trans (hbe.mono HBd.out.size))
    have HFe := hidM (HFd.out.below hbe hgld)
    have hgle : g < we.heap.size := Nat.lt_of_lt_of_le hgld hbe.size
    have HS3 := hidM ho3.strs
    have HRL := hidM (rlist_any g cap us we hgle HFe.out (by rw [← HL.out]; omega))
    rw [← HL.out, HEQL.out] at HRL
    generalize listL (pathsL (undF gs objS)) = LL at *
    clear hbe ho3 HLS d0 d1 d2 d3 HBd HMd HFd HFod hgld heqy
    go_wp2_with fail
    refine HRL.out.mono ?_
    rintro _ wf ⟨⟨v4, ho4, rfl⟩, hbf⟩
    have HBf := hidM (HBe.out.trans (hbf.mono HBe.out.size))
    have HSM := hidM (same_any v3 v4 LL LL wf (HS3.out.below hbf) ho4.strs (by omega))
    rw [same_self] at HSM
    clear hbf ho4 HRL HBe HFe hgle
    go_wp2_with fail
    refine HSM.out.mono ?_
    rintro _ wg ⟨rfl, hbg⟩
    have HBg := hidM (HBf.out.trans (hbg.mono HBf.out.size))
    clear hbg HSM
    go_wp2_with fail
    go_ret
    exact ⟨by first | rfl | simp, HBg.out⟩
end Go.Proofs.YtddoemeellbhaaaGreatDoor
namespace Go.Proofs.YtddoemeellbhaaaGreatDoor
open Go.ChangeShapes Go.WideShapes Go.WideMaps Go.WideElems

theorem mi_of_open {w : World} (h : w.ShapedOpen Tryz.prog) : MI w :=
  cell_of_shapedOpen_int (P := Tryz.prog) (g := 0) (t := 3) (zero := #[.int .i64 0]) (k := .i64) h (of_decide_eq_true (by kernel_rfl)) (by kernel_rfl) rfl (by kernel_rfl) (by kernel_rfl) (by kernel_rfl)

theorem handed_open {H : Type} {enc : TypeId × Value → H} {a : Assume} {C : Checked} {os : Os} {f : FuncId} {fn : Func} {s : ChangeSpec} {conds : List PathCond} {apart fresh handsOn again : Bool} {X : World → Array Value → Prop}
    (hX : ∀ (w w' : World) (args : Array Value), w.heap = w'.heap → X w args → X w' args)
    (own : ownKnob C.prog.godebug = none) (started : os.Started) (noInit : C.prog.inits.idxOf? f = none) (hfn : C.prog.funcs[f]? = some fn)
    (wit : ∃ (w : World) (tape : Tape) (i : Input), w.os = os ∧ (w.forCall tape i).Shaped C.prog ∧ i.vars = [] ∧ Input.okWide C.prog (w.forCall tape i) .any w.heap.size f i ∧
      ((s.pre enc C.prog fn conds apart (w.forCall tape i).memory i.args ∧ X (w.forCall tape i).memory i.args) ∧ sizedMet enc C.prog fn (OpenSpec.ofChange s) apart (w.forCall tape i).memory i.args) ∧ a.holds C.prog (lone (Frame.enter C.prog f i.args .normal) [] (w.forCall tape i)))
    (K : ∀ (W : World) (base : Nat) (args : Array Value) (ds gs : List (DataW H)) (before : List MemPlace), W.ShapedOpen C.prog →
      (∀ (j : Nat) t v, fn.params[j]? = some t → args[j]? = some v → Value.okWide C.prog W .any base t v) →
      DataW.Whole enc C.prog fn.params.toList s.vars apart W args.toList ds gs before →
      conds.all (PathCond.test C.prog ⟨fn.params.toList, ds, s.plain.varTypes C.prog, gs⟩) = true →
      (DataW.weightsEach C.prog (fn.params.toList ++ s.plain.varTypes C.prog) (ds ++ gs)).all (· ≤ reachBytes) = true → X W args →
      Calls C.prog f args W fun e W' => ∃ v, e = .returned v ∧ s.post enc C.prog fn apart fresh handsOn again W args v W') :
    ReturnsInHanded a C os f .any (fun w args => (s.pre enc C.prog fn conds apart w args ∧ X w args) ∧ sizedMet enc C.prog fn (OpenSpec.ofChange s) apart w args) (s.post enc C.prog fn apart fresh handsOn again) := by
  refine returnsInHanded_of_calls own started noInit wit fun w tape i _ hso _ hok hpre _ => ?_
  obtain ⟨_,_,_, g, hg, _,_,_,_, hval⟩ := hok
  obtain rfl : g = fn := Option.some.inj (hg.symm.trans hfn)
  obtain ⟨⟨⟨ds, gs, before, hw, hc⟩, hx⟩, hz⟩ := hpre
  refine (K (w.forCall tape i) w.heap.size i.args ds gs before hso hval (DataW.Whole.of_heap (w' := w.forCall tape i) (by rfl) hw) hc (hz.weights hw) (hX _ _ _ (by rfl) hx)).mono fun e W' ⟨v, he, hp⟩ => ?_
  subst he
  exact ChangeSpec.post_blind hp
end Go.Proofs.YtddoemeellbhaaaGreatDoor
namespace Go.Proofs.YtddoemeellbhaaaGreatDoor
open Go.ChangeShapes Go.WideShapes Go.RowKit
theorem cells32 : Tryz.prog.cellsOf 48 = 2 := by kernel_rfl
theorem cells9' : Tryz.prog.cellsOf 9 = 1 := by kernel_rfl
theorem weightsAll_mem {H : Type} {P : Program} {e : TypeId} {l : List (DataW H)} {d : DataW H} (h : d ∈ l) {n : Nat} (hn : n ∈ d.weights P e) : n ∈ DataW.weightsAll P e l := by
  induction l with
  | nil => cases h
  | cons x l ih =>
    rw [DataW.weightsAll, List.mem_append]
    rcases List.mem_cons.1 h with rfl | h
    · exact .inl hn
    · exact .inr (ih h)
set_option maxRecDepth 100000 in
theorem open_files {H : Type} {enc : TypeId × Value → H} {W : World} {v : Value} {d : DataW H} {p : List MemPlace} {ts : List TypeId} {ds : List (DataW H)} {j : Nat} (hv1 : v.cells.toList = [v])
    (hw : (DataW.weightsEach Tryz.prog ts ds).all (· ≤ reachBytes) = true) (htj : ts[j]? = some 22) (hdj : ds[j]? = some d)
    (h : DataW.Trod enc Tryz.prog W 0 (fun _ => true) true 22 v d p) :
    ∃ fs, FilesV W v fs ∧ ∀ f ∈ fs, f.1.size ≤ 140737488355328 ∧ f.2.size ≤ 140737488355328 := by
  obtain ⟨fuel, hf⟩ := h
  rcases Deep.open_slice_pairs Tryz.underlying22 Tryz.underlying48 cells32 rfl rfl cells9' cells9' hf with ⟨h0, _⟩ | ⟨a, len, cap, m, n, V0, V1, D0, D1, P0, P1, h0, _, hlc, _, hm, hx, hall⟩
  · rw [hv1] at h0
    exact ⟨[], .inl ⟨by simpa using h0, rfl⟩, fun f hf => by cases hf⟩
  · rw [hv1] at h0
    have hv : v = .slice (some a) len cap := by simpa using h0
    by_cases hl : len = 0
    · subst hl
      exact ⟨[], .inr (.inl ⟨a, cap, hv, rfl⟩), fun f hf => by cases hf⟩
    · have hlm : len ≤ m := by rw [hm]; split <;> omega
      have each : ∀ i, i < len → ∃ f : FileB, W.cell? (a.add (i * 2)) = some (.string f.1) ∧ W.cell? (a.add (i * 2 + 1)) = some (.string f.2) ∧ f.1.size ≤ 140737488355328 ∧ f.2.size ≤ 140737488355328 := by
        intro i hi
        obtain ⟨c0, c1, t0, t1⟩ := hall i (by omega)
        obtain ⟨b0, e0, g0, _⟩ := DataW.trod_string Tryz.underlying9 t0
        obtain ⟨b1, e1, g1, _⟩ := DataW.trod_string Tryz.underlying9 t1
        simp only [List.cons.injEq, and_true] at e0 e1
        rw [e0] at c0
        rw [e1] at c1
        have hd : d = .slice ((List.range len).map fun i => .agg [D0 i, D1 i]) ((List.range (m - len)).map fun j => .agg [D0 (len + j), D1 (len + j)]) := congrArg Prod.fst hx
        have hmem : ∀ k, k ∈ (DataW.agg [D0 i, D1 i]).weights Tryz.prog 48 → k ≤ reachBytes := fun k hk => by
          have h1 : k ∈ d.weights Tryz.prog 22 := by
            rw [hd]
            simp only [DataW.weights, Tryz.underlying22]
            refine List.mem_cons_of_mem _ (List.mem_append.2 (.inl (weightsAll_mem (d := .agg [D0 i, D1 i]) (List.mem_map.2 ⟨i, List.mem_range.2 hi, rfl⟩) hk)))
          simpa using List.all_eq_true.1 hw _ (DataW.weights_mem_each htj hdj k h1)
        have k0 : D0 i = .lit (.string b0.data.toList) := congrArg Prod.fst g0
        have k1 : D1 i = .lit (.string b1.data.toList) := congrArg Prod.fst g1
        have s0 := hmem b0.size (by rw [Lib.size_eq]; simp [DataW.weights, DataW.weightsEach, Tryz.underlying48, k0])
        have s1 := hmem b1.size (by rw [Lib.size_eq]; simp [DataW.weights, DataW.weightsEach, Tryz.underlying48, k1])
        unfold reachBytes at s0 s1
        exact ⟨(b0, b1), c0, c1, (by show b0.size ≤ _; omega), (by show b1.size ≤ _; omega)⟩
      obtain ⟨F, hF⟩ := Deep.choose_lt each
      have ha : ∃ b off, a = ⟨b, off, none⟩ := by
        obtain ⟨c0, _⟩ := hF 0 (by omega)
        rcases a with ⟨b, off, x⟩
        cases x with
        | none => exact ⟨b, off, rfl⟩
        | some y =>
          simp [World.cell?, Addr.add] at c0
          split at c0 <;> cases c0
      obtain ⟨b, off, rfl⟩ := ha
      have hlen : ((List.range len).map F).length = len := by simp
      refine ⟨(List.range len).map F, .inr (.inr ⟨b, off, cap, by rw [hlen]; exact hv, ?_, by rw [hlen]; exact hlc⟩), ?_⟩
      · intro i hi
        rw [hlen] at hi
        obtain ⟨c0, c1, _⟩ := hF i hi
        simp only [List.getElem_map, List.getElem_range]
        rw [Addr.add_lit] at c0 c1
        exact ⟨c0, by rw [← Nat.add_assoc] at c1; exact c1⟩
      · intro f hf
        obtain ⟨i, hi, rfl⟩ := List.mem_map.1 hf
        exact (hF i (List.mem_range.1 hi)).2.2
end Go.Proofs.YtddoemeellbhaaaGreatDoor
