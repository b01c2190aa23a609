/-
  Walks of sha: Sum, and the sum of a text at once.
-/
import Derived.Test.YtbodjopdhciaeabDoorShaG
namespace Go.Proofs.YtbodjopdhciaeabDoor
open Go.RowKit

/-- The sum of a text. -/
def sha1L (M : List UInt8) : List UInt8 := wordsB (wordsAt mixL1 h0 (M ++ padB M.length))
theorem sha1L_len (M : List UInt8) : (sha1L M).length = 20 := by unfold sha1L; rw [wordsB_len, (wordsAt1_ok _).len]
def zB1 : Array Value := (wordsV (List.replicate 5 0) ++ (bytesV (List.replicate 64 0) ++ [Value.int .u64 0])).toArray
theorem zero38 (w : World) : (zeroValue 38).run Tryd.prog w = .ok (.agg zB1) w := by kernel_rfl
theorem size38 : (Tryd.prog.info? 38).map (·.size) = some 70 := by kernel_rfl
theorem row38 : ∃ d, Tryd.prog.underlying 38 = some d ∧ d.isRow = true := ⟨_, Tryd.underlying38, rfl⟩
/-- An untouched sum. -/
theorem hashS_zero1 (w : World) (b : Nat) (h : w.heap[b]? = some (.cells zB1 38 (0, 0))) : HashS mixL1 h0 38 w b [] :=
  ⟨List.replicate 5 0, List.replicate 64 0, rfl, rfl, fun h => absurd rfl h, rfl, h⟩
/-- All cells of a sum. -/
def cellsH (ws : List Nat) (part : List UInt8) (n : Nat) : List Value := wordsV ws ++ (bytesV part ++ [Value.int .u64 (n : Int)])
theorem cellsH_one (ws : List Nat) (part : List UInt8) (n : Nat) : (cellsH ws part n).toArray.all (·.oneCell') = true := all_oneCell_toArray (by
  intro v hv
  simp only [cellsH, wordsV, bytesV, List.mem_append, List.mem_map, List.mem_singleton] at hv
  rcases hv with ⟨c, _, rfl⟩ | ⟨c, _, rfl⟩ | rfl <;> rfl)
theorem cellsH_range {w : World} {b t : Nat} {ws : List Nat} {part : List UInt8} {n : Nat} (h : HBox w b t (wordsV ws) part n) : w.rangeAt b 0 (cellsH ws part n) := by
  intro j v hv
  rw [cell_of_row w b (0 + j) _ t (0, 0) h, Nat.zero_add, List.getElem?_toArray]
  exact hv

set_option maxRecDepth 100000 in
set_option maxHeartbeats 1600000 in
theorem sum1_any (b : Nat) (M : List UInt8) (w : World) (hb : b < w.heap.size) (hM : M.length ≤ 549755813888) (h : HashS mixL1 h0 38 w b M) :
    Calls Tryd.prog 16 #[.pointer (some ⟨b, 0, none⟩)] w fun e w' => e = .returned (.string ⟨(sha1L M).toArray⟩) ∧ Below w.heap.size w w' := by
  obtain ⟨ws, part, h1, h2, h3, h4, h5⟩ := h
  obtain ⟨n, hn⟩ : ∃ n, n = M.length := ⟨_, rfl⟩
  have HN := hidM hn
  have hn5 : n ≤ 549755813888 := by rw [hn]; exact hM
  rw [← hn] at h5
  obtain ⟨d, hd1, hd2⟩ := row38
  have hz := zero38
  have HR := hidM (cellsH_range h5)
  have HCL : Hid ((cellsH ws part n).length = 70) := by unfold Hid cellsH; rw [List.length_append, List.length_append, wordsV_len, bytesV_len, h1, h2]; rfl
  have HSZ : Hid ((Tryd.prog.info? 38).map (·.size) = some (cellsH ws part n).length) := by unfold Hid; rw [HCL.out]; exact size38
  have HONE := hidM (cellsH_one ws part n)
  have HNEW : Hid ((w.alloc (.cells zB1 38)).heap[w.heap.size]? = some (.cells zB1 38 (0, 0))) := heap_alloc_new w _
  have HBOX : Hid (HBox ((w.alloc (.cells zB1 38)).setCells w.heap.size 0 (cellsH ws part n)) w.heap.size 38 (wordsV ws) part n) := by
    have hx := setCells_box w.heap.size 38 [] (cellsH ws part n) zB1.toList [] (w.alloc (.cells zB1 38)) (by rw [HCL.out]; rfl) (by simpa using HNEW.out)
    unfold Hid HBox
    simpa [cellsH] using hx
  have HSZ2 : Hid ((cellsH ws part n).toArray.size = 70) := by unfold Hid; rw [List.size_toArray]; exact HCL.out
  have HTH : Hid ((w.alloc (.cells zB1 38)).there w.heap.size 0 (cellsH ws part n).toArray.size) := by
    unfold Hid
    rw [HSZ2.out]
    intro j hj
    refine ⟨?_, frozen_of_row _ w.heap.size (0 + j) _ 38 HNEW.out⟩
    rw [cell_of_row _ w.heap.size (0 + j) _ 38 (0, 0) HNEW.out, Nat.zero_add]
    exact Option.isSome_iff_exists.2 ⟨_, Array.getElem?_eq_getElem (show j < zB1.size from hj)⟩
  have HBL : Hid (Below w.heap.size w ((w.alloc (.cells zB1 38)).setCells w.heap.size 0 (cellsH ws part n))) := ((Below.refl _ _).alloc (Nat.le_refl _) _).trans ((Only.setCells (cellsH ws part n) 0 (Only.refl w.heap.size (w.alloc (.cells zB1 38)))).below (Nat.le_refl _))
  have HCN := hidM (h5.cellN h2)
  rw [wordsV_len, h1] at HCN
  have HH : Hid (HashS mixL1 h0 38 ((w.alloc (.cells zB1 38)).setCells w.heap.size 0 (cellsH ws part n)) w.heap.size M) := ⟨ws, part, h1, h2, h3, h4, by rw [← hn]; exact HBOX.out⟩
  have hHW : w.heap.size < ((w.alloc (.cells zB1 38)).setCells w.heap.size 0 (cellsH ws part n)).heap.size := by
    have := (Array.getElem?_eq_some_iff.1 (show _ = some _ from HBOX.out)).1
    exact this
  generalize cellsH ws part n = cs at *
  clear h1 h2 h3 h4 h5 hn
  generalize hZ : zB1 = Z at *
  clear hZ
  have hcn : ((w.alloc (.cells Z 38)).setCells w.heap.size 0 cs).cell? ⟨b, 69, none⟩ = some (.int .u64 (n : Int)) := (HBL.out.cell (p := ⟨b, 69, none⟩) hb).trans HCN.out
  go_enter Tryd.func16, Tryd.ntmps16
  go_wp2_with (first
    | (refine wpList_load_mid rfl 38 (.tmp 5) rfl b 0 rfl cs _ HR.out hd1 hd2 HSZ.out ?_)
    | (refine wpList_store_mid0 rfl rfl 38 (.tmp 3) (.tmp 6) rfl w.heap.size 0 cs.toArray rfl rfl HTH.out (by rw [HSZ2.out]; exact size38) HONE.out ?_))
  generalize hW : (w.alloc (.cells Z 38)).setCells w.heap.size 0 cs = W at *
  clear hW hz HR HTH HNEW HBOX HCN
  go_wp2_with fail
  refine (padding_any n W (by omega)).mono ?_
  rintro _ w1 ⟨rfl, hb1⟩
  have HB1 : Hid (Below w.heap.size w w1) := HBL.out.trans (hb1.mono HBL.out.size)
  have HH1 := hidM (HH.out.same (hb1.block w.heap.size hHW))
  have HW1 : Hid (w.heap.size < w1.heap.size) := Nat.lt_of_lt_of_le hHW hb1.size
  have HPL : Hid ((⟨(padB n).toArray⟩ : ByteArray).size ≤ 100) := by
    unfold Hid
    show (padB n).toArray.size ≤ 100
    rw [List.size_toArray, padB_len]; unfold padN; omega
  have HPT : Hid ((⟨(padB n).toArray⟩ : ByteArray).data.toList = padB n) := rfl
  clear hb1 hcn
  generalize (⟨(padB n).toArray⟩ : ByteArray) = pd at *
  go_wp2_with fail
  refine (write1_any w.heap.size M pd w1 HW1.out (by have := HPL.out; have := HN.out; omega) HH1.out).mono ?_
  rintro _ w2 ⟨rfl, hh2, hb2⟩
  rw [HPT.out] at hh2
  have HB2 : Hid (Below w.heap.size w w2) := HB1.out.trans ((hb2.mono (Nat.le_of_lt HW1.out)).below (Nat.le_refl _))
  have HW2 : Hid (w.heap.size < w2.heap.size) := Nat.lt_of_lt_of_le HW1.out hb2.size
  obtain ⟨ws2, part2, q1, q2, q3, q4, q5⟩ := hh2
  have hne : M ++ padB n ≠ [] := fun he => by
    have := congrArg List.length he
    rw [List.length_append, padB_len] at this
    simp at this
  have HWS := hidM (q3 hne)
  have HRG := hidM q5.rangePre
  have HL2 : Hid (ws2.length = 5) := q1
  have HBD : Hid (∀ j, ws2.getD j 0 < 4294967296) := fun j => by rw [HWS.out]; exact (wordsAt1_ok _).bd j
  have HWT := hidM (wordsText_any w.heap.size 0 5 ws2 w2 (by rw [HL2.out]; decide) HBD.out HRG.out HW2.out)
  rw [HL2.out, HWS.out] at HWT
  clear hb2 q1 q2 q3 q4 q5 hne
  go_wp2_with fail
  refine HWT.out.mono ?_
  rintro _ w3 ⟨rfl, hb3⟩
  have HB3 : Hid (Below w.heap.size w w3) := HB2.out.trans (hb3.mono HB2.out.size)
  have HSH : Hid (wordsB (wordsAt mixL1 h0 (M ++ padB n)) = sha1L M) := by unfold Hid sha1L; rw [HN.out]
  clear hb3
  rw [HSH.out]
  go_wp2
  go_ret
  exact ⟨rfl, HB3.out⟩

set_option maxRecDepth 100000 in
set_option maxHeartbeats 800000 in
theorem once1_any (s : ByteArray) (w : World) (hs : s.size ≤ 549755813888) :
    Calls Tryd.prog 9 #[.string s] w fun e w' => e = .returned (.string ⟨(sha1L s.data.toList).toArray⟩) ∧ Below w.heap.size w w' := by
  have hz := zero38
  have HNEW : Hid ((w.alloc (.cells zB1 38)).heap[w.heap.size]? = some (.cells zB1 38 (0, 0))) := heap_alloc_new w _
  have HH := hidM (hashS_zero1 _ _ HNEW.out)
  have HB0 : Hid (Below w.heap.size w (w.alloc (.cells zB1 38))) := (Below.refl _ _).alloc (Nat.le_refl _) _
  have HLT : Hid (w.heap.size < (w.alloc (.cells zB1 38)).heap.size) := by unfold Hid; simp
  generalize hZ : zB1 = Z at *
  clear hZ HNEW
  go_enter Tryd.func9, Tryd.ntmps9
  go_wp2_with fail
  generalize w.alloc (.cells Z 38) = W at *
  refine (write1_any w.heap.size [] s W HLT.out (by simp; omega) HH.out).mono ?_
  rintro _ w1 ⟨rfl, hh1, hb1⟩
  rw [List.nil_append] at hh1
  have HH1 := hidM hh1
  have HB1 : Hid (Below w.heap.size w w1) := HB0.out.trans ((hb1.mono (Nat.le_of_lt HLT.out)).below (Nat.le_refl _))
  have HL1 : Hid (w.heap.size < w1.heap.size) := Nat.lt_of_lt_of_le HLT.out hb1.size
  clear hh1 hb1 hz
  go_wp2_with fail
  refine (sum1_any w.heap.size s.data.toList w1 HL1.out (by simpa using hs) HH1.out).mono ?_
  rintro _ w2 ⟨rfl, hb2⟩
  have HB2 : Hid (Below w.heap.size w w2) := HB1.out.trans (hb2.mono HB1.out.size)
  clear hb2
  go_wp2
  go_ret
  exact ⟨rfl, HB2.out⟩
end Go.Proofs.YtbodjopdhciaeabDoor
