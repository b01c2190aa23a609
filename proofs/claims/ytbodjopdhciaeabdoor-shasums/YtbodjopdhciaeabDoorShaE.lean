/-
  Walks of sha: padding, wordsText.
-/
import Derived.Test.YtbodjopdhciaeabDoorShaD
import Derived.Laws.MakeOwn
import Derived.Deep.RegionWith
namespace Go.Proofs.YtbodjopdhciaeabDoor
open Go.RowKit

/-- What stands behind a text of n bytes. -/
def padN (n : Nat) : Nat := (119 - n % 64) % 64
def padB (n : Nat) : List UInt8 := (128 :: List.replicate (padN n) 0) ++ wordB (n * 8 / 4294967296) ++ wordB (n * 8 % 4294967296)
theorem padB_len (n : Nat) : (padB n).length = 9 + padN n := by
  unfold padB; simp [wordB_len]; omega
theorem pad_sum (n : Nat) : (n + (padB n).length) % 64 = 0 := by rw [padB_len]; unfold padN; omega
def zerosV (n : Nat) : Array Value := (bytesV (List.replicate n 0)).toArray
theorem info_byte : ∃ i, Tryd.prog.info? 5 = some i ∧ i.zero = some (.int .u8 0) ∧ i.size = 1 ∧ i.bytes = 1 := by
  have h : ((Tryd.prog.info? 5).map fun i => (i.zero, i.size, i.bytes)) = some (some (.int .u8 0), 1, 1) := by kernel_rfl
  cases hq : Tryd.prog.info? 5 with
  | none => simp [hq] at h
  | some i => simp [hq] at h; exact ⟨i, rfl, h.1, h.2.1, h.2.2⟩
theorem made_zeros (n : Nat) (w : World) (hn : n ≤ 1000) :
    (Instr.makeSlice 57 (.int .u64 (n : Int)) (.int .u64 (n : Int))).run Tryd.prog w = .ok (.slice (some ⟨w.heap.size, 0, none⟩) n n) (w.alloc (.cells (zerosV n) 5)) := by
  obtain ⟨i, hi, h1, h2, h3⟩ := info_byte
  have h := run_make (P := Tryd.prog) w 57 5 i (.int .u8 0) Tryd.underlying57 hi h1 .u64 .u64 (n : Int) (n : Int) (by omega) (by omega) (by rw [h3]; omega) (by omega)
  rw [h, h2]
  have e : madeCells (Value.int .u8 0).cells n = zerosV n := by
    unfold madeCells zerosV bytesV
    apply Array.ext
    · simp
    · intro j h1 h2
      simp [Value.cells, Nat.mod_one]
  simp [e]
theorem wordText_int (x : Int) (k : Nat) (w : World) (hk : x = (k : Int)) (hx : k < 4294967296) :
    Calls Tryd.prog 55 #[.int .u32 x] w fun e w' => e = .returned (.string ⟨(wordB k).toArray⟩) ∧ Below w.heap.size w w' := by
  subst hk; exact wordText_any k w hx

/-- While the padding is put together its row stands. -/
structure Pad (w W : World) (l : List UInt8) : Prop where
  row : RowB W w.heap.size 5 l
  below : Below w.heap.size w W
  size : w.heap.size < W.heap.size
theorem Pad.next {w W W1 : World} {l : List UInt8} (h : Pad w W l) (hb : Below W.heap.size W W1) : Pad w W1 l :=
  ⟨(hb.block _ h.size).trans h.row, h.below.trans (hb.mono (Nat.le_of_lt h.size)), Nat.lt_of_lt_of_le h.size hb.size⟩
theorem Pad.drew {w W : World} {l : List UInt8} (h : Pad w W l) : Pad w W.drew l := ⟨h.row, h.below.drew, h.size⟩
theorem Pad.conv {w W : World} {l : List UInt8} (h : Pad w W l) : (convert 57 9 (.slice (some ⟨w.heap.size, 0, none⟩) l.length l.length)).run Tryd.prog W = .ok (.string ⟨l.toArray⟩) W :=
  conv_row h.row.range

theorem str_app (a b : List UInt8) : (⟨a.toArray⟩ : ByteArray) ++ ⟨b.toArray⟩ = ⟨(a ++ b).toArray⟩ := by
  apply ByteArray.ext
  simp
set_option maxHeartbeats 400000 in
theorem padding_any (n : Nat) (w : World) (hn : n ≤ 1099511627776) :
    Calls Tryd.prog 43 #[.int .u64 (n : Int)] w fun e w' => e = .returned (.string ⟨(padB n).toArray⟩) ∧ Below w.heap.size w w' := by
  obtain ⟨r, hr⟩ : ∃ r, r = n % 64 := ⟨_, rfl⟩
  have hrt : (n : Int).tmod 64 = (r : Int) := by rw [Int.tmod_eq_emod_of_nonneg (by omega)]; omega
  have r64 : r < 64 := by omega
  obtain ⟨m, hm⟩ : ∃ m, m = padN n := ⟨_, rfl⟩
  have m64 : m < 64 := by rw [hm]; unfold padN; omega
  have hmt : (119 - (r : Int)).tmod 64 = (m : Int) := by rw [Int.tmod_eq_emod_of_nonneg (by omega), hm]; unfold padN; omega
  have hmk : ∀ w : World, (Instr.makeSlice 57 (.int .u64 (1 + (m : Int))) (.int .u64 (1 + (m : Int)))).run Tryd.prog w = .ok (.slice (some ⟨w.heap.size, 0, none⟩) (m + 1) (m + 1)) (w.alloc (.cells (zerosV (m + 1)) 5)) := by
    intro w
    have := made_zeros (m + 1) w (by omega)
    rwa [show ((m + 1 : Nat) : Int) = 1 + (m : Int) by omega] at this
  have hz0 : (zerosV (m + 1))[0]? = some (.int .u8 0) := by simp [zerosV, bytesV, List.replicate_succ]
  have HZ : Hid ((zerosV (m + 1)).setIfInBounds 0 (.int .u8 128) = (bytesV (128 :: List.replicate m 0)).toArray) := by
    unfold Hid zerosV bytesV; simp [List.replicate_succ]
  have HLEN : Hid ((128 :: List.replicate m (0 : UInt8)).length = m + 1) := by unfold Hid; simp
  have HP : Hid (padB n = ((128 :: List.replicate m 0) ++ wordB (n * 8 / 4294967296)) ++ wordB (n * 8 % 4294967296)) := by unfold Hid padB; rw [hm]
  generalize (128 :: List.replicate m (0 : UInt8)) = L at *
  have hadd1 : ∀ w : World, (Op.stringOp .add ⟨L.toArray⟩ ⟨(wordB (n * 8 / 4294967296)).toArray⟩).run Tryd.prog w = .ok (.string ⟨(L ++ wordB (n * 8 / 4294967296)).toArray⟩) w := by
    intro w
    rw [run_string_add_sum _ _ _ (by show L.toArray.size + (wordB _).toArray.size ≤ _; rw [List.size_toArray, List.size_toArray, HLEN.out, wordB_len]; omega), str_app]
  have hadd2 : ∀ w : World, (Op.stringOp .add ⟨(L ++ wordB (n * 8 / 4294967296)).toArray⟩ ⟨(wordB (n * 8 % 4294967296)).toArray⟩).run Tryd.prog w = .ok (.string ⟨(padB n).toArray⟩) w := by
    intro w
    rw [run_string_add_sum _ _ _ (by show (L ++ wordB _).toArray.size + (wordB _).toArray.size ≤ _; rw [List.size_toArray, List.size_toArray, List.length_append, HLEN.out, wordB_len, wordB_len]; omega), str_app, HP.out]
  clear hr hm
  go_enter Tryd.func43, Tryd.ntmps43
  go_wp2
  have hp : Pad w (w.alloc (.cells ((zerosV (m + 1)).setIfInBounds 0 (.int .u8 128)) 5)).drew L := by
    rw [HZ.out]
    exact ⟨heap_alloc_new _ _, ((Below.refl _ _).alloc (Nat.le_refl _) _).drew, by simp⟩
  have hcv := hp.conv
  rw [HLEN.out] at hcv
  go_region_with (go_at_call 55; first
    | (refine (wordText_int _ (n * 8 / 4294967296) _ ?_ ?_).mono ?_
       · rw [IntKind.wrap_u32]; omega
       · omega
       rintro _ w1 ⟨rfl, hb1⟩
       have hp1 := hp.next hb1
       clear hp hb1 hcv
       have hp := hp1
       have hcv := hp1.conv
       rw [HLEN.out] at hcv
       clear hp1)
    | (refine (wordText_int _ (n * 8 % 4294967296) _ ?_ ?_).mono ?_
       · rw [IntKind.wrap_u32]; omega
       · omega
       rintro _ w1 ⟨rfl, hb1⟩
       have hp1 := hp.next hb1
       clear hp hb1 hcv
       have hp := hp1
       have hcv := hp1.conv
       rw [HLEN.out] at hcv
       clear hp1))
  all_goals
    go_wp2
    go_ret
    exact ⟨rfl, hp.below⟩

theorem rangeW_keep {w W : World} {b off : Nat} {l : List Value} {B : Nat} (h : w.rangeAt b off l) (hb : Below B w W) (hB : b < B) : W.rangeAt b off l := by
  intro j v hv
  have h1 := h j v hv
  unfold World.cell? at h1 ⊢
  rw [hb.block b hB]
  exact h1
set_option maxHeartbeats 400000 in
theorem wordsText_any (b off cap : Nat) (l : List Nat) (w : World) (hl : l.length ≤ 100) (hbd : ∀ j, l.getD j 0 < 4294967296) (hr : w.rangeAt b off (wordsV l)) (hb : b < w.heap.size) :
    Calls Tryd.prog 44 #[.slice (some ⟨b, off, none⟩) l.length cap] w fun e w' => e = .returned (.string ⟨(wordsB l).toArray⟩) ∧ Below w.heap.size w w' := by
  have HR := hidM hr
  have HBD := hidM hbd
  obtain ⟨N, hN⟩ : ∃ N, N = l.length := ⟨_, rfl⟩
  have HN := hidM hN
  rw [← hN] at hl ⊢
  clear hr hbd hN
  go_enter Tryd.func44, Tryd.ntmps44
  go_wp2
  go_loopw [3, 5, 8] (fun v _ i wr => ∃ (k : Nat) (P : List UInt8), k ≤ N ∧ i = .int .i64 k ∧ P = wordsB (l.take k) ∧ v = .string ⟨P.toArray⟩ ∧ Below w.heap.size w wr) (fun _ _ i _ => N - (intOf i).toNat)
  case atStart => exact ⟨0, [], Nat.zero_le _, rfl, rfl, rfl, Below.refl _ _⟩
  case round =>
    obtain ⟨k, P, hk, rfl, hP, rfl, hbr⟩ := hrel
    by_cases hlt : k < N
    · have hlk : k < l.length := by rw [← HN.out]; exact hlt
      have hcell : wr.cell? ⟨b, off + k, none⟩ = some (.int .u32 (l.getD k 0 : Nat)) := by
        rw [← getElem_D l k hlk]
        exact rangeW_keep HR.out hbr hb k _ (wordsV_at l k hlk)
      have hx := HBD.out k
      have HX : Hid (wordsB (l.take (k + 1)) = P ++ wordB (l.getD k 0)) := by
        unfold Hid
        rw [hP, ← wordsB_snoc, List.take_add_one, List.getElem?_eq_getElem hlk, getElem_D l k hlk]; rfl
      have HPL : Hid (P.length = 4 * k) := by unfold Hid; rw [hP, wordsB_len, List.length_take]; omega
      have HB := hidM hbr
      generalize l.getD k 0 = x at *
      have hadd : ∀ w : World, (Op.stringOp .add ⟨P.toArray⟩ ⟨(wordB x).toArray⟩).run Tryd.prog w = .ok (.string ⟨(P ++ wordB x).toArray⟩) w := by
        intro w
        rw [run_string_add_sum _ _ _ (by show P.toArray.size + (wordB _).toArray.size ≤ _; rw [List.size_toArray, List.size_toArray, HPL.out, wordB_len]; omega), str_app]
      clear hP hbr
      go_wp2_with fail
      refine (wordText_any x _ hx).mono ?_
      rintro _ w1 ⟨rfl, hb1⟩
      have HB2 := hidM (HB.out.trans (hb1.mono HB.out.size))
      clear hb1
      go_wp2
      go_roundw
      case rel => exact ⟨k + 1, _, by omega, by go_num, HX.out.symm, rfl, HB2.out⟩
      case measure => simp [intOf]; omega
    · have HF : Hid (wordsB l = P) := by unfold Hid; rw [hP, List.take_of_length_le (by rw [← HN.out]; omega)]
      have HB := hidM hbr
      clear hbr hP
      go_wp2
      go_ret
      exact ⟨by rw [HF.out]; rfl, HB.out⟩
end Go.Proofs.YtbodjopdhciaeabDoor
