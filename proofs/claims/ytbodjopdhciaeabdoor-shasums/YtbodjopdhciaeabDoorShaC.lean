/-
  Walks of sha: mix1.
-/
import Derived.Test.YtbodjopdhciaeabDoorShaB
namespace Go.Proofs.YtbodjopdhciaeabDoor
open Go.RowKit

theorem size33 : (Tryd.prog.info? 33).map (·.size) = some 64 := by kernel_rfl
theorem size31 : (Tryd.prog.info? 31).map (·.size) = some 5 := by kernel_rfl
theorem add_mod (a b : Nat) : ((a : Int) + (b : Int)) % 4294967296 = ((add32 a b : Nat) : Int) := by unfold add32; omega
theorem add32_lt (a b : Nat) : add32 a b < 4294967296 := Nat.mod_lt _ (by decide)

theorem rot5 : bits .and .u64 (IntKind.u64.wrap 5) 31 = ((5 : Nat) : Int) := by decide
theorem rot30 : bits .and .u64 (IntKind.u64.wrap 30) 31 = ((30 : Nat) : Int) := by decide
theorem quiet_sum {P : Program} {f : FuncId} {args : Array Value} {w : World} {n x : Nat} {v : Value}
    (h : Calls P f args (w.drewN (n + x)) fun e w' => e = .returned v ∧ w' = w.drewN (n + x)) : Calls P f args (w.drewN (n + x)) fun e w'' => e = .returned v ∧ ∃ m, w'' = w.drewN (n + m) :=
  h.mono fun _ _ ⟨he, hm⟩ => ⟨he, x, hm⟩
theorem heap3_first (w : World) (a b c : Obj) : (((w.alloc a).alloc b).alloc c).heap[w.heap.size]? = some a := by
  rw [Below.heap_alloc _ _ _ (by simp; omega), Below.heap_alloc _ _ _ (by simp), _root_.Go.heap_alloc_new]
theorem heap3_last (w : World) (a b c : Obj) : (((w.alloc a).alloc b).alloc c).heap[w.heap.size + 1 + 1]? = some c := by
  have h := _root_.Go.heap_alloc_new ((w.alloc a).alloc b) c
  simpa using h
theorem heap3_below (w : World) (a b c : Obj) : Below w.heap.size w (((w.alloc a).alloc b).alloc c) :=
  (((Below.refl _ _).alloc (Nat.le_refl _) _).alloc (by simp) _).alloc (by simp; omega) _
theorem heap3_size (w : World) (a b c : Obj) : (((w.alloc a).alloc b).alloc c).heap.size = w.heap.size + 1 + 1 + 1 := by simp

set_option maxRecDepth 100000 in
set_option maxHeartbeats 1600000 in
theorem mix1_any (a0 b0 c0 d0 e0 : Nat) (p : List UInt8) (w : World) (hp : p.length = 64) (ha : a0 < 4294967296) (hb : b0 < 4294967296) (hc : c0 < 4294967296) (hd : d0 < 4294967296) (he : e0 < 4294967296) :
    Calls Tryd.prog 40 #[.agg (wordsV [a0, b0, c0, d0, e0]).toArray, .agg (bytesV p).toArray] w fun e w' => e = .returned (.agg (wordsV (mixL1 [a0, b0, c0, d0, e0] p)).toArray) ∧ Below w.heap.size w w' := by
  have hz := zero83
  have HP := hidM hp
  obtain ⟨C, hC⟩ : ∃ C, C = (bytesV p).toArray := ⟨_, rfl⟩
  have HCS : Hid (C.size = 64) := by unfold Hid; rw [hC, List.size_toArray, bytesV_len, hp]
  have HC := hidM hC
  rw [← hC]
  show Calls Tryd.prog 40 #[.agg #[.int .u32 (a0 : Int), .int .u32 (b0 : Int), .int .u32 (c0 : Int), .int .u32 (d0 : Int), .int .u32 (e0 : Int)], .agg C] w _
  clear hC hp
  go_enter Tryd.func40, Tryd.ntmps40
  go_wp2_with (first
    | (refine wpList_load_row rfl 33 (.tmp 3) rfl (w.heap.size + 1) rfl 33 C (0, 0) _ ?g1 Tryd.underlying33 rfl (by rw [HCS.out]; exact size33) ?_))
  case g1 =>
    rw [Below.heap_alloc _ _ _ (by simp)]
    have h := _root_.Go.heap_alloc_new (w.alloc (.cells #[.int .u32 (a0 : Int), .int .u32 (b0 : Int), .int .u32 (c0 : Int), .int .u32 (d0 : Int), .int .u32 (e0 : Int)] 31)) (.cells C 33)
    simpa using h
  have HH0 := hidM (heap3_first w (.cells #[.int .u32 (a0 : Int), .int .u32 (b0 : Int), .int .u32 (c0 : Int), .int .u32 (d0 : Int), .int .u32 (e0 : Int)] 31) (.cells C 33) (.cells #[.int .u32 0, .int .u32 0, .int .u32 0, .int .u32 0, .int .u32 0] 31))
  have HR0 := hidM (heap3_last w (.cells #[.int .u32 (a0 : Int), .int .u32 (b0 : Int), .int .u32 (c0 : Int), .int .u32 (d0 : Int), .int .u32 (e0 : Int)] 31) (.cells C 33) (.cells #[.int .u32 0, .int .u32 0, .int .u32 0, .int .u32 0, .int .u32 0] 31))
  have HB0 := hidM (heap3_below w (.cells #[.int .u32 (a0 : Int), .int .u32 (b0 : Int), .int .u32 (c0 : Int), .int .u32 (d0 : Int), .int .u32 (e0 : Int)] 31) (.cells C 33) (.cells #[.int .u32 0, .int .u32 0, .int .u32 0, .int .u32 0, .int .u32 0] 31))
  have HZ0 := hidM (heap3_size w (.cells #[.int .u32 (a0 : Int), .int .u32 (b0 : Int), .int .u32 (c0 : Int), .int .u32 (d0 : Int), .int .u32 (e0 : Int)] 31) (.cells C 33) (.cells #[.int .u32 0, .int .u32 0, .int .u32 0, .int .u32 0, .int .u32 0] 31))
  generalize ((w.alloc (.cells #[.int .u32 (a0 : Int), .int .u32 (b0 : Int), .int .u32 (c0 : Int), .int .u32 (d0 : Int), .int .u32 (e0 : Int)] 31)).alloc (.cells C 33)).alloc (.cells #[.int .u32 0, .int .u32 0, .int .u32 0, .int .u32 0, .int .u32 0] 31) = W0 at *
  rw [HC.out]
  refine (spread1_any p W0 HP.out).mono ?_
  rintro e w1 ⟨rfl, hb1⟩
  rw [← HC.out]
  have HSL : Hid ((wordsV (sched1 p)).toArray.size = 80) := by
    unfold Hid; rw [List.size_toArray, wordsV_len]; unfold sched1; rw [ext1_len]; simp [words16]
  have HONE := hidM (ones_words (sched1 p))
  have HW2 : Hid (RowW ((w1.alloc (.cells Z80V 83)).setRow w1.heap.size (wordsV (sched1 p)).toArray) w1.heap.size 83 (sched1 p)) := setRow_heap _ _ Z80V _ 83 _ (_root_.Go.heap_alloc_new _ _)
  have sz1 : w.heap.size + 1 + 1 + 1 ≤ w1.heap.size := by have := hb1.size; have := HZ0.out; omega
  have other : ∀ k, k < w.heap.size + 1 + 1 + 1 → ((w1.alloc (.cells Z80V 83)).setRow w1.heap.size (wordsV (sched1 p)).toArray).heap[k]? = W0.heap[k]? := by
    intro k hk
    rw [setRow_other _ _ _ _ (by omega), Below.heap_alloc _ _ _ (by omega)]
    exact hb1.block k (by have := HZ0.out; omega)
  have HH2 : Hid (((w1.alloc (.cells Z80V 83)).setRow w1.heap.size (wordsV (sched1 p)).toArray).heap[w.heap.size]? = some (.cells #[.int .u32 (a0 : Int), .int .u32 (b0 : Int), .int .u32 (c0 : Int), .int .u32 (d0 : Int), .int .u32 (e0 : Int)] 31)) := (other _ (by omega)).trans HH0.out
  have HR2 : Hid (((w1.alloc (.cells Z80V 83)).setRow w1.heap.size (wordsV (sched1 p)).toArray).heap[w.heap.size + 1 + 1]? = some (.cells #[.int .u32 0, .int .u32 0, .int .u32 0, .int .u32 0, .int .u32 0] 31)) := (other _ (by omega)).trans HR0.out
  have HB2 : Hid (Below w.heap.size w ((w1.alloc (.cells Z80V 83)).setRow w1.heap.size (wordsV (sched1 p)).toArray)) := by
    refine below_setRowS ?_ (by omega)
    exact (HB0.out.trans (hb1.mono HB0.out.size)).alloc (by omega) _
  obtain ⟨CW, hCW⟩ : ∃ W, W = (wordsV (sched1 p)).toArray := ⟨_, rfl⟩
  rw [← hCW] at HSL HONE HW2 HH2 HR2 HB2 ⊢
  clear hCW other hb1 HH0 HR0 HB0 HZ0
  have HNEW : Hid ((w1.alloc (.cells Z80V 83)).heap[w1.heap.size]? = some (.cells Z80V 83)) := _root_.Go.heap_alloc_new _ _
  go_wp2_with (first
    | (refine wpList_store_row rfl 83 (.tmp 5) (.tmp 16) rfl w1.heap.size CW rfl rfl 83 Z80V HNEW.out (by rw [HSL.out]; exact size83) (by rw [HSL.out]; rfl) HONE.out ?_; generalize hWW : (w1.alloc (.cells Z80V 83)).setRow w1.heap.size CW = W2 at *))
  have q0 : W2.cell? ⟨w.heap.size, 0, none⟩ = some (.int .u32 (a0 : Int)) := by rw [cell_of_row W2 _ 0 _ 31 (0, 0) HH2.out]; rfl
  have q1 : W2.cell? ⟨w.heap.size, 1, none⟩ = some (.int .u32 (b0 : Int)) := by rw [cell_of_row W2 _ 1 _ 31 (0, 0) HH2.out]; rfl
  have q2 : W2.cell? ⟨w.heap.size, 2, none⟩ = some (.int .u32 (c0 : Int)) := by rw [cell_of_row W2 _ 2 _ 31 (0, 0) HH2.out]; rfl
  have q3 : W2.cell? ⟨w.heap.size, 3, none⟩ = some (.int .u32 (d0 : Int)) := by rw [cell_of_row W2 _ 3 _ 31 (0, 0) HH2.out]; rfl
  have q4 : W2.cell? ⟨w.heap.size, 4, none⟩ = some (.int .u32 (e0 : Int)) := by rw [cell_of_row W2 _ 4 _ 31 (0, 0) HH2.out]; rfl
  have HBD : Hid (∀ j, (sched1 p).getD j 0 < 4294967296) := fun j => ext1_bound p 64 j
  clear hWW HNEW HONE
  go_quiet (fail)
  go_wp2
  go_loopw [6, 7, 8, 9, 10, 11, 12, 13, 14] (fun va vb vc vd ve i _ _ _ wr => ∃ (k a b c d e n : Nat), k ≤ 80 ∧ i = .int .i64 (k : Int) ∧ va = .int .u32 (a : Int) ∧ vb = .int .u32 (b : Int) ∧ vc = .int .u32 (c : Int) ∧ vd = .int .u32 (d : Int) ∧ ve = .int .u32 (e : Int) ∧
      a < 4294967296 ∧ b < 4294967296 ∧ c < 4294967296 ∧ d < 4294967296 ∧ e < 4294967296 ∧ (a, b, c, d, e) = rounds1 (sched1 p) (a0, b0, c0, d0, e0) k ∧ wr = W2.drewN n) (fun _ _ _ _ _ i _ _ _ _ => 80 - (intOf i).toNat)
  case atStart => exact ⟨0, a0, b0, c0, d0, e0, _, by omega, rfl, rfl, rfl, rfl, rfl, rfl, ha, hb, hc, hd, he, rfl, rfl⟩
  case round =>
    obtain ⟨k, a, b, c, d, e, n, hk, rfl, rfl, rfl, rfl, rfl, rfl, la, lb, lc, ld, le, hr, rfl⟩ := hrel
    have HR := hidM hr
    clear hr
    by_cases h80 : k < 80
    · have hx := HW2.out.cell k (by unfold sched1; rw [ext1_len]; simp [words16]; omega)
      have lx := HBD.out k
      have HF := hidM (f1_lt k b c d lb lc ld)
      have HK := hidM (k1_lt k)
      have HRA : Hid (rotl 5 a < 4294967296) := rotl_lt 5 a (by decide) la
      have HRB : Hid (rotl 30 b < 4294967296) := rotl_lt 30 b (by decide) lb
      have HST : Hid (((((((rotl 5 a + f1 k b c d) % 4294967296 + e) % 4294967296 + k1 k) % 4294967296) + (sched1 p).getD k 0) % 4294967296, a, rotl 30 b, c, d) = rounds1 (sched1 p) (a0, b0, c0, d0, e0) (k + 1)) := by
        unfold Hid; rw [rounds1_succ, ← HR.out]; rfl
      generalize (sched1 p).getD k 0 = x at *
      go_wp2_with fail
      refine (step1_any k b c d _ h80 lb lc ld).mono ?_
      rintro e' w' ⟨rfl, rfl⟩
      generalize f1 k b c d = ff at *
      generalize k1 k = kk at *
      go_wp2
      have k80 : (k : Int) < 80 := by omega
      go_quiet ((go_at_call 52; exact quiet_sum (rotate_any a 5 5 _ la (by decide) rot5)))
      generalize hra : rotl 5 a = ra at *
      go_wp2_with fail
      refine (rotate_any b 30 30 _ lb (by decide) rot30).mono ?_
      rintro e' w' ⟨rfl, rfl⟩
      generalize hrb : rotl 30 b = rb at *
      have HRA2 := hidM hra
      have HRB2 := hidM hrb
      clear hra hrb
      go_wp2
      go_roundw
      case rel => exact ⟨k + 1, _, a, rb, c, d, _, by omega, by go_num, val_int (by have := HF.out; have := HK.out; have := HRA.out; omega), rfl, rfl, rfl, rfl, Nat.mod_lt _ (by decide), la, HRB.out, lc, ld, HST.out, rfl⟩
      case measure => simp [intOf]; omega
    · have k80 : k = 80 := by omega
      subst k80
      rw [show ((80 : Nat) : Int) = 80 from rfl]
      have HM : Hid (mixL1 [a0, b0, c0, d0, e0] p = [add32 a0 a, add32 b0 b, add32 c0 c, add32 d0 d, add32 e0 e]) := by
        unfold Hid mixL1
        show [add32 a0 (rounds1 (sched1 p) (a0, b0, c0, d0, e0) 80).1, add32 b0 (rounds1 (sched1 p) (a0, b0, c0, d0, e0) 80).2.1, add32 c0 (rounds1 (sched1 p) (a0, b0, c0, d0, e0) 80).2.2.1, add32 d0 (rounds1 (sched1 p) (a0, b0, c0, d0, e0) 80).2.2.2.1, add32 e0 (rounds1 (sched1 p) (a0, b0, c0, d0, e0) 80).2.2.2.2] = _
        rw [← HR.out]
      have HBN : Hid (Below w.heap.size w (W2.drewN n)) := below_drewN HB2.out n
      have HRN : Hid ((W2.drewN n).heap[w.heap.size + 1 + 1]? = some (.cells #[.int .u32 0, .int .u32 0, .int .u32 0, .int .u32 0, .int .u32 0] 31)) := HR2.out
      have s0 := add_mod a0 a
      have s1 := add_mod b0 b
      have s2 := add_mod c0 c
      have s3 := add_mod d0 d
      have s4 := add_mod e0 e
      generalize add32 a0 a = x0 at *
      generalize add32 b0 b = x1 at *
      generalize add32 c0 c = x2 at *
      generalize add32 d0 d = x3 at *
      generalize add32 e0 e = x4 at *
      have HRS : Hid (((W2.drewN n).setRow (w.heap.size + 1 + 1) (wordsV [x0, x1, x2, x3, x4]).toArray).heap[w.heap.size + 1 + 1]? = some (.cells (wordsV [x0, x1, x2, x3, x4]).toArray 31 (0, 0))) := setRow_heap _ _ _ _ 31 _ HRN.out
      have HBS : Hid (Below w.heap.size w ((W2.drewN n).setRow (w.heap.size + 1 + 1) (wordsV [x0, x1, x2, x3, x4]).toArray)) := below_setRowS HBN.out (by omega)
      go_wp2_with (first
        | (refine wpList_store_row rfl 31 (.tmp 4) (.tmp 77) rfl (w.heap.size + 1 + 1) #[.int .u32 (x0 : Int), .int .u32 (x1 : Int), .int .u32 (x2 : Int), .int .u32 (x3 : Int), .int .u32 (x4 : Int)] rfl rfl 31 #[.int .u32 0, .int .u32 0, .int .u32 0, .int .u32 0, .int .u32 0] HRN.out size31 rfl (ones_words [x0, x1, x2, x3, x4]) ?_))
      exact bodyPost_ret (v := .agg (wordsV [x0, x1, x2, x3, x4]).toArray) (results_cell_row Tryd.results40 _ _ (w.heap.size + 1 + 1) 31 _ (0, 0) _ rfl HRS.out Tryd.underlying31 rfl size31) rfl ⟨by rw [HM.out], HBS.out⟩
end Go.Proofs.YtbodjopdhciaeabDoor
