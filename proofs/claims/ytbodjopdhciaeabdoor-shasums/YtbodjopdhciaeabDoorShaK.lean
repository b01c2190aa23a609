/-
  Walks of sha: mix256.
-/
import Derived.Test.YtbodjopdhciaeabDoorShaJ
namespace Go.Proofs.YtbodjopdhciaeabDoor
open Go.RowKit

/-- The table of constants lies where the program lays it. -/
def Tab2 (w : World) : Prop := 1 < w.heap.size ∧ ∀ i, i < 64 → w.cell? ⟨1, i, none⟩ = some (.int .u32 ((kL2.getD i 0 : Nat) : Int))
theorem Tab2.below {w w' : World} {B : Nat} (h : Tab2 w) (hb : Below B w w') (hB : 1 < B) : Tab2 w' :=
  ⟨Nat.lt_of_lt_of_le h.1 hb.size, fun i hi => (hb.cell (p := ⟨1, i, none⟩) hB).trans (h.2 i hi)⟩
theorem Tab2.but {w w' : World} {b B : Nat} (h : Tab2 w) (hb : But b B w w') (hB : 1 < B) (h1 : b ≠ 1) : Tab2 w' :=
  ⟨Nat.lt_of_lt_of_le h.1 hb.size, fun i hi => (World.cell?_of_block (a := ⟨1, i, none⟩) (hb.block 1 hB (Ne.symm h1))).trans (h.2 i hi)⟩
theorem Tab2.self {w w' : World} (h : Tab2 w) (hb : Below w.heap.size w w') : Tab2 w' := h.below hb h.1
theorem notx (e : Nat) (he : e < 4294967296) : bits .xor .u32 IntKind.u32.max (e : Int) = ((ones32 ^^^ e : Nat) : Int) := by rw [umax32, u32_xor_nat _ _ ones32_lt he]

set_option maxRecDepth 100000 in
set_option maxHeartbeats 3200000 in
theorem mix2_any (a0 b0 c0 d0 e0 f0 g0 h0 : Nat) (p : List UInt8) (w : World) (hp : p.length = 64) (ha0 : a0 < 4294967296) (hb0 : b0 < 4294967296) (hc0 : c0 < 4294967296) (hd0 : d0 < 4294967296) (he0 : e0 < 4294967296) (hf0 : f0 < 4294967296) (hg0 : g0 < 4294967296) (hh0 : h0 < 4294967296) (hT : Tab2 w) :
    Calls Tryd.prog 42 #[.agg (wordsV [a0, b0, c0, d0, e0, f0, g0, h0]).toArray, .agg (bytesV p).toArray] w fun e w' => e = .returned (.agg (wordsV (mixL2 [a0, b0, c0, d0, e0, f0, g0, h0] p)).toArray) ∧ Below w.heap.size w w' := by
  have hz := zero87
  have HP := hidM hp
  have HT := hidM hT
  have HT1 : Hid (1 < w.heap.size) := hT.1
  obtain ⟨C, hC⟩ : ∃ C, C = (bytesV p).toArray := ⟨_, rfl⟩
  have HCS : Hid (C.size = 64) := by unfold Hid; rw [hC, List.size_toArray, bytesV_len, hp]
  have HC := hidM hC
  rw [← hC]
  show Calls Tryd.prog 42 #[.agg #[.int .u32 (a0 : Int), .int .u32 (b0 : Int), .int .u32 (c0 : Int), .int .u32 (d0 : Int), .int .u32 (e0 : Int), .int .u32 (f0 : Int), .int .u32 (g0 : Int), .int .u32 (h0 : Int)], .agg C] w _
  clear hC hp hT
  go_enter Tryd.func42, Tryd.ntmps42
  go_wp2_with (first
    | (refine wpList_load_row rfl 33 (.tmp 3) rfl (w.heap.size + 1) rfl 33 C (0, 0) _ ?g1 Tryd.underlying33 rfl (by rw [HCS.out]; exact size33) ?_))
  case g1 =>
    rw [Below.heap_alloc _ _ _ (by simp)]
    have h := _root_.Go.heap_alloc_new (w.alloc (.cells #[.int .u32 (a0 : Int), .int .u32 (b0 : Int), .int .u32 (c0 : Int), .int .u32 (d0 : Int), .int .u32 (e0 : Int), .int .u32 (f0 : Int), .int .u32 (g0 : Int), .int .u32 (h0 : Int)] 39)) (.cells C 33)
    simpa using h
  have HH0 := hidM (heap3_first w (.cells #[.int .u32 (a0 : Int), .int .u32 (b0 : Int), .int .u32 (c0 : Int), .int .u32 (d0 : Int), .int .u32 (e0 : Int), .int .u32 (f0 : Int), .int .u32 (g0 : Int), .int .u32 (h0 : Int)] 39) (.cells C 33) (.cells #[.int .u32 0, .int .u32 0, .int .u32 0, .int .u32 0, .int .u32 0, .int .u32 0, .int .u32 0, .int .u32 0] 39))
  have HR0 := hidM (heap3_last w (.cells #[.int .u32 (a0 : Int), .int .u32 (b0 : Int), .int .u32 (c0 : Int), .int .u32 (d0 : Int), .int .u32 (e0 : Int), .int .u32 (f0 : Int), .int .u32 (g0 : Int), .int .u32 (h0 : Int)] 39) (.cells C 33) (.cells #[.int .u32 0, .int .u32 0, .int .u32 0, .int .u32 0, .int .u32 0, .int .u32 0, .int .u32 0, .int .u32 0] 39))
  have HB0 := hidM (heap3_below w (.cells #[.int .u32 (a0 : Int), .int .u32 (b0 : Int), .int .u32 (c0 : Int), .int .u32 (d0 : Int), .int .u32 (e0 : Int), .int .u32 (f0 : Int), .int .u32 (g0 : Int), .int .u32 (h0 : Int)] 39) (.cells C 33) (.cells #[.int .u32 0, .int .u32 0, .int .u32 0, .int .u32 0, .int .u32 0, .int .u32 0, .int .u32 0, .int .u32 0] 39))
  have HZ0 := hidM (heap3_size w (.cells #[.int .u32 (a0 : Int), .int .u32 (b0 : Int), .int .u32 (c0 : Int), .int .u32 (d0 : Int), .int .u32 (e0 : Int), .int .u32 (f0 : Int), .int .u32 (g0 : Int), .int .u32 (h0 : Int)] 39) (.cells C 33) (.cells #[.int .u32 0, .int .u32 0, .int .u32 0, .int .u32 0, .int .u32 0, .int .u32 0, .int .u32 0, .int .u32 0] 39))
  generalize ((w.alloc (.cells #[.int .u32 (a0 : Int), .int .u32 (b0 : Int), .int .u32 (c0 : Int), .int .u32 (d0 : Int), .int .u32 (e0 : Int), .int .u32 (f0 : Int), .int .u32 (g0 : Int), .int .u32 (h0 : Int)] 39)).alloc (.cells C 33)).alloc (.cells #[.int .u32 0, .int .u32 0, .int .u32 0, .int .u32 0, .int .u32 0, .int .u32 0, .int .u32 0, .int .u32 0] 39) = W0 at *
  rw [HC.out]
  refine (spread2_any p W0 HP.out).mono ?_
  rintro e w1 ⟨rfl, hb1⟩
  rw [← HC.out]
  have HSL : Hid ((wordsV (sched2 p)).toArray.size = 64) := by
    unfold Hid; rw [List.size_toArray, wordsV_len]; unfold sched2; rw [ext2_len]; simp [words16]
  have HONE := hidM (ones_words (sched2 p))
  have HW2 : Hid (RowW ((w1.alloc (.cells Z64V 87)).setRow w1.heap.size (wordsV (sched2 p)).toArray) w1.heap.size 87 (sched2 p)) := setRow_heap _ _ Z64V _ 87 _ (_root_.Go.heap_alloc_new _ _)
  have sz1 : w.heap.size + 1 + 1 + 1 ≤ w1.heap.size := by have := hb1.size; have := HZ0.out; omega
  have other : ∀ k, k < w.heap.size + 1 + 1 + 1 → ((w1.alloc (.cells Z64V 87)).setRow w1.heap.size (wordsV (sched2 p)).toArray).heap[k]? = W0.heap[k]? := by
    intro k hk
    rw [setRow_other _ _ _ _ (by omega), Below.heap_alloc _ _ _ (by omega)]
    exact hb1.block k (by have := HZ0.out; omega)
  have HH2 : Hid (((w1.alloc (.cells Z64V 87)).setRow w1.heap.size (wordsV (sched2 p)).toArray).heap[w.heap.size]? = some (.cells #[.int .u32 (a0 : Int), .int .u32 (b0 : Int), .int .u32 (c0 : Int), .int .u32 (d0 : Int), .int .u32 (e0 : Int), .int .u32 (f0 : Int), .int .u32 (g0 : Int), .int .u32 (h0 : Int)] 39)) := (other _ (by omega)).trans HH0.out
  have HR2 : Hid (((w1.alloc (.cells Z64V 87)).setRow w1.heap.size (wordsV (sched2 p)).toArray).heap[w.heap.size + 1 + 1]? = some (.cells #[.int .u32 0, .int .u32 0, .int .u32 0, .int .u32 0, .int .u32 0, .int .u32 0, .int .u32 0, .int .u32 0] 39)) := (other _ (by omega)).trans HR0.out
  have HB2 : Hid (Below w.heap.size w ((w1.alloc (.cells Z64V 87)).setRow w1.heap.size (wordsV (sched2 p)).toArray)) := by
    refine below_setRowS ?_ (by omega)
    exact (HB0.out.trans (hb1.mono HB0.out.size)).alloc (by omega) _
  obtain ⟨CW, hCW⟩ : ∃ W, W = (wordsV (sched2 p)).toArray := ⟨_, rfl⟩
  rw [← hCW] at HSL HONE HW2 HH2 HR2 HB2 ⊢
  clear hCW other hb1 HH0 HR0 HB0 HZ0
  have HNEW : Hid ((w1.alloc (.cells Z64V 87)).heap[w1.heap.size]? = some (.cells Z64V 87)) := _root_.Go.heap_alloc_new _ _
  go_wp2_with (first
    | (refine wpList_store_row rfl 87 (.tmp 5) (.tmp 18) rfl w1.heap.size CW rfl rfl 87 Z64V HNEW.out (by rw [HSL.out]; exact size87) (by rw [HSL.out]; rfl) HONE.out ?_; generalize hWW : (w1.alloc (.cells Z64V 87)).setRow w1.heap.size CW = W2 at *))
  have q0 : W2.cell? ⟨w.heap.size, 0, none⟩ = some (.int .u32 (a0 : Int)) := by rw [cell_of_row W2 _ 0 _ 39 (0, 0) HH2.out]; rfl
  have q1 : W2.cell? ⟨w.heap.size, 1, none⟩ = some (.int .u32 (b0 : Int)) := by rw [cell_of_row W2 _ 1 _ 39 (0, 0) HH2.out]; rfl
  have q2 : W2.cell? ⟨w.heap.size, 2, none⟩ = some (.int .u32 (c0 : Int)) := by rw [cell_of_row W2 _ 2 _ 39 (0, 0) HH2.out]; rfl
  have q3 : W2.cell? ⟨w.heap.size, 3, none⟩ = some (.int .u32 (d0 : Int)) := by rw [cell_of_row W2 _ 3 _ 39 (0, 0) HH2.out]; rfl
  have q4 : W2.cell? ⟨w.heap.size, 4, none⟩ = some (.int .u32 (e0 : Int)) := by rw [cell_of_row W2 _ 4 _ 39 (0, 0) HH2.out]; rfl
  have q5 : W2.cell? ⟨w.heap.size, 5, none⟩ = some (.int .u32 (f0 : Int)) := by rw [cell_of_row W2 _ 5 _ 39 (0, 0) HH2.out]; rfl
  have q6 : W2.cell? ⟨w.heap.size, 6, none⟩ = some (.int .u32 (g0 : Int)) := by rw [cell_of_row W2 _ 6 _ 39 (0, 0) HH2.out]; rfl
  have q7 : W2.cell? ⟨w.heap.size, 7, none⟩ = some (.int .u32 (h0 : Int)) := by rw [cell_of_row W2 _ 7 _ 39 (0, 0) HH2.out]; rfl
  have HTB := hidM (HT.out.below HB2.out HT1.out)
  have HBD : Hid (∀ j, (sched2 p).getD j 0 < 4294967296) := fun j => ext2_bound p 48 j
  clear hWW HNEW HONE
  go_quiet (fail)
  go_wp2
  go_quiet (fail)
  go_wp2
  go_loopw [6, 7, 8, 9, 10, 11, 12, 13, 14, 15, 16] (fun va vb vc vd ve vf vg vh i _ _ wr => ∃ (k a b c d e f g h n : Nat), k ≤ 64 ∧ i = .int .i64 (k : Int) ∧ va = .int .u32 (a : Int) ∧ vb = .int .u32 (b : Int) ∧ vc = .int .u32 (c : Int) ∧ vd = .int .u32 (d : Int) ∧ ve = .int .u32 (e : Int) ∧ vf = .int .u32 (f : Int) ∧ vg = .int .u32 (g : Int) ∧ vh = .int .u32 (h : Int) ∧
      a < 4294967296 ∧ b < 4294967296 ∧ c < 4294967296 ∧ d < 4294967296 ∧ e < 4294967296 ∧ f < 4294967296 ∧ g < 4294967296 ∧ h < 4294967296 ∧ (⟨a, b, c, d, e, f, g, h⟩ : S8) = rounds2 (sched2 p) ⟨a0, b0, c0, d0, e0, f0, g0, h0⟩ k ∧ wr = W2.drewN n) (fun _ _ _ _ _ _ _ _ i _ _ _ => 64 - (intOf i).toNat)
  case atStart => exact ⟨0, a0, b0, c0, d0, e0, f0, g0, h0, _, by omega, rfl, rfl, rfl, rfl, rfl, rfl, rfl, rfl, rfl, ha0, hb0, hc0, hd0, he0, hf0, hg0, hh0, rfl, World.drewN_drewN ..⟩
  case round =>
    obtain ⟨k, a, b, c, d, e, f, g, h, n, hk, rfl, rfl, rfl, rfl, rfl, rfl, rfl, rfl, rfl, la, lb, lc, ld, le, lf, lg, lh, hr, rfl⟩ := hrel
    have HR := hidM hr
    clear hr
    by_cases h64 : k < 64
    · have hx := HW2.out.cell k (by unfold sched2; rw [ext2_len]; simp [words16]; omega)
      have lx := HBD.out k
      have hkc := HTB.out.2 k h64
      have lk := kL2_bound k
      have HST : Hid (st2 (sched2 p) ⟨a, b, c, d, e, f, g, h⟩ k = rounds2 (sched2 p) ⟨a0, b0, c0, d0, e0, f0, g0, h0⟩ (k + 1)) := by
        unfold Hid; rw [rounds2_succ, ← HR.out]
      have HTT : Hid (tt2 (sched2 p) ⟨a, b, c, d, e, f, g, h⟩ k = add32 (add32 (add32 (add32 h (sg3 26 21 7 e)) ((e &&& f) ^^^ ((ones32 ^^^ e) &&& g))) (kL2.getD k 0)) ((sched2 p).getD k 0)) := rfl
      have HUU : Hid (uu2 ⟨a, b, c, d, e, f, g, h⟩ = add32 (sg3 30 19 10 a) (((a &&& b) ^^^ (a &&& c)) ^^^ (b &&& c))) := rfl
      have HS8 : Hid (st2 (sched2 p) ⟨a, b, c, d, e, f, g, h⟩ k = ⟨add32 (tt2 (sched2 p) ⟨a, b, c, d, e, f, g, h⟩ k) (uu2 ⟨a, b, c, d, e, f, g, h⟩), a, b, c, add32 d (tt2 (sched2 p) ⟨a, b, c, d, e, f, g, h⟩ k), e, f, g⟩) := rfl
      rw [HS8.out, HTT.out, HUU.out] at HST
      clear HS8 HTT HUU HR
      generalize (sched2 p).getD k 0 = x at *
      generalize kL2.getD k 0 = kk at *
      have HCA := hidM (fun v : World => turnsA e v le)
      have HCB := hidM (fun v : World => turnsB a v la)
      generalize sg3 26 21 7 e = s1 at *
      generalize sg3 30 19 10 a = s2 at *
      have z1 := u32_and_nat e f le lf
      have m1 : e &&& f < 4294967296 := and_lt lf
      have z2 := notx e le
      have m2 : ones32 ^^^ e < 4294967296 := xor_lt ones32_lt le
      generalize e &&& f = ef at *
      generalize ones32 ^^^ e = ne at *
      have z3 := u32_and_nat ne g m2 lg
      have m3 : ne &&& g < 4294967296 := and_lt lg
      generalize ne &&& g = ng at *
      have z4 := u32_xor_nat ef ng m1 m3
      generalize ef ^^^ ng = ch at *
      have z5 := u32_and_nat a b la lb
      have z6 := u32_and_nat a c la lc
      have z7 := u32_and_nat b c lb lc
      have m5 : a &&& b < 4294967296 := and_lt lb
      have m6 : a &&& c < 4294967296 := and_lt lc
      have m7 : b &&& c < 4294967296 := and_lt lc
      generalize a &&& b = ab at *
      generalize a &&& c = ac at *
      generalize b &&& c = bc at *
      have z8 := u32_xor_nat ab ac m5 m6
      have m8 : ab ^^^ ac < 4294967296 := xor_lt m5 m6
      generalize ab ^^^ ac = mm at *
      have z9 := u32_xor_nat mm bc m8 m7
      generalize mm ^^^ bc = mj at *
      have vt1 := add_wrap h s1
      have ut1 := add_mod h s1
      have HLt1 := hidM (add32_lt h s1)
      generalize add32 h s1 = t1 at *
      have vt2 := add_wrap t1 ch
      have ut2 := add_mod t1 ch
      have HLt2 := hidM (add32_lt t1 ch)
      generalize add32 t1 ch = t2 at *
      have vt3 := add_wrap t2 kk
      have ut3 := add_mod t2 kk
      have HLt3 := hidM (add32_lt t2 kk)
      generalize add32 t2 kk = t3 at *
      have vt4 := add_wrap t3 x
      have ut4 := add_mod t3 x
      have HLt4 := hidM (add32_lt t3 x)
      generalize add32 t3 x = t4 at *
      have vuu := add_wrap s2 mj
      have uuu := add_mod s2 mj
      have HLuu := hidM (add32_lt s2 mj)
      generalize add32 s2 mj = uu at *
      have vna := add_wrap t4 uu
      have una := add_mod t4 uu
      have HLna := hidM (add32_lt t4 uu)
      generalize add32 t4 uu = na at *
      have vnd := add_wrap d t4
      have und := add_mod d t4
      have HLnd := hidM (add32_lt d t4)
      generalize add32 d t4 = nd at *
      have k64 : (k : Int) < 64 := by omega
      clear m1 m2 m3 m5 m6 m7 m8 lx lk
      go_wp2
      go_quiet (first
        | (go_at_call 54; with_reducible exact quiet_sum (HCA.out _)))
      go_wp2_with fail
      refine (HCB.out _).mono ?_
      rintro e' w' ⟨rfl, rfl⟩
      go_wp2
      go_roundw
      case rel => exact ⟨k + 1, na, a, b, c, nd, e, f, g, _, by omega, by go_num, val_int (by omega), rfl, rfl, rfl, val_int (by omega), rfl, rfl, rfl, HLna.out, la, lb, lc, HLnd.out, le, lf, lg, HST.out, rfl⟩
      case measure => simp [intOf]; omega
    · have k64 : k = 64 := by omega
      subst k64
      rw [show ((64 : Nat) : Int) = 64 from rfl]
      have HM : Hid (mixL2 [a0, b0, c0, d0, e0, f0, g0, h0] p = [add32 a0 a, add32 b0 b, add32 c0 c, add32 d0 d, add32 e0 e, add32 f0 f, add32 g0 g, add32 h0 h]) := by
        unfold Hid mixL2
        show [add32 a0 (rounds2 (sched2 p) ⟨a0, b0, c0, d0, e0, f0, g0, h0⟩ 64).a, add32 b0 (rounds2 (sched2 p) ⟨a0, b0, c0, d0, e0, f0, g0, h0⟩ 64).b, add32 c0 (rounds2 (sched2 p) ⟨a0, b0, c0, d0, e0, f0, g0, h0⟩ 64).c, add32 d0 (rounds2 (sched2 p) ⟨a0, b0, c0, d0, e0, f0, g0, h0⟩ 64).d, add32 e0 (rounds2 (sched2 p) ⟨a0, b0, c0, d0, e0, f0, g0, h0⟩ 64).e, add32 f0 (rounds2 (sched2 p) ⟨a0, b0, c0, d0, e0, f0, g0, h0⟩ 64).f, add32 g0 (rounds2 (sched2 p) ⟨a0, b0, c0, d0, e0, f0, g0, h0⟩ 64).g, add32 h0 (rounds2 (sched2 p) ⟨a0, b0, c0, d0, e0, f0, g0, h0⟩ 64).h] = _
        rw [← HR.out]
      have HBN : Hid (Below w.heap.size w (W2.drewN n)) := below_drewN HB2.out n
      have HRN : Hid ((W2.drewN n).heap[w.heap.size + 1 + 1]? = some (.cells #[.int .u32 0, .int .u32 0, .int .u32 0, .int .u32 0, .int .u32 0, .int .u32 0, .int .u32 0, .int .u32 0] 39)) := HR2.out
      have s0 := add_mod a0 a
      have s1 := add_mod b0 b
      have s2 := add_mod c0 c
      have s3 := add_mod d0 d
      have s4 := add_mod e0 e
      have s5 := add_mod f0 f
      have s6 := add_mod g0 g
      have s7 := add_mod h0 h
      generalize add32 a0 a = x0 at *
      generalize add32 b0 b = x1 at *
      generalize add32 c0 c = x2 at *
      generalize add32 d0 d = x3 at *
      generalize add32 e0 e = x4 at *
      generalize add32 f0 f = x5 at *
      generalize add32 g0 g = x6 at *
      generalize add32 h0 h = x7 at *
      have HRS : Hid (((W2.drewN n).setRow (w.heap.size + 1 + 1) (wordsV [x0, x1, x2, x3, x4, x5, x6, x7]).toArray).heap[w.heap.size + 1 + 1]? = some (.cells (wordsV [x0, x1, x2, x3, x4, x5, x6, x7]).toArray 39 (0, 0))) := setRow_heap _ _ _ _ 39 _ HRN.out
      have HBS : Hid (Below w.heap.size w ((W2.drewN n).setRow (w.heap.size + 1 + 1) (wordsV [x0, x1, x2, x3, x4, x5, x6, x7]).toArray)) := below_setRowS HBN.out (by omega)
      go_wp2_with (first
        | (refine wpList_store_row rfl 39 (.tmp 4) (.tmp 118) rfl (w.heap.size + 1 + 1) #[.int .u32 (x0 : Int), .int .u32 (x1 : Int), .int .u32 (x2 : Int), .int .u32 (x3 : Int), .int .u32 (x4 : Int), .int .u32 (x5 : Int), .int .u32 (x6 : Int), .int .u32 (x7 : Int)] rfl rfl 39 #[.int .u32 0, .int .u32 0, .int .u32 0, .int .u32 0, .int .u32 0, .int .u32 0, .int .u32 0, .int .u32 0] HRN.out size39 rfl (ones_words [x0, x1, x2, x3, x4, x5, x6, x7]) ?_))
      exact bodyPost_ret (v := .agg (wordsV [x0, x1, x2, x3, x4, x5, x6, x7]).toArray) (results_cell_row Tryd.results42 _ _ (w.heap.size + 1 + 1) 39 _ (0, 0) _ rfl HRS.out Tryd.underlying39 rfl size39) rfl ⟨by rw [HM.out], HBS.out⟩

theorem h2_ok : W32 8 h2 := ⟨rfl, by
  intro j
  match j with
  | 0 | 1 | 2 | 3 | 4 | 5 | 6 | 7 => decide
  | j + 8 => simp [h2]⟩
theorem mixL2_form (l : List Nat) (p : List UInt8) : ∃ a b c d e f g h a' b' c' d' e' f' g' h', mixL2 l p = [add32 a a', add32 b b', add32 c c', add32 d d', add32 e e', add32 f f', add32 g g', add32 h h'] := by
  unfold mixL2
  generalize rounds2 (sched2 p) (s8Of l) 64 = r
  exact ⟨_, _, _, _, _, _, _, _, _, _, _, _, _, _, _, _, rfl⟩
theorem mixL2_ok (l : List Nat) (p : List UInt8) : W32 8 (mixL2 l p) := by
  obtain ⟨a, b, c, d, e, f, g, h, a', b', c', d', e', f', g', h', hf⟩ := mixL2_form l p
  rw [hf]
  refine ⟨rfl, ?_⟩
  intro j
  match j with
  | 0 => exact add32_lt a a'
  | 1 => exact add32_lt b b'
  | 2 => exact add32_lt c c'
  | 3 => exact add32_lt d d'
  | 4 => exact add32_lt e e'
  | 5 => exact add32_lt f f'
  | 6 => exact add32_lt g g'
  | 7 => exact add32_lt h h'
  | j + 8 => simp
theorem wordsAt2_ok (M : List UInt8) : W32 8 (wordsAt mixL2 h2 M) := absN_ok h2_ok (fun h p _ => mixL2_ok h p) M _
theorem mix2_list (h : List Nat) (p : List UInt8) (w : World) (hp : p.length = 64) (hh : W32 8 h) (hT : Tab2 w) :
    Calls Tryd.prog 42 #[.agg (wordsV h).toArray, .agg (bytesV p).toArray] w fun e w' => e = .returned (.agg (wordsV (mixL2 h p)).toArray) ∧ Below w.heap.size w w' := by
  match h, hh with
  | [a, b, c, d, e, f, g, h], hh => exact mix2_any a b c d e f g h p w hp (hh.at5 0 a rfl) (hh.at5 1 b rfl) (hh.at5 2 c rfl) (hh.at5 3 d rfl) (hh.at5 4 e rfl) (hh.at5 5 f rfl) (hh.at5 6 g rfl) (hh.at5 7 h rfl) hT
end Go.Proofs.YtbodjopdhciaeabDoor
