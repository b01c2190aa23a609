/-
  Walks of sha: spread256.
-/
import Derived.Test.YtbodjopdhciaeabDoorShaI
namespace Go.Proofs.YtbodjopdhciaeabDoor
open Go.RowKit

theorem add_wrap (a b : Nat) : IntKind.u32.wrap ((a : Int) + (b : Int)) = ((add32 a b : Nat) : Int) := by rw [IntKind.wrap_u32']; exact add_mod a b
def Z64 : List Nat := List.replicate 64 0
def Z64V : Array Value := (wordsV Z64).toArray
theorem zero87 (w : World) : (zeroValue 87).run Tryd.prog w = .ok (.agg Z64V) w := by kernel_rfl
theorem size87 : (Tryd.prog.info? 87).map (·.size) = some 64 := by kernel_rfl

set_option maxRecDepth 100000 in
set_option maxHeartbeats 1600000 in
theorem spread2_any (p : List UInt8) (w : World) (hp : p.length = 64) :
    Calls Tryd.prog 53 #[.agg (bytesV p).toArray] w fun e w' => e = .returned (.agg (wordsV (sched2 p)).toArray) ∧ Below w.heap.size w w' := by
  have hz := zero87
  have HP := hidM hp
  have HS : Hid (Spr w (((w.alloc (.cells (bytesV p).toArray 33)).alloc (.cells Z64V 87)).alloc (.cells Z64V 87)) 87 p Z64 Z64) := spr_start w 87 p Z64
  obtain ⟨C, hC⟩ : ∃ C, C = (bytesV p).toArray := ⟨_, rfl⟩
  rw [← hC] at HS ⊢
  clear hC hp
  go_enter Tryd.func53, Tryd.ntmps53
  go_wp2
  go_loopw [4] (fun i wr => ∃ (k : Nat) (l : List Nat), k ≤ 16 ∧ i = .int .i64 (k : Int) ∧ l.length = k ∧ l = (List.range k).map (blkW p) ∧ Spr w wr 87 p Z64 (l ++ List.replicate (64 - k) 0)) (fun i _ => 16 - (intOf i).toNat)
  case atStart => exact ⟨0, [], by omega, rfl, rfl, rfl, HS.out⟩
  case round =>
    obtain ⟨k, l, hk, rfl, hl, hll, hS⟩ := hrel
    clear HS
    have HSP := hidM hS
    have HL := hidM hl
    have HLL := hidM hll
    clear hll hS hl
    by_cases h16 : k < 16
    · go_wp2_with fail
      refine (word_any _ 0 k p wr h16 HP.out HSP.out.part.range).mono ?_
      rintro e w1 ⟨rfl, nq, rfl⟩
      have HS1 := hidM (HSP.out.drewN nq)
      have hc := HS1.out.row.cell k (by rw [List.length_append, HL.out, List.length_replicate]; omega)
      have hf := HS1.out.row.frozen k
      generalize wr.drewN nq = w2 at *
      have HS2 : Hid (Spr w (w2.setCell ⟨w.heap.size + 1 + 1, k, none⟩ (.int .u32 ((blkW p k : Nat) : Int))) 87 p Z64 ((l ++ [blkW p k]) ++ List.replicate (64 - (k + 1)) 0)) := by
        have h2 := HS1.out.set k (blkW p k)
        rw [show 64 - k = (64 - (k + 1)) + 1 by omega] at h2
        have h3 := set_mid l (64 - (k + 1)) (blkW p k)
        rw [HL.out] at h3
        rw [h3] at h2
        exact h2
      have HLL2 : Hid (l ++ [blkW p k] = (List.range (k + 1)).map (blkW p)) := by unfold Hid; rw [HLL.out, List.range_succ, List.map_append]; rfl
      clear HS1 HSP
      generalize blkW p k = x at *
      go_wp2
      go_roundw
      case rel => exact ⟨k + 1, l ++ [x], by omega, by go_num, by rw [List.length_append, HL.out]; rfl, HLL2.out, HS2.out⟩
      case measure => simp [intOf]; omega
    · have k16 : k = 16 := by omega
      subst k16
      have HS2 : Hid (Spr w wr 87 p Z64 (ext2 0 (words16 p) ++ List.replicate 48 0)) := by
        have := HSP.out; rw [HLL.out] at this; exact this
      clear HSP
      rw [show ((16 : Nat) : Int) = 16 from rfl]
      go_wp2
      go_loopw [5] (fun i wr => ∃ (n N : Nat), n ≤ 48 ∧ N = 16 + n ∧ i = .int .i64 (N : Int) ∧ Spr w wr 87 p Z64 (ext2 n (words16 p) ++ List.replicate (48 - n) 0)) (fun i _ => 64 - (intOf i).toNat)
      case atStart => exact ⟨0, 16, by omega, rfl, rfl, HS2.out⟩
      case round =>
        obtain ⟨n, M, hn, hM, rfl, hS⟩ := hrel
        clear HS2
        have HSP := hidM hS
        have m1 : M ≤ 16 + n := by omega
        have m2 : 16 + n ≤ M := by omega
        have HM := hidM hM
        clear hS hM
        by_cases h64 : n < 48
        · have HLEN : Hid ((ext2 n (words16 p) ++ List.replicate (48 - n) 0).length = 64) := by
            unfold Hid; rw [List.length_append, ext2_len, List.length_replicate]; simp [words16]; omega
          have HEL : Hid ((ext2 n (words16 p)).length = M) := by unfold Hid; rw [ext2_len]; simp [words16]; omega
          have get : ∀ j, j < M → (ext2 n (words16 p) ++ List.replicate (48 - n) 0).getD j 0 = (ext2 n (words16 p)).getD j 0 := by
            intro j hj
            rw [List.getD_eq_getElem?_getD, List.getD_eq_getElem?_getD, List.getElem?_append_left (by rw [HEL.out]; exact hj)]
          obtain ⟨a2, ea2⟩ : ∃ a, a = M - 2 := ⟨_, rfl⟩
          obtain ⟨a7, ea7⟩ : ∃ a, a = M - 7 := ⟨_, rfl⟩
          obtain ⟨a15, ea15⟩ : ∃ a, a = M - 15 := ⟨_, rfl⟩
          obtain ⟨a16, ea16⟩ : ∃ a, a = M - 16 := ⟨_, rfl⟩
          have w2 : IntKind.i64.wrap ((M : Int) - 2) = (a2 : Int) := by rw [i64_small _ (by omega) (by omega)]; omega
          have w7 : IntKind.i64.wrap ((M : Int) - 7) = (a7 : Int) := by rw [i64_small _ (by omega) (by omega)]; omega
          have w15 : IntKind.i64.wrap ((M : Int) - 15) = (a15 : Int) := by rw [i64_small _ (by omega) (by omega)]; omega
          have w16 : IntKind.i64.wrap ((M : Int) - 16) = (a16 : Int) := by rw [i64_small _ (by omega) (by omega)]; omega
          have l2 : (a2 : Int) < 64 := by omega
          have l7 : (a7 : Int) < 64 := by omega
          have l15 : (a15 : Int) < 64 := by omega
          have l16 : (a16 : Int) < 64 := by omega
          have lM : (M : Int) < 64 := by omega
          have dM : decide ((M : Int) < 64) = true := by simp; omega
          have n2 : M ≠ a2 := by omega
          have n7 : M ≠ a7 := by omega
          have n15 : M ≠ a15 := by omega
          have n16 : M ≠ a16 := by omega
          have c2 := HSP.out.row.cell a2 (by rw [HLEN.out]; omega)
          have c7 := HSP.out.row.cell a7 (by rw [HLEN.out]; omega)
          have c15 := HSP.out.row.cell a15 (by rw [HLEN.out]; omega)
          have c16 := HSP.out.row.cell a16 (by rw [HLEN.out]; omega)
          have cM := HSP.out.row.cell M (by rw [HLEN.out]; omega)
          have fM := HSP.out.row.frozen M
          rw [get a2 (by omega)] at c2
          rw [get a7 (by omega)] at c7
          rw [get a15 (by omega)] at c15
          rw [get a16 (by omega)] at c16
          obtain ⟨y2, ey2⟩ : ∃ y, y = (ext2 n (words16 p)).getD a2 0 := ⟨_, rfl⟩
          obtain ⟨y7, ey7⟩ : ∃ y, y = (ext2 n (words16 p)).getD a7 0 := ⟨_, rfl⟩
          obtain ⟨y15, ey15⟩ : ∃ y, y = (ext2 n (words16 p)).getD a15 0 := ⟨_, rfl⟩
          obtain ⟨y16, ey16⟩ : ∃ y, y = (ext2 n (words16 p)).getD a16 0 := ⟨_, rfl⟩
          have HNX : Hid (nxt2 (ext2 n (words16 p)) (ext2 n (words16 p)).length = add32 (add32 (add32 y16 (sgs 25 14 3 y15)) y7) (sgs 15 13 10 y2)) := by
            unfold Hid nxt2; rw [HEL.out, ← ea2, ← ea7, ← ea15, ← ea16, ey2, ey7, ey15, ey16]
          rw [← ey2] at c2
          rw [← ey7] at c7
          rw [← ey15] at c15
          rw [← ey16] at c16
          have b2 : y2 < 4294967296 := by rw [ey2]; exact ext2_bound p n a2
          have b7 : y7 < 4294967296 := by rw [ey7]; exact ext2_bound p n a7
          have b15 : y15 < 4294967296 := by rw [ey15]; exact ext2_bound p n a15
          have b16 : y16 < 4294967296 := by rw [ey16]; exact ext2_bound p n a16
          have HCA := hidM (fun v : World => shiftA y15 v b15)
          have HCB := hidM (fun v : World => shiftB y2 v b2)
          have HLA : Hid (sgs 25 14 3 y15 < 4294967296) := sgs_lt 25 14 3 y15 (by decide) (by decide) b15
          have HLB : Hid (sgs 15 13 10 y2 < 4294967296) := sgs_lt 15 13 10 y2 (by decide) (by decide) b2
          generalize sgs 25 14 3 y15 = sA at *
          generalize sgs 15 13 10 y2 = sB at *
          have q1 := add_wrap y16 sA
          generalize hx1 : add32 y16 sA = x1 at *
          have q2 := add_wrap x1 y7
          generalize hx2 : add32 x1 y7 = x2 at *
          have q3 := add_wrap x2 sB
          generalize hx3 : add32 x2 sB = x3 at *
          generalize (ext2 n (words16 p) ++ List.replicate (48 - n) 0).getD M 0 = yM at *
          clear ey2 ey7 ey15 ey16 hx1 hx2 hx3 ea2 ea7 ea15 ea16 get
          go_wp2_with fail
          go_region_held3 (fun w' => w'.cell? ⟨w.heap.size + 1 + 1, a2, none⟩ = some (.int .u32 (y2 : Int)) ∧ w'.cell? ⟨w.heap.size + 1 + 1, a7, none⟩ = some (.int .u32 (y7 : Int)) ∧ w'.cell? ⟨w.heap.size + 1 + 1, a15, none⟩ = some (.int .u32 (y15 : Int)) ∧ w'.cell? ⟨w.heap.size + 1 + 1, a16, none⟩ = some (.int .u32 (y16 : Int))) (first | exact keep4 n2 n7 n15 n16 c2 c7 c15 c16 | go_keep)
            (first
              | (go_at_call 58; with_reducible refine (HCA.out _).mono ?_; rintro e w' ⟨rfl, nA, rfl⟩)
              | (go_at_call 58; with_reducible refine (HCB.out _).mono ?_; rintro e w' ⟨rfl, nB, rfl⟩))
          have HS3 : Hid (Spr w ((wr.drewN (1 + nA + nB)).setCell ⟨w.heap.size + 1 + 1, M, none⟩ (.int .u32 (x3 : Int))) 87 p Z64 (ext2 (n + 1) (words16 p) ++ List.replicate (48 - (n + 1)) 0)) := by
            have h2 := (HSP.out.drewN (1 + nA + nB)).set M x3
            rw [show 48 - n = (48 - (n + 1)) + 1 by omega] at h2
            have h3 := set_mid (ext2 n (words16 p)) (48 - (n + 1)) x3
            rw [HEL.out] at h3
            rw [h3] at h2
            have e4 : ext2 (n + 1) (words16 p) = ext2 n (words16 p) ++ [x3] := by rw [ext2_succ, HNX.out]
            unfold Hid
            rw [e4]
            exact h2
          go_wp2
          go_roundw
          case rel => exact ⟨n + 1, M + 1, by omega, by omega, by go_num, HS3.out⟩
          case measure => simp [intOf]; omega
        · have n48 : n = 48 := by omega
          subst n48
          have dM : ¬ (M : Int) < 64 := by omega
          have HS3 : Hid (Spr w wr 87 p Z64 (sched2 p)) := by
            have := HSP.out
            rw [show 48 - 48 = 0 from rfl, List.replicate_zero, List.append_nil] at this
            exact this
          clear HSP
          have HSL : Hid ((wordsV (sched2 p)).toArray.size = 64) := by
            unfold Hid; rw [List.size_toArray, wordsV_len]; unfold sched2; rw [ext2_len]; simp [words16]
          have hone := ones_words (sched2 p)
          have hrow : wr.heap[w.heap.size + 1 + 1]? = some (.cells (wordsV (sched2 p)).toArray 87 (0, 0)) := HS3.out.row
          have hres : wr.heap[w.heap.size + 1]? = some (.cells Z64V 87 (0, 0)) := HS3.out.res
          have HBEL : Hid (Below w.heap.size w (wr.setRow (w.heap.size + 1) (wordsV (sched2 p)).toArray)) := below_setRowS HS3.out.below (by omega)
          have HRES : Hid ((wr.setRow (w.heap.size + 1) (wordsV (sched2 p)).toArray).heap[w.heap.size + 1]? = some (.cells (wordsV (sched2 p)).toArray 87 (0, 0))) := setRow_heap wr (w.heap.size + 1) Z64V _ 87 _ hres
          obtain ⟨W, hW⟩ : ∃ W, W = (wordsV (sched2 p)).toArray := ⟨_, rfl⟩
          rw [← hW] at hrow HRES HBEL HSL hone
          have HW := hidM hW
          have HROW := hidM hrow
          have HRS := hidM hres
          have HONE := hidM hone
          clear hW hrow hres hone
          go_wp2_with (first
            | (refine wpList_load_row rfl 87 (.tmp 3) rfl _ rfl 87 W (0, 0) _ HROW.out Tryd.underlying87 rfl (by rw [HSL.out]; exact size87) ?_)
            | (refine wpList_store_row rfl 87 (.tmp 2) (.tmp 41) rfl _ W rfl rfl 87 Z64V HRS.out (by rw [HSL.out]; exact size87) (by rw [HSL.out]; rfl) HONE.out ?_))
          exact bodyPost_ret (v := .agg W) (results_cell_row Tryd.results53 _ _ (w.heap.size + 1) 87 W (0, 0) _ rfl HRES.out Tryd.underlying87 rfl (by rw [HSL.out]; exact size87)) rfl ⟨by rw [HW.out], HBEL.out⟩
end Go.Proofs.YtbodjopdhciaeabDoor
