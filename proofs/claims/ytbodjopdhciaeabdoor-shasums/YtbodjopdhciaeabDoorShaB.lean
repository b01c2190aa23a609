/-
  Walks of sha: start1, spread1.
-/
import Derived.Test.YtbodjopdhciaeabDoorShaA
namespace Go.Proofs.YtbodjopdhciaeabDoor
open Go.RowKit

theorem getElem_D (l : List Nat) (j : Nat) (h : j < l.length) : l[j] = l.getD j 0 := by
  rw [List.getD_eq_getElem?_getD, List.getElem?_eq_getElem h]; rfl

/-- A block that holds just these words. -/
def RowW (w : World) (b t : Nat) (l : List Nat) : Prop := w.heap[b]? = some (.cells (wordsV l).toArray t (0, 0))
theorem RowW.cell {w : World} {b t : Nat} {l : List Nat} (h : RowW w b t l) (j : Nat) (hj : j < l.length) : w.cell? ⟨b, j, none⟩ = some (.int .u32 (l.getD j 0 : Nat)) := by
  rw [cell_of_row w b j _ t (0, 0) h]
  have := wordsV_at l j hj
  rw [getElem_D l j hj] at this
  simpa using this
theorem RowW.frozen {w : World} {b t : Nat} {l : List Nat} (h : RowW w b t l) (j : Nat) : w.frozen? ⟨b, j, none⟩ = false := frozen_of_row w b j _ t h
theorem RowW.set {w : World} {b t : Nat} {l : List Nat} (h : RowW w b t l) (j x : Nat) : RowW (w.setCell ⟨b, j, none⟩ (.int .u32 (x : Int))) b t (l.set j x) := by
  unfold RowW
  rw [heap_setCell_same w b j _ t _ h]
  simp [wordsV, List.map_set]
theorem RowW.other {w w' : World} {b t : Nat} {l : List Nat} (h : RowW w b t l) (hh : w'.heap[b]? = w.heap[b]?) : RowW w' b t l := by
  unfold RowW; rw [hh]; exact h
/-- A block that holds just these bytes. -/
def RowB (w : World) (b t : Nat) (l : List UInt8) : Prop := w.heap[b]? = some (.cells (bytesV l).toArray t (0, 0))
theorem RowB.range {w : World} {b t : Nat} {l : List UInt8} (h : RowB w b t l) : w.rangeAt b 0 (bytesV l) := by
  intro j v hv
  rw [cell_of_row w b (0 + j) _ t (0, 0) h]
  simpa using hv

def Z80 : List Nat := List.replicate 80 0
def Z80V : Array Value := (wordsV Z80).toArray
theorem zero83 (w : World) : (zeroValue 83).run Tryd.prog w = .ok (.agg Z80V) w := by kernel_rfl

def h0 : List Nat := [1732584193, 4023233417, 2562383102, 271733878, 3285377520]
set_option maxHeartbeats 400000 in
theorem start1_any (w : World) :
    Calls Tryd.prog 37 #[] w fun e w' => e = .returned (.agg (wordsV h0).toArray) ∧ Below w.heap.size w w' := by
  go_enter Tryd.func37, Tryd.ntmps37
  go_wp2
  exact bodyPost_ret (v := .agg (wordsV h0).toArray) (by simp [results, Tryd.results37, go_sem, wordsV, h0]) rfl ⟨rfl, (Below.refl _ _).alloc (Nat.le_refl _) _⟩

theorem ext1_succ (n : Nat) : ∀ l, ext1 (n + 1) l = ext1 n l ++ [nxt1 (ext1 n l) (ext1 n l).length] := by
  induction n with
  | zero => intro l; rfl
  | succ n ih => intro l; show ext1 (n + 1) (l ++ [nxt1 l l.length]) = _; rw [ih]; rfl
theorem ext1_len (n : Nat) : ∀ l, (ext1 n l).length = l.length + n := by
  induction n with
  | zero => intro l; rfl
  | succ n ih => intro l; show (ext1 n (l ++ [nxt1 l l.length])).length = _; rw [ih]; simp; omega

theorem ext1_bound (p : List UInt8) (n : Nat) : ∀ j, (ext1 n (words16 p)).getD j 0 < 4294967296 := by
  induction n with
  | zero =>
    intro j
    show (words16 p).getD j 0 < _
    unfold words16
    rw [List.getD_eq_getElem?_getD, List.getElem?_map]
    cases h : (List.range 16)[j]? with
    | none => simp
    | some v => simpa using blkW_lt p v
  | succ n ih =>
    intro j
    rw [ext1_succ]
    have hx : nxt1 (ext1 n (words16 p)) (ext1 n (words16 p)).length < 4294967296 := rotl_lt 1 _ (by decide) (xor_lt (xor_lt (xor_lt (ih _) (ih _)) (ih _)) (ih _))
    rw [List.getD_eq_getElem?_getD, List.getElem?_append]
    split
    · rw [← List.getD_eq_getElem?_getD]; exact ih j
    · rename_i hj
      rcases Nat.lt_or_ge (j - (ext1 n (words16 p)).length) 1 with h1 | h1
      · have : j - (ext1 n (words16 p)).length = 0 := by omega
        rw [this]; exact hx
      · rw [List.getElem?_eq_none (by simpa using h1)]; decide

theorem keep4 {W : World} {B M a b c d : Nat} {v ya yb yc yd : Value} (na : M ≠ a) (nb : M ≠ b) (nc : M ≠ c) (nd : M ≠ d)
    (ca : W.cell? ⟨B, a, none⟩ = some ya) (cb : W.cell? ⟨B, b, none⟩ = some yb) (cc : W.cell? ⟨B, c, none⟩ = some yc) (cd : W.cell? ⟨B, d, none⟩ = some yd) :
    (W.setCell ⟨B, M, none⟩ v).drew.cell? ⟨B, a, none⟩ = some ya ∧ (W.setCell ⟨B, M, none⟩ v).drew.cell? ⟨B, b, none⟩ = some yb ∧ (W.setCell ⟨B, M, none⟩ v).drew.cell? ⟨B, c, none⟩ = some yc ∧ (W.setCell ⟨B, M, none⟩ v).drew.cell? ⟨B, d, none⟩ = some yd :=
  ⟨(World.cell?_setCell_other W _ _ _ (by simp)).trans ca, (World.cell?_setCell_other W _ _ _ (by simp)).trans cb, (World.cell?_setCell_other W _ _ _ (by simp)).trans cc, (World.cell?_setCell_other W _ _ _ (by simp)).trans cd⟩

theorem size83 : (Tryd.prog.info? 83).map (·.size) = some 80 := by kernel_rfl
theorem ones_words (l : List Nat) : (wordsV l).toArray.all (·.oneCell') = true := all_oneCell_toArray (by
  intro v hv
  simp only [wordsV, List.mem_map] at hv
  obtain ⟨c, _, rfl⟩ := hv
  rfl)
theorem below_setRowS {B g : Nat} {w wr : World} {c : Array Value} (h : Below B w wr) (hg : B ≤ g) : Below B w (wr.setRow g c) :=
  h.trans ⟨rfl, rfl, rfl, by simp, fun k hk => setRow_other wr g k c (by omega)⟩

/-- The memory of a spreading: the block, the room for the answer, the words so far. -/
structure Spr (w0 w : World) (t : Nat) (p : List UInt8) (z l : List Nat) : Prop where
  part : RowB w w0.heap.size 33 p
  res : RowW w (w0.heap.size + 1) t z
  row : RowW w (w0.heap.size + 1 + 1) t l
  below : Below w0.heap.size w0 w
theorem Spr.drewN {w0 w : World} {t : Nat} {p : List UInt8} {z l : List Nat} (h : Spr w0 w t p z l) (n : Nat) : Spr w0 (w.drewN n) t p z l :=
  ⟨h.part, h.res, h.row, below_drewN h.below n⟩
theorem Spr.set {w0 w : World} {t : Nat} {p : List UInt8} {z l : List Nat} (h : Spr w0 w t p z l) (j x : Nat) : Spr w0 (w.setCell ⟨w0.heap.size + 1 + 1, j, none⟩ (.int .u32 (x : Int))) t p z (l.set j x) := by
  refine ⟨?_, h.res.other ?_, h.row.set j x, h.below.setCell (by show w0.heap.size ≤ w0.heap.size + 1 + 1; omega) _⟩
  · unfold RowB; rw [heap_setCell_other w _ _ _ (by show w0.heap.size ≠ w0.heap.size + 1 + 1; omega)]; exact h.part
  · exact heap_setCell_other w _ _ _ (by show w0.heap.size + 1 ≠ w0.heap.size + 1 + 1; omega)
theorem spr_start (w : World) (t : Nat) (p : List UInt8) (z : List Nat) : Spr w (((w.alloc (.cells (bytesV p).toArray 33)).alloc (.cells (wordsV z).toArray t)).alloc (.cells (wordsV z).toArray t)) t p z z := by
  refine ⟨?_, ?_, ?_, ((((Below.refl _ _).alloc (Nat.le_refl _) _).alloc (by simp) _).alloc (by simp; omega) _)⟩
  · unfold RowB; rw [Below.heap_alloc _ _ _ (by simp; omega), Below.heap_alloc _ _ _ (by simp), _root_.Go.heap_alloc_new]
  · unfold RowW
    rw [Below.heap_alloc _ _ _ (by simp)]
    have := _root_.Go.heap_alloc_new (w.alloc (.cells (bytesV p).toArray 33)) (.cells (wordsV z).toArray t)
    simpa using this
  · unfold RowW
    have := _root_.Go.heap_alloc_new ((w.alloc (.cells (bytesV p).toArray 33)).alloc (.cells (wordsV z).toArray t)) (.cells (wordsV z).toArray t)
    simpa using this
theorem set_mid (l : List Nat) (k x : Nat) : (l ++ List.replicate (k + 1) 0).set l.length x = (l ++ [x]) ++ List.replicate k 0 := by
  rw [List.replicate_succ]; simp

set_option maxRecDepth 100000 in
set_option maxHeartbeats 1600000 in
theorem spread1_any (p : List UInt8) (w : World) (hp : p.length = 64) :
    Calls Tryd.prog 50 #[.agg (bytesV p).toArray] w fun e w' => e = .returned (.agg (wordsV (sched1 p)).toArray) ∧ Below w.heap.size w w' := by
  have hz := zero83
  have HP := hidM hp
  have HS : Hid (Spr w (((w.alloc (.cells (bytesV p).toArray 33)).alloc (.cells Z80V 83)).alloc (.cells Z80V 83)) 83 p Z80 Z80) := spr_start w 83 p Z80
  obtain ⟨C, hC⟩ : ∃ C, C = (bytesV p).toArray := ⟨_, rfl⟩
  rw [← hC] at HS ⊢
  clear hC hp
  go_enter Tryd.func50, Tryd.ntmps50
  go_wp2
  go_loopw [4] (fun i wr => ∃ (k : Nat) (l : List Nat), k ≤ 16 ∧ i = .int .i64 (k : Int) ∧ l.length = k ∧ l = (List.range k).map (blkW p) ∧ Spr w wr 83 p Z80 (l ++ List.replicate (80 - k) 0)) (fun i _ => 16 - (intOf i).toNat)
  case atStart => exact ⟨0, [], by omega, rfl, rfl, rfl, HS.out⟩
  case round =>
    obtain ⟨k, l, hk, rfl, hl, hll, hS⟩ := hrel
    clear HS
    have HSP := hidM hS
    have HL := hidM hl
    have HLL := hidM hll
    clear hll hS hl
    by_cases h16 : k < 16
    · go_wp2_with fail
      refine (word_any _ 0 k p wr h16 HP.out HSP.out.part.range).mono ?_
      rintro e w1 ⟨rfl, nq, rfl⟩
      have HS1 := hidM (HSP.out.drewN nq)
      have hc := HS1.out.row.cell k (by rw [List.length_append, HL.out, List.length_replicate]; omega)
      have hf := HS1.out.row.frozen k
      generalize wr.drewN nq = w2 at *
      have HS2 : Hid (Spr w (w2.setCell ⟨w.heap.size + 1 + 1, k, none⟩ (.int .u32 ((blkW p k : Nat) : Int))) 83 p Z80 ((l ++ [blkW p k]) ++ List.replicate (80 - (k + 1)) 0)) := by
        have h2 := HS1.out.set k (blkW p k)
        rw [show 80 - k = (80 - (k + 1)) + 1 by omega] at h2
        have h3 := set_mid l (80 - (k + 1)) (blkW p k)
        rw [HL.out] at h3
        rw [h3] at h2
        exact h2
      have HLL2 : Hid (l ++ [blkW p k] = (List.range (k + 1)).map (blkW p)) := by unfold Hid; rw [HLL.out, List.range_succ, List.map_append]; rfl
      clear HS1 HSP
      generalize blkW p k = x at *
      go_wp2
      go_roundw
      case rel => exact ⟨k + 1, l ++ [x], by omega, by go_num, by rw [List.length_append, HL.out]; rfl, HLL2.out, HS2.out⟩
      case measure => simp [intOf]; omega
    · have k16 : k = 16 := by omega
      subst k16
      have HS2 : Hid (Spr w wr 83 p Z80 (ext1 0 (words16 p) ++ List.replicate 64 0)) := by
        have := HSP.out; rw [HLL.out] at this; exact this
      clear HSP
      rw [show ((16 : Nat) : Int) = 16 from rfl]
      go_wp2
      go_loopw [5] (fun i wr => ∃ (n N : Nat), n ≤ 64 ∧ N = 16 + n ∧ i = .int .i64 (N : Int) ∧ Spr w wr 83 p Z80 (ext1 n (words16 p) ++ List.replicate (64 - n) 0)) (fun i _ => 80 - (intOf i).toNat)
      case atStart => exact ⟨0, 16, by omega, rfl, rfl, HS2.out⟩
      case round =>
        obtain ⟨n, M, hn, hM, rfl, hS⟩ := hrel
        clear HS2
        have HSP := hidM hS
        have m1 : M ≤ 16 + n := by omega
        have m2 : 16 + n ≤ M := by omega
        have HM := hidM hM
        clear hS hM
        by_cases h64 : n < 64
        · have HLEN : Hid ((ext1 n (words16 p) ++ List.replicate (64 - n) 0).length = 80) := by
            unfold Hid; rw [List.length_append, ext1_len, List.length_replicate]; simp [words16]; omega
          have HEL : Hid ((ext1 n (words16 p)).length = M) := by unfold Hid; rw [ext1_len]; simp [words16]; omega
          have get : ∀ j, j < M → (ext1 n (words16 p) ++ List.replicate (64 - n) 0).getD j 0 = (ext1 n (words16 p)).getD j 0 := by
            intro j hj
            rw [List.getD_eq_getElem?_getD, List.getD_eq_getElem?_getD, List.getElem?_append_left (by rw [HEL.out]; exact hj)]
          obtain ⟨a3, ea3⟩ : ∃ a, a = M - 3 := ⟨_, rfl⟩
          obtain ⟨a8, ea8⟩ : ∃ a, a = M - 8 := ⟨_, rfl⟩
          obtain ⟨a14, ea14⟩ : ∃ a, a = M - 14 := ⟨_, rfl⟩
          obtain ⟨a16, ea16⟩ : ∃ a, a = M - 16 := ⟨_, rfl⟩
          have w3 : IntKind.i64.wrap ((M : Int) - 3) = (a3 : Int) := by rw [i64_small _ (by omega) (by omega)]; omega
          have w8 : IntKind.i64.wrap ((M : Int) - 8) = (a8 : Int) := by rw [i64_small _ (by omega) (by omega)]; omega
          have w14 : IntKind.i64.wrap ((M : Int) - 14) = (a14 : Int) := by rw [i64_small _ (by omega) (by omega)]; omega
          have w16 : IntKind.i64.wrap ((M : Int) - 16) = (a16 : Int) := by rw [i64_small _ (by omega) (by omega)]; omega
          have l3 : (a3 : Int) < 80 := by omega
          have l8 : (a8 : Int) < 80 := by omega
          have l14 : (a14 : Int) < 80 := by omega
          have l16 : (a16 : Int) < 80 := by omega
          have lM : (M : Int) < 80 := by omega
          have dM : decide ((M : Int) < 80) = true := by simp; omega
          have n3 : M ≠ a3 := by omega
          have n8 : M ≠ a8 := by omega
          have n14 : M ≠ a14 := by omega
          have n16 : M ≠ a16 := by omega
          have c3 := HSP.out.row.cell a3 (by rw [HLEN.out]; omega)
          have c8 := HSP.out.row.cell a8 (by rw [HLEN.out]; omega)
          have c14 := HSP.out.row.cell a14 (by rw [HLEN.out]; omega)
          have c16 := HSP.out.row.cell a16 (by rw [HLEN.out]; omega)
          have cM := HSP.out.row.cell M (by rw [HLEN.out]; omega)
          have fM := HSP.out.row.frozen M
          rw [get a3 (by omega)] at c3
          rw [get a8 (by omega)] at c8
          rw [get a14 (by omega)] at c14
          rw [get a16 (by omega)] at c16
          obtain ⟨y3, ey3⟩ : ∃ y, y = (ext1 n (words16 p)).getD a3 0 := ⟨_, rfl⟩
          obtain ⟨y8, ey8⟩ : ∃ y, y = (ext1 n (words16 p)).getD a8 0 := ⟨_, rfl⟩
          obtain ⟨y14, ey14⟩ : ∃ y, y = (ext1 n (words16 p)).getD a14 0 := ⟨_, rfl⟩
          obtain ⟨y16, ey16⟩ : ∃ y, y = (ext1 n (words16 p)).getD a16 0 := ⟨_, rfl⟩
          have HNX : Hid (nxt1 (ext1 n (words16 p)) (ext1 n (words16 p)).length = rotl 1 (((y3 ^^^ y8) ^^^ y14) ^^^ y16)) := by
            unfold Hid nxt1; rw [HEL.out, ← ea3, ← ea8, ← ea14, ← ea16, ey3, ey8, ey14, ey16]
          rw [← ey3] at c3
          rw [← ey8] at c8
          rw [← ey14] at c14
          rw [← ey16] at c16
          have b3 : y3 < 4294967296 := by rw [ey3]; exact ext1_bound p n a3
          have b8 : y8 < 4294967296 := by rw [ey8]; exact ext1_bound p n a8
          have b14 : y14 < 4294967296 := by rw [ey14]; exact ext1_bound p n a14
          have b16 : y16 < 4294967296 := by rw [ey16]; exact ext1_bound p n a16
          obtain ⟨x1, ex1⟩ : ∃ x, x = y3 ^^^ y8 := ⟨_, rfl⟩
          obtain ⟨x2, ex2⟩ : ∃ x, x = x1 ^^^ y14 := ⟨_, rfl⟩
          obtain ⟨x3, ex3⟩ : ∃ x, x = x2 ^^^ y16 := ⟨_, rfl⟩
          have q1 : bits .xor .u32 (y3 : Int) (y8 : Int) = (x1 : Int) := by rw [ex1]; exact u32_xor_nat _ _ b3 b8
          have bx1 : x1 < 4294967296 := by rw [ex1]; exact xor_lt b3 b8
          have q2 : bits .xor .u32 (x1 : Int) (y14 : Int) = (x2 : Int) := by rw [ex2]; exact u32_xor_nat _ _ bx1 b14
          have bx2 : x2 < 4294967296 := by rw [ex2]; exact xor_lt bx1 b14
          have q3 : bits .xor .u32 (x2 : Int) (y16 : Int) = (x3 : Int) := by rw [ex3]; exact u32_xor_nat _ _ bx2 b16
          have bx3 : x3 < 4294967296 := by rw [ex3]; exact xor_lt bx2 b16
          rw [← ex1, ← ex2, ← ex3] at HNX
          generalize (ext1 n (words16 p) ++ List.replicate (64 - n) 0).getD M 0 = yM at *
          clear ey3 ey8 ey14 ey16 ex1 ex2 ex3 ea3 ea8 ea14 ea16 get
          have hr1 : bits .and .u64 (IntKind.u64.wrap 1) 31 = ((1 : Nat) : Int) := by decide
          have HR1 := hidM hr1
          clear hr1
          go_wp2_with fail
          go_region_held3 (fun w' => w'.cell? ⟨w.heap.size + 1 + 1, a3, none⟩ = some (.int .u32 (y3 : Int)) ∧ w'.cell? ⟨w.heap.size + 1 + 1, a8, none⟩ = some (.int .u32 (y8 : Int)) ∧ w'.cell? ⟨w.heap.size + 1 + 1, a14, none⟩ = some (.int .u32 (y14 : Int)) ∧ w'.cell? ⟨w.heap.size + 1 + 1, a16, none⟩ = some (.int .u32 (y16 : Int))) (first | exact keep4 n3 n8 n14 n16 c3 c8 c14 c16 | go_keep)
            (first | (go_at_call 52; refine (rotate_any x3 1 1 _ bx3 (by decide) HR1.out).mono ?_; rintro e w' ⟨rfl, rfl⟩))
          have HS3 : Hid (Spr w (wr.setCell ⟨w.heap.size + 1 + 1, M, none⟩ (.int .u32 ((rotl 1 x3 : Nat) : Int))).drew 83 p Z80 (ext1 (n + 1) (words16 p) ++ List.replicate (64 - (n + 1)) 0)) := by
            have h2 := (HSP.out.set M (rotl 1 x3)).drewN 1
            rw [show 64 - n = (64 - (n + 1)) + 1 by omega] at h2
            have h3 := set_mid (ext1 n (words16 p)) (64 - (n + 1)) (rotl 1 x3)
            rw [HEL.out] at h3
            rw [h3] at h2
            have e4 : ext1 (n + 1) (words16 p) = ext1 n (words16 p) ++ [rotl 1 x3] := by rw [ext1_succ, HNX.out]
            unfold Hid
            rw [e4]
            exact h2
          go_wp2
          go_roundw
          case rel => exact ⟨n + 1, M + 1, by omega, by omega, by go_num, HS3.out⟩
          case measure => simp [intOf]; omega
        · have n64 : n = 64 := by omega
          subst n64
          have dM : ¬ (M : Int) < 80 := by omega
          have HS3 : Hid (Spr w wr 83 p Z80 (sched1 p)) := by
            have := HSP.out
            rw [show 64 - 64 = 0 from rfl, List.replicate_zero, List.append_nil] at this
            exact this
          clear HSP
          have HSL : Hid ((wordsV (sched1 p)).toArray.size = 80) := by
            unfold Hid; rw [List.size_toArray, wordsV_len]; unfold sched1; rw [ext1_len]; simp [words16]
          have hone := ones_words (sched1 p)
          have hrow : wr.heap[w.heap.size + 1 + 1]? = some (.cells (wordsV (sched1 p)).toArray 83 (0, 0)) := HS3.out.row
          have hres : wr.heap[w.heap.size + 1]? = some (.cells Z80V 83 (0, 0)) := HS3.out.res
          have HBEL : Hid (Below w.heap.size w (wr.setRow (w.heap.size + 1) (wordsV (sched1 p)).toArray)) := below_setRowS HS3.out.below (by omega)
          have HRES : Hid ((wr.setRow (w.heap.size + 1) (wordsV (sched1 p)).toArray).heap[w.heap.size + 1]? = some (.cells (wordsV (sched1 p)).toArray 83 (0, 0))) := setRow_heap wr (w.heap.size + 1) Z80V _ 83 _ hres
          obtain ⟨W, hW⟩ : ∃ W, W = (wordsV (sched1 p)).toArray := ⟨_, rfl⟩
          rw [← hW] at hrow HRES HBEL HSL hone
          have HW := hidM hW
          have HROW := hidM hrow
          have HRS := hidM hres
          have HONE := hidM hone
          clear hW hrow hres hone
          go_wp2_with (first
            | (refine wpList_load_row rfl 83 (.tmp 3) rfl _ rfl 83 W (0, 0) _ HROW.out Tryd.underlying83 rfl (by rw [HSL.out]; exact size83) ?_)
            | (refine wpList_store_row rfl 83 (.tmp 2) (.tmp 40) rfl _ W rfl rfl 83 Z80V HRS.out (by rw [HSL.out]; exact size83) (by rw [HSL.out]; rfl) HONE.out ?_))
          exact bodyPost_ret (v := .agg W) (results_cell_row Tryd.results50 _ _ (w.heap.size + 1) 83 W (0, 0) _ rfl HRES.out Tryd.underlying83 rfl (by rw [HSL.out]; exact size83)) rfl ⟨by rw [HW.out], HBEL.out⟩
end Go.Proofs.YtbodjopdhciaeabDoor
