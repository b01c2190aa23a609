/-
  Taken over from another program: DltE.
  Taken over from another program: DltF.
-/
import Derived.Test.YtddoemeellbhaaaGreatDoorTDltD
namespace Go.Proofs.YtddoemeellbhaaaGreatDoor.Dlt
open Go.RowKit
/-- Both sizes: the base's, what comes out, how many bytes they take, the error's number. -/
def sizesL (d : ByteArray) : Nat × Nat × Nat × Nat :=
  if (szL d 0 5 0 0).2.2 = 0 then
    if (szL d (szL d 0 5 0 0).2.1 5 0 0).2.2 = 0 then ((szL d 0 5 0 0).1, (szL d (szL d 0 5 0 0).2.1 5 0 0).1, (szL d (szL d 0 5 0 0).2.1 5 0 0).2.1, 0)
    else (0, 0, 0, (szL d (szL d 0 5 0 0).2.1 5 0 0).2.2)
  else (0, 0, 0, (szL d 0 5 0 0).2.2)
theorem szL_le (d : ByteArray) (t : Nat) : ∀ (k i n : Nat), (szL d t k i n).2.1 ≤ d.size
  | 0, i, n => by rw [szL]; split <;> exact Nat.zero_le _
  | k + 1, i, n => by
    rw [szL]
    split
    · split
      · simp only; omega
      · exact szL_le d t k _ _
    · exact Nat.zero_le _
theorem szL_lt (d : ByteArray) (t : Nat) : ∀ (k i n : Nat), n < 2 ^ (7 * i) → (szL d t k i n).1 < 2 ^ (7 * (i + k))
  | 0, i, n, _ => by rw [szL]; split <;> exact Nat.pow_pos (by decide)
  | k + 1, i, n, h => by
    rw [szL, show i + (k + 1) = (i + 1) + k by omega]
    split
    · have hq : ∀ q, q % 128 < 128 := fun q => Nat.mod_lt _ (by decide)
      have h1 := size_lt n (d[t + i].toNat % 128) i h (hq _)
      split
      · exact Nat.lt_of_lt_of_le h1 (Nat.pow_le_pow_right (by decide) (by omega))
      · exact szL_lt d t k _ _ h1
    · exact Nat.pow_pos (by decide)
theorem szL_35 (d : ByteArray) (t : Nat) : (szL d t 5 0 0).1 < 34359738368 := szL_lt d t 5 0 0 (by decide)
def ICell (w : World) (b : Nat) (x : Int) : Prop := w.heap[b]? = some (.cells #[.int .i64 x] 3 (0, 0))
theorem ICell.cell {w : World} {b : Nat} {x : Int} (h : ICell w b x) : w.cell? ⟨b, 0, none⟩ = some (.int .i64 x) := by
  rw [cell_of_row w b _ _ 3 (0, 0) h]; rfl
theorem ICell.frozen {w : World} {b : Nat} {x : Int} (h : ICell w b x) : w.frozen? ⟨b, 0, none⟩ = false := frozen_of_row w b 0 _ 3 h
theorem ICell.set {w : World} {b : Nat} {x : Int} (h : ICell w b x) (y : Int) : ICell (w.setCell ⟨b, 0, none⟩ (.int .i64 y)) b y := by
  unfold ICell
  rw [heap_setCell_same w b _ _ 3 _ h]
  rfl
theorem ICell.same {w w' : World} {b : Nat} {x : Int} (h : ICell w b x) (hh : w'.heap[b]? = w.heap[b]?) : ICell w' b x := by
  unfold ICell; rw [hh]; exact h
def PCell (w : World) (b c : Nat) : Prop := w.heap[b]? = some (.cells #[.pointer (some ⟨c, 0, none⟩)] 90 (0, 0))
theorem PCell.cell {w : World} {b c : Nat} (h : PCell w b c) : w.cell? ⟨b, 0, none⟩ = some (.pointer (some ⟨c, 0, none⟩)) := by
  rw [cell_of_row w b _ _ 90 (0, 0) h]; rfl
theorem PCell.same {w w' : World} {b c : Nat} (h : PCell w b c) (hh : w'.heap[b]? = w.heap[b]?) : PCell w' b c := by
  unfold PCell; rw [hh]; exact h
/-- What the closure of Sizes leaves behind. -/
def SzPost (H : Nat) (d : ByteArray) (w : World) (e : Ending) (w' : World) : Prop :=
  Below H w w' ∧ w'.heap.size = w.heap.size ∧ PCell w' (H + 3) (H + 2) ∧ w'.heap[H + 4]? = w.heap[H + 4]? ∧
  if (sizesL d).2.2.2 = 0 then e = .returned (.tuple #[]) ∧ ICell w' H ((sizesL d).1 : Nat) ∧ ICell w' (H + 1) ((sizesL d).2.1 : Nat) ∧ RBox w' (H + 2) d (sizesL d).2.2.1
  else e = gave (sizesL d).2.2.2 ∧ ∃ x y, ICell w' H x ∧ ICell w' (H + 1) y
set_option maxHeartbeats 1000000 in
set_option maxRecDepth 20000 in
theorem sizes1_any (H : Nat) (d : ByteArray) (w : World) (x y : Int) (hs : d.size ≤ 100000000000) (h0 : ICell w H x) (h1 : ICell w (H + 1) y) (h2 : RBox w (H + 2) d 0) (h3 : PCell w (H + 3) (H + 2)) :
    Calls Tryz.prog 114 #[.pointer (some ⟨H + 3, 0, none⟩), .pointer (some ⟨H, 0, none⟩), .pointer (some ⟨H + 1, 0, none⟩)] w fun e w' => SzPost H d w e w' := by
  have c3 := h3.cell
  go_enter Tryz.func114, Tryz.ntmps114
  go_wp2_with fail
  refine (size_any (H + 2) d 0 w h2 hs (Nat.zero_le _)).mono ?_
  rintro e w1 ⟨hO1, hP⟩
  have hle := szL_le d 0 5 0 0
  have hS : sizesL d = if (szL d 0 5 0 0).2.2 = 0 then
    (if (szL d (szL d 0 5 0 0).2.1 5 0 0).2.2 = 0 then ((szL d 0 5 0 0).1, (szL d (szL d 0 5 0 0).2.1 5 0 0).1, (szL d (szL d 0 5 0 0).2.1 5 0 0).2.1, 0)
    else (0, 0, 0, (szL d (szL d 0 5 0 0).2.1 5 0 0).2.2))
  else (0, 0, 0, (szL d 0 5 0 0).2.2) := rfl
  obtain ⟨r, hr⟩ : ∃ r, szL d 0 5 0 0 = r := ⟨_, rfl⟩
  rw [hr] at hP hle hS
  clear hr
  obtain ⟨a, t, er⟩ := r
  have k0 : ICell w1 H x := h0.same (hO1.block _ (by omega))
  have k1 : ICell w1 (H + 1) y := h1.same (hO1.block _ (by omega))
  have k3 : PCell w1 (H + 3) (H + 2) := h3.same (hO1.block _ (by omega))
  have k4 := hO1.block (H + 4) (by omega)
  by_cases her : er = 0
  · rw [if_pos her] at hP hS
    obtain ⟨rfl, hR1⟩ := hP
    have f0 := k0.frozen
    have g0 := k0.cell
    simp only at hR1 hle hS
    have hle2 := szL_le d t 5 0 0
    go_upto_region 1 with fail
    obtain ⟨V, hV⟩ : ∃ V, V = w1.setCell { block := H, off := 0 } (Value.int IntKind.i64 ↑a) := ⟨_, rfl⟩
    have v0 : ICell V H a := by rw [hV]; exact k0.set a
    have vb : ∀ k, k ≠ H → V.heap[k]? = w1.heap[k]? := by intro k hk; rw [hV]; exact Below.heap_setCell w1 ⟨H, 0, none⟩ _ k hk
    have v1 := k1.same (vb _ (by omega))
    have v2 := hR1.same (vb _ (by omega))
    have v3 := k3.same (vb _ (by omega))
    have v4 := (vb (H + 4) (by omega)).trans k4
    have vB : Below H w V := by rw [hV]; exact (hO1.below (B := H) (by omega)).setCell (p := ⟨H, 0, none⟩) (Nat.le_refl _) _
    have vS : V.heap.size = w.heap.size := by rw [hV, ← hO1.size]; simp [World.setCell]
    rw [← hV]
    have d3 := v3.cell
    have KK := hidM (And.intro v0 (And.intro v1 (And.intro v2 (And.intro v3 (And.intro v4 (And.intro vB vS))))))
    clear v0 v1 v3 v4 vB vS hV vb k0 k1 k3 k4 f0 g0 c3 hO1 h0 h1 h2 h3
    go_wp2_with fail
    refine (size_any (H + 2) d t V v2 hs hle).mono ?_
    rintro e w2 ⟨hO2, hP⟩
    obtain ⟨r, hr⟩ : ∃ r, szL d t 5 0 0 = r := ⟨_, rfl⟩
    rw [hr] at hP hle2 hS
    clear hr v2
    obtain ⟨a2, t2, er2⟩ := r
    obtain ⟨v0, v1, v2, v3, v4, vB, vS⟩ := KK.out
    have m0 := v0.same (hO2.block _ (by omega))
    have m1 := v1.same (hO2.block _ (by omega))
    have m3 := v3.same (hO2.block _ (by omega))
    have m4 := (hO2.block (H + 4) (by omega)).trans v4
    have mB := vB.trans (hO2.below (B := H) (by omega))
    have mS := hO2.size.trans vS
    clear v0 v1 v2 v3 v4 vB vS KK hO2
    by_cases her2 : er2 = 0
    · rw [if_pos her2] at hP hS
      obtain ⟨rfl, hR2⟩ := hP
      have f1 := m1.frozen
      have g1 := m1.cell
      have MM := hidM (And.intro m0 (And.intro m1 (And.intro m3 (And.intro m4 (And.intro mB mS)))))
      have HR2 := hidM hR2
      clear m0 m1 m3 m4 mB mS hR2 d3
      go_wp2
      go_end0
      obtain ⟨m0, m1, m3, m4, mB, mS⟩ := MM.out
      have vb : ∀ k, k ≠ H + 1 → (w2.setCell { block := H + 1, off := 0 } (Value.int IntKind.i64 ↑a2)).heap[k]? = w2.heap[k]? := fun k hk => Below.heap_setCell w2 ⟨H + 1, 0, none⟩ _ k hk
      refine ⟨mB.setCell (p := ⟨H + 1, 0, none⟩) (by simp) _, by rw [← mS]; simp [World.setCell], m3.same (vb _ (by omega)), (vb _ (by omega)).trans m4, ?_⟩
      rw [hS]
      exact (if_pos rfl).mpr ⟨rfl, m0.same (vb _ (by omega)), m1.set _, HR2.out.same (vb _ (by omega))⟩
    · rw [if_neg her2] at hP hS
      subst hP
      have MM := hidM (And.intro m0 (And.intro m1 (And.intro m3 (And.intro m4 (And.intro mB mS)))))
      clear m0 m1 m3 m4 mB mS d3
      unfold gave
      go_wp2
      obtain ⟨m0, m1, m3, m4, mB, mS⟩ := MM.out
      refine ⟨rfl, mB, mS, m3, m4, ?_⟩
      rw [hS]
      exact (if_neg her2).mpr ⟨rfl, _,_, m0, m1⟩
  · rw [if_neg her] at hP hS
    subst hP
    have K := hidM (And.intro k0 (And.intro k1 (And.intro k3 k4)))
    have O1 := hidM hO1
    clear hO1 k0 k1 k3 k4 c3
    unfold gave
    go_wp2
    refine ⟨rfl, O1.out.below (by omega), O1.out.size, K.out.2.2.1, K.out.2.2.2, ?_⟩
    rw [hS]
    exact (if_neg her).mpr ⟨rfl, x, y, K.out.1, K.out.2.1⟩
/-- What attempt leaves behind at the closure of Sizes. -/
def SzPost2 (H : Nat) (d : ByteArray) (w : World) (e : Ending) (w' : World) : Prop :=
  Below H w w' ∧ e = .returned (.int .i64 ((sizesL d).2.2.2 : Nat)) ∧ PCell w' (H + 3) (H + 2) ∧
  if (sizesL d).2.2.2 = 0 then ICell w' H ((sizesL d).1 : Nat) ∧ ICell w' (H + 1) ((sizesL d).2.1 : Nat) ∧ RBox w' (H + 2) d (sizesL d).2.2.1
  else ∃ x y, ICell w' H x ∧ ICell w' (H + 1) y
set_option maxRecDepth 100000 in
theorem enters18 : ∀ args w, (callFunc 114 args).run Tryz.prog w = .ok (.enter 114 args) w := enters_of Tryz.func114 (by kernel_rfl) rfl
theorem szatt (H : Nat) (d : ByteArray) (w : World) (hs : d.size ≤ 100000000000) (hH : w.heap.size = H + 4) (h0 : ICell w H 0) (h1 : ICell w (H + 1) 0) (h2 : RBox w (H + 2) d 0) (h3 : PCell w (H + 3) (H + 2)) :
    Calls Tryz.prog 70 #[.func (.func 114) #[] #[.pointer (some ⟨H + 3, 0, none⟩), .pointer (some ⟨H, 0, none⟩), .pointer (some ⟨H + 1, 0, none⟩)]] w fun e w' => SzPost2 H d w e w' := by
  have al : ∀ k, k < w.heap.size → (w.alloc (.cells #[.int .i64 0] 26)).heap[k]? = w.heap[k]? := fun k hk => Below.heap_alloc w _ k hk
  have nw : (w.alloc (.cells #[.int .i64 0] 26)).heap[w.heap.size]? = some (.cells #[.int .i64 0] 26 (0, 0)) := heap_alloc_new w _
  have hb := (Below.refl H w).alloc (by omega) (.cells #[.int .i64 0] 26)
  have main := sizes1_any H d (w.alloc (.cells #[.int .i64 0] 26)) 0 0 hs (h0.same (al _ (by omega))) (h1.same (al _ (by omega))) (h2.same (al _ (by omega))) (h3.same (al _ (by omega)))
  by_cases he : (sizesL d).2.2.2 = 0
  · refine (attempt_ok 114 _ w (fun w' => Below H w w' ∧ PCell w' (H + 3) (H + 2) ∧ ICell w' H ((sizesL d).1 : Nat) ∧ ICell w' (H + 1) ((sizesL d).2.1 : Nat) ∧ RBox w' (H + 2) d (sizesL d).2.2.1) enters18 (main.mono ?_)).mono ?_
    · rintro e w' ⟨q1', q2', q3', q4', q5'⟩
      rw [if_pos he] at q5'
      exact ⟨q5'.1, by rw [hH, q4', ← hH]; exact nw, hb.trans q1', q3', q5'.2.1, q5'.2.2.1, q5'.2.2.2⟩
    · rintro e w' ⟨rfl, w1, ⟨g1, g2, g3, g4, g5⟩, rfl⟩
      have vb : ∀ k, k ≠ w.heap.size → (w1.setCell { block := w.heap.size, off := 0 } (Value.int IntKind.i64 0)).heap[k]? = w1.heap[k]? := fun k hk => Below.heap_setCell w1 ⟨w.heap.size, 0, none⟩ _ k hk
      refine ⟨g1.setCell (p := ⟨w.heap.size, 0, none⟩) (by simp; omega) _, by rw [he]; rfl, g2.same (vb _ (by omega)), ?_⟩
      rw [if_pos he]
      exact ⟨g3.same (vb _ (by omega)), g4.same (vb _ (by omega)), g5.same (vb _ (by omega))⟩
  · refine (attempt_gave 114 _ (sizesL d).2.2.2 w (fun w' => Below H w w' ∧ PCell w' (H + 3) (H + 2) ∧ ∃ x y, ICell w' H x ∧ ICell w' (H + 1) y) enters18 (main.mono ?_)).mono ?_
    · rintro e w' ⟨q1', q2', q3', q4', q5'⟩
      rw [if_neg he] at q5'
      exact ⟨q5'.1, by rw [hH, q4', ← hH]; exact nw, hb.trans q1', q3', q5'.2⟩
    · rintro e w' ⟨rfl, w1, ⟨g1, g2, x, y, g3, g4⟩, hlt, rfl⟩
      have vb : ∀ k, k < w.heap.size → ((w1.alloc (.cells #[.int .i64 ((sizesL d).2.2.2 : Int)] 136)).setCell ⟨w.heap.size, 0, none⟩ (.int .i64 ((sizesL d).2.2.2 : Int))).heap[k]? = w1.heap[k]? := fun k hk =>
        (Below.heap_setCell _ ⟨w.heap.size, 0, none⟩ _ k (by simp; omega)).trans (Below.heap_alloc w1 _ k (by omega))
      refine ⟨(g1.alloc (by omega) _).setCell (p := ⟨w.heap.size, 0, none⟩) (by simp; omega) _, rfl, g2.same (vb _ (by omega)), ?_⟩
      rw [if_neg he]
      exact ⟨x, y, g3.same (vb _ (by omega)), g4.same (vb _ (by omega))⟩
theorem alloc_size (w : World) (o : Obj) : (w.alloc o).heap.size = w.heap.size + 1 := by simp [go_sem]
theorem four (w : World) (d : ByteArray) :
    let V := ((((w.alloc (Obj.cells #[Value.int IntKind.i64 0] 3)).alloc (Obj.cells #[Value.int IntKind.i64 0] 3)).alloc
          (Obj.cells #[Value.string d, Value.int IntKind.i64 0] 92)).alloc
      (Obj.cells #[Value.pointer (some { block := w.heap.size + 1 + 1, off := 0 })] 90))
    ICell V w.heap.size 0 ∧ ICell V (w.heap.size + 1) 0 ∧ RBox V (w.heap.size + 2) d 0 ∧ PCell V (w.heap.size + 3) (w.heap.size + 2) ∧ V.heap.size = w.heap.size + 4 ∧ Below w.heap.size w V := by
  intro V
  obtain ⟨w1, h1⟩ : ∃ w1, w1 = w.alloc (Obj.cells #[Value.int IntKind.i64 0] 3) := ⟨_, rfl⟩
  obtain ⟨w2, h2⟩ : ∃ w2, w2 = w1.alloc (Obj.cells #[Value.int IntKind.i64 0] 3) := ⟨_, rfl⟩
  obtain ⟨w3, h3⟩ : ∃ w3, w3 = w2.alloc (Obj.cells #[Value.string d, Value.int IntKind.i64 0] 92) := ⟨_, rfl⟩
  obtain ⟨w4, h4⟩ : ∃ w4, w4 = w3.alloc (Obj.cells #[Value.pointer (some { block := w.heap.size + 1 + 1, off := 0 })] 90) := ⟨_, rfl⟩
  have hV : V = w4 := by rw [h4, h3, h2, h1]
  have s1 : w1.heap.size = w.heap.size + 1 := by rw [h1]; exact alloc_size _ _
  have s2 : w2.heap.size = w.heap.size + 2 := by rw [h2, alloc_size, s1]
  have s3 : w3.heap.size = w.heap.size + 3 := by rw [h3, alloc_size, s2]
  have s4 : w4.heap.size = w.heap.size + 4 := by rw [h4, alloc_size, s3]
  have a1 : w1.heap[w.heap.size]? = some (.cells #[.int .i64 0] 3 (0, 0)) := by rw [h1]; exact heap_alloc_new w _
  have a2 : w2.heap[w.heap.size + 1]? = some (.cells #[.int .i64 0] 3 (0, 0)) := by rw [h2, ← s1]; exact heap_alloc_new w1 _
  have a3 : w3.heap[w.heap.size + 2]? = some (.cells #[.string d, .int .i64 0] 92 (0, 0)) := by rw [h3, ← s2]; exact heap_alloc_new w2 _
  have a4 : w4.heap[w.heap.size + 3]? = some (.cells #[.pointer (some ⟨w.heap.size + 2, 0, none⟩)] 90 (0, 0)) := by rw [h4, ← s3]; exact heap_alloc_new w3 _
  have k2 : ∀ k, k < w.heap.size + 1 → w2.heap[k]? = w1.heap[k]? := fun k hk => by rw [h2]; exact Below.heap_alloc w1 _ k (by omega)
  have k3 : ∀ k, k < w.heap.size + 2 → w3.heap[k]? = w2.heap[k]? := fun k hk => by rw [h3]; exact Below.heap_alloc w2 _ k (by omega)
  have k4 : ∀ k, k < w.heap.size + 3 → w4.heap[k]? = w3.heap[k]? := fun k hk => by rw [h4]; exact Below.heap_alloc w3 _ k (by omega)
  rw [hV]
  refine ⟨?_, ?_, ?_, a4, s4, ?_⟩
  · unfold ICell; rw [k4 _ (by omega), k3 _ (by omega), k2 _ (by omega)]; exact a1
  · unfold ICell; rw [k4 _ (by omega), k3 _ (by omega)]; exact a2
  · unfold RBox; rw [k4 _ (by omega)]; exact a3
  · rw [h4, h3, h2, h1]
    exact ((((Below.refl w.heap.size w).alloc (Nat.le_refl _) _).alloc (by rw [alloc_size]; omega) _).alloc (by rw [alloc_size, alloc_size]; omega) _).alloc (by rw [alloc_size, alloc_size, alloc_size]; omega) _
theorem sizesL_zero (d : ByteArray) {a b u er : Nat} (h : sizesL d = (a, b, u, er)) (he : ¬ er = 0) : a = 0 ∧ b = 0 ∧ u = 0 := by
  unfold sizesL at h
  split at h
  · split at h
    · simp only [Prod.mk.injEq] at h; omega
    · simp only [Prod.mk.injEq] at h; omega
  · simp only [Prod.mk.injEq] at h; omega
set_option maxRecDepth 100000 in
theorem loadV3 (w : World) (b : Nat) (x : Int) (h : ICell w b x) : (loadVar 3 ⟨b, 0, none⟩).run Tryz.prog w = .ok (.int .i64 x) w := by
  have hc := h.cell
  simp [loadVar, go_sem, hc]
set_option maxRecDepth 100000 in
theorem results4 {fn : Func} {p q u v : Tmp} {ty tz : TypeId} {P : Program} (h : fn.results = #[.cell p ty, .cell q tz, .tmp u, .tmp v]) (tmps : Array Value) (w : World) (a b : Addr) (x y : Value)
    (hp : tmps.getD p undef = .pointer (some a)) (hq : tmps.getD q undef = .pointer (some b)) (hx : (loadVar ty a).run P w = .ok x w) (hy : (loadVar tz b).run P w = .ok y w) :
    (results fn tmps).run P w = .ok (.tuple #[x, y, tmps.getD u undef, tmps.getD v undef]) w := by
  simp only [results, h]
  have hp' : tmps[p]?.getD undef = .pointer (some a) := by simpa using hp
  have hq' : tmps[q]?.getD undef = .pointer (some b) := by simpa using hq
  simp [Sem.run_bind, Result.andThen, hp', hq', asAddr, hx, hy]
set_option maxHeartbeats 2000000 in
set_option maxRecDepth 20000 in
theorem sizes_any (d : ByteArray) (w : World) (hs : d.size ≤ 100000000000) :
    Calls Tryz.prog 69 #[.string d] w fun e w' => e = .returned (.tuple #[.int .i64 ((sizesL d).1 : Nat), .int .i64 ((sizesL d).2.1 : Nat), .int .i64 ((sizesL d).2.2.1 : Nat), .int .i64 ((sizesL d).2.2.2 : Nat)]) ∧ Below w.heap.size w w' := by
  have hmf : ∀ (fn : Fn) (first cap : Array Value) (w : World), (Instr.makeFunc fn first cap).run Tryz.prog w = .ok (.func fn first cap) w := fun _ _ _ _ => rfl
  obtain ⟨H, hH⟩ : ∃ H, H = w.heap.size := ⟨_, rfl⟩
  go_enter Tryz.func69, Tryz.ntmps69
  go_wp2_with fail
  obtain ⟨V, hV⟩ : ∃ V, V = ((((w.alloc (Obj.cells #[Value.int IntKind.i64 0] 3)).alloc (Obj.cells #[Value.int IntKind.i64 0] 3)).alloc
          (Obj.cells #[Value.string d, Value.int IntKind.i64 0] 92)).alloc
      (Obj.cells #[Value.pointer (some { block := w.heap.size + 1 + 1, off := 0 })] 90)) := ⟨_, rfl⟩
  have v0 : ICell V H 0 ∧ ICell V (H + 1) 0 ∧ RBox V (H + 2) d 0 ∧ PCell V (H + 3) (H + 2) ∧ V.heap.size = H + 4 ∧ Below H w V := by
    subst hV hH
    exact four w d
  obtain ⟨v0, v1, v2, v3, v4, v5⟩ := v0
  rw [← hV, ← hH]
  refine (szatt H d V hs v4 v0 v1 v2 v3).mono ?_
  rintro e w1 ⟨hB, rfl, hp, hr⟩
  have HB := hidM (v5.trans hB)
  have HHH := hidM hH
  have p3 := hp.cell
  clear v0 v1 v2 v3 v4 v5 hV hB hH
  obtain ⟨r, hrr⟩ : ∃ r, sizesL d = r := ⟨_, rfl⟩
  rw [hrr] at hr
  rw [hrr]
  have HR := hrr
  clear hrr
  obtain ⟨a, b, u, er⟩ := r
  simp only at hr
  by_cases he : er = 0
  · rw [if_pos he] at hr
    subst he
    obtain ⟨h0, h1, h2⟩ := hr
    have c0 := h0.cell
    have c1 := h1.cell
    have c2 := h2.taken
    have f0 := h0.frozen
    have f1 := h1.frozen
    go_wp2
    go_region
    go_wp2
    have z0 : ICell ((w1.setCell { block := H, off := 0 } (Value.int IntKind.i64 ↑a)).setCell { block := H + 1, off := 0 } (Value.int IntKind.i64 ↑b)).drew H a :=
      (h0.set (a : Int)).same (Below.heap_setCell _ ⟨H + 1, 0, none⟩ _ H (by simp))
    have z1 : ICell ((w1.setCell { block := H, off := 0 } (Value.int IntKind.i64 ↑a)).setCell { block := H + 1, off := 0 } (Value.int IntKind.i64 ↑b)).drew (H + 1) b :=
      ICell.set (h1.same (Below.heap_setCell _ ⟨H, 0, none⟩ _ (H + 1) (by simp))) (b : Int)
    have zB : Below w.heap.size w ((w1.setCell { block := H, off := 0 } (Value.int IntKind.i64 ↑a)).setCell { block := H + 1, off := 0 } (Value.int IntKind.i64 ↑b)).drew := by
      rw [← HHH.out]
      exact ((HB.out.setCell (p := ⟨H, 0, none⟩) (Nat.le_refl _) _).setCell (p := ⟨H + 1, 0, none⟩) (by simp) _).drew
    rw [HR]
    exact bodyPost_ret (results4 rfl _ _ ⟨H, 0, none⟩ ⟨H + 1, 0, none⟩ _ _ rfl rfl (loadV3 _ _ _ z0) (loadV3 _ _ _ z1)) rfl ⟨rfl, zB⟩
  · rw [if_neg he] at hr
    obtain ⟨x, y, h0, h1⟩ := hr
    have c0 := h0.cell
    have c1 := h1.cell
    have f0 := h0.frozen
    have f1 := h1.frozen
    have he' : ¬ (er : Int) = 0 := by omega
    go_wp2
    have z0 : ICell ((w1.setCell { block := H, off := 0 } (Value.int IntKind.i64 0)).setCell { block := H + 1, off := 0 } (Value.int IntKind.i64 0)) H 0 :=
      (h0.set 0).same (Below.heap_setCell _ ⟨H + 1, 0, none⟩ _ H (by simp))
    have z1 : ICell ((w1.setCell { block := H, off := 0 } (Value.int IntKind.i64 0)).setCell { block := H + 1, off := 0 } (Value.int IntKind.i64 0)) (H + 1) 0 :=
      ICell.set (h1.same (Below.heap_setCell _ ⟨H, 0, none⟩ _ (H + 1) (by simp))) 0
    have zB : Below w.heap.size w ((w1.setCell { block := H, off := 0 } (Value.int IntKind.i64 0)).setCell { block := H + 1, off := 0 } (Value.int IntKind.i64 0)) := by
      rw [← HHH.out]
      exact (HB.out.setCell (p := ⟨H, 0, none⟩) (Nat.le_refl _) _).setCell (p := ⟨H + 1, 0, none⟩) (by simp) _
    have hz : a = 0 ∧ b = 0 ∧ u = 0 := sizesL_zero d HR he
    obtain ⟨rfl, rfl, rfl⟩ := hz
    rw [HR]
    exact bodyPost_ret (results4 rfl _ _ ⟨H, 0, none⟩ ⟨H + 1, 0, none⟩ _ _ rfl rfl (loadV3 _ _ _ z0) (loadV3 _ _ _ z1)) rfl ⟨rfl, zB⟩
end Go.Proofs.YtddoemeellbhaaaGreatDoor.Dlt
namespace Go.Proofs.YtddoemeellbhaaaGreatDoor.Dlt
open Go.RowKit
/-- What a delta makes of its base, and the error's number. -/
def apL (base d : ByteArray) (most : Int) : List UInt8 × Nat :=
  if (sizesL d).2.2.2 = 0 then
    if (sizesL d).1 = base.size then
      if most < ((sizesL d).2.1 : Int) then ([], 2) else flL base d (sizesL d).2.1 (d.size - (sizesL d).2.2.1) (sizesL d).2.2.1 []
    else ([], 4)
  else ([], (sizesL d).2.2.2)
def SCell (w : World) (b : Nat) (x : ByteArray) : Prop := w.heap[b]? = some (.cells #[.string x] 9 (0, 0))
theorem SCell.cell {w : World} {b : Nat} {x : ByteArray} (h : SCell w b x) : w.cell? ⟨b, 0, none⟩ = some (.string x) := by
  rw [cell_of_row w b _ _ 9 (0, 0) h]; rfl
theorem SCell.frozen {w : World} {b : Nat} {x : ByteArray} (h : SCell w b x) : w.frozen? ⟨b, 0, none⟩ = false := frozen_of_row w b 0 _ 9 h
theorem SCell.set {w : World} {b : Nat} {x : ByteArray} (h : SCell w b x) (y : ByteArray) : SCell (w.setCell ⟨b, 0, none⟩ (.string y)) b y := by
  unfold SCell
  rw [heap_setCell_same w b _ _ 9 _ h]
  rfl
set_option maxRecDepth 100000 in
theorem SCell.same {w w' : World} {b : Nat} {x : ByteArray} (h : SCell w b x) (hh : w'.heap[b]? = w.heap[b]?) : SCell w' b x := by
  unfold SCell; rw [hh]; exact h
set_option maxRecDepth 100000 in
theorem loadV9 (w : World) (b : Nat) (x : ByteArray) (h : SCell w b x) : (loadVar 9 ⟨b, 0, none⟩).run Tryz.prog w = .ok (.string x) w := by
  have hc := h.cell
  simp [loadVar, go_sem, hc]
set_option maxRecDepth 100000 in
theorem results2c {fn : Func} {p u : Tmp} {ty : TypeId} {P : Program} (h : fn.results = #[.cell p ty, .tmp u]) (tmps : Array Value) (w : World) (a : Addr) (x : Value)
    (hp : tmps.getD p undef = .pointer (some a)) (hx : (loadVar ty a).run P w = .ok x w) :
    (results fn tmps).run P w = .ok (.tuple #[x, tmps.getD u undef]) w := by
  rw [results_cell_tmp h, hp]
  simp [asAddr, hx, Result.andThen]
/-- What the closure of Apply leaves behind. -/
def ApPost (H X : Nat) (r : List UInt8 × Nat) (w : World) (e : Ending) (w' : World) : Prop :=
  Below H w w' ∧ w'.heap[X + 3]? = w.heap[X + 3]? ∧
  if r.2 = 0 then e = .returned (.tuple #[]) ∧ SCell w' (H + 1) ⟨r.1.toArray⟩ else e = gave r.2 ∧ ∃ x, SCell w' (H + 1) x
set_option maxHeartbeats 1000000 in
set_option maxRecDepth 20000 in
theorem ap1_any (H X : Nat) (base d x : ByteArray) (t size : Nat) (w : World) (hs : d.size ≤ 1000000) (hbs : base.size ≤ 1000000) (ht : t ≤ d.size) (hz : size ≤ 100000000000) (hX : H + 2 ≤ X) (hw : X + 3 < w.heap.size)
    (h0 : SCell w H base) (h1 : SCell w (H + 1) x) (h2 : ICell w X (size : Int)) (h3 : RBox w (X + 1) d t) (h4 : PCell w (X + 2) (X + 1)) :
    Calls Tryz.prog 71 #[.pointer (some ⟨X + 2, 0, none⟩), .pointer (some ⟨H, 0, none⟩), .pointer (some ⟨X, 0, none⟩), .pointer (some ⟨H + 1, 0, none⟩)] w fun e w' => ApPost H X (flL base d size (d.size - t) t []) w e w' := by
  have c0 := h0.cell
  have c2 := h2.cell
  have c4 := h4.cell
  go_enter Tryz.func71, Tryz.ntmps71
  go_wp2_with fail
  refine (follow_any (X + 1) base d t size w h3 hs hbs ht hz).mono ?_
  rintro e w1 ⟨hO1, hP⟩
  obtain ⟨r, hr⟩ : ∃ r, flL base d size (d.size - t) t [] = r := ⟨_, rfl⟩
  rw [hr] at hP
  have HR := hidM hr
  clear hr
  obtain ⟨o, er⟩ := r
  have k1 : SCell w1 (H + 1) x := h1.same (hO1.block _ (by omega) (by omega))
  have k4 := hO1.block (X + 3) (by omega) (by omega)
  have kB := hO1.below (C := H) (by omega) (by omega)
  clear hO1 h0 h1 h2 h3 h4 c0 c2 c4
  by_cases her : er = 0
  · rw [if_pos her] at hP
    subst hP
    have f1 := k1.frozen
    have g1 := k1.cell
    have KK := hidM (And.intro k1 (And.intro k4 kB))
    clear k1 k4 kB
    go_wp2
    go_end0
    obtain ⟨k1, k4, kB⟩ := KK.out
    refine ⟨kB.setCell (p := ⟨H + 1, 0, none⟩) (by simp) _, (Below.heap_setCell w1 ⟨H + 1, 0, none⟩ _ (X + 3) (by simp; omega)).trans k4, ?_⟩
    rw [HR.out, if_pos her]
    exact ⟨rfl, k1.set _⟩
  · rw [if_neg her] at hP
    subst hP
    have KK := hidM (And.intro k1 (And.intro k4 kB))
    clear k1 k4 kB
    unfold gave
    go_wp2
    obtain ⟨k1, k4, kB⟩ := KK.out
    refine ⟨rfl, kB, k4, ?_⟩
    rw [HR.out, if_neg her]
    exact ⟨rfl, x, k1⟩
/-- What attempt leaves behind at the closure of Apply. -/
def ApPost2 (H : Nat) (r : List UInt8 × Nat) (w : World) (e : Ending) (w' : World) : Prop :=
  Below H w w' ∧ e = .returned (.int .i64 (r.2 : Int)) ∧ ∃ x, SCell w' (H + 1) x ∧ (r.2 = 0 → x = ⟨r.1.toArray⟩)
set_option maxRecDepth 100000 in
theorem enters16 : ∀ args w, (callFunc 71 args).run Tryz.prog w = .ok (.enter 71 args) w := enters_of Tryz.func71 (by kernel_rfl) rfl
theorem apatt (H X : Nat) (base d x : ByteArray) (t size : Nat) (w : World) (hs : d.size ≤ 1000000) (hbs : base.size ≤ 1000000) (ht : t ≤ d.size) (hz : size ≤ 100000000000) (hX : H + 2 ≤ X) (hw : w.heap.size = X + 3)
    (h0 : SCell w H base) (h1 : SCell w (H + 1) x) (h2 : ICell w X (size : Int)) (h3 : RBox w (X + 1) d t) (h4 : PCell w (X + 2) (X + 1)) :
    Calls Tryz.prog 70 #[.func (.func 71) #[] #[.pointer (some ⟨X + 2, 0, none⟩), .pointer (some ⟨H, 0, none⟩), .pointer (some ⟨X, 0, none⟩), .pointer (some ⟨H + 1, 0, none⟩)]] w fun e w' => ApPost2 H (flL base d size (d.size - t) t []) w e w' := by
  have al : ∀ k, k < w.heap.size → (w.alloc (.cells #[.int .i64 0] 26)).heap[k]? = w.heap[k]? := fun k hk => Below.heap_alloc w _ k hk
  have nw : (w.alloc (.cells #[.int .i64 0] 26)).heap[w.heap.size]? = some (.cells #[.int .i64 0] 26 (0, 0)) := heap_alloc_new w _
  have hb := (Below.refl H w).alloc (by omega) (.cells #[.int .i64 0] 26)
  have main := ap1_any H X base d x t size (w.alloc (.cells #[.int .i64 0] 26)) hs hbs ht hz hX (by rw [alloc_size]; omega) (h0.same (al _ (by omega))) (h1.same (al _ (by omega))) (h2.same (al _ (by omega))) (h3.same (al _ (by omega))) (h4.same (al _ (by omega)))
  generalize flL base d size (d.size - t) t [] = r at *
  by_cases he : r.2 = 0
  · refine (attempt_ok 71 _ w (fun w' => Below H w w' ∧ SCell w' (H + 1) ⟨r.1.toArray⟩) enters16 (main.mono ?_)).mono ?_
    · rintro e w' ⟨q1', q4', q5'⟩
      rw [if_pos he] at q5'
      exact ⟨q5'.1, by rw [hw, q4', ← hw]; exact nw, hb.trans q1', q5'.2⟩
    · rintro e w' ⟨rfl, w1, ⟨g1, g2⟩, rfl⟩
      exact ⟨g1.setCell (p := ⟨w.heap.size, 0, none⟩) (by simp; omega) _, by rw [he]; rfl, _, g2.same (Below.heap_setCell w1 ⟨w.heap.size, 0, none⟩ _ _ (by simp; omega)), fun _ => rfl⟩
  · refine (attempt_gave 71 _ r.2 w (fun w' => Below H w w' ∧ ∃ x, SCell w' (H + 1) x) enters16 (main.mono ?_)).mono ?_
    · rintro e w' ⟨q1', q4', q5'⟩
      rw [if_neg he] at q5'
      exact ⟨q5'.1, by rw [hw, q4', ← hw]; exact nw, hb.trans q1', q5'.2⟩
    · rintro e w' ⟨rfl, w1, ⟨g1, x, g2⟩, hlt, rfl⟩
      refine ⟨(g1.alloc (by omega) _).setCell (p := ⟨w.heap.size, 0, none⟩) (by simp; omega) _, rfl, x, g2.same ?_, fun h => absurd h he⟩
      exact (Below.heap_setCell _ ⟨w.heap.size, 0, none⟩ _ _ (by simp; omega)).trans (Below.heap_alloc w1 _ _ (by omega))
theorem sizesL_bounds (d : ByteArray) : (sizesL d).1 < 34359738368 ∧ (sizesL d).2.1 < 34359738368 ∧ (sizesL d).2.2.1 ≤ d.size := by
  have h1 := szL_35 d 0
  have h2 := szL_35 d (szL d 0 5 0 0).2.1
  have h3 := szL_le d (szL d 0 5 0 0).2.1 5 0 0
  unfold sizesL
  split
  · split
    · exact ⟨h1, h2, h3⟩
    · exact ⟨(by decide : 0 < 34359738368), (by decide : 0 < 34359738368), Nat.zero_le _⟩
  · exact ⟨(by decide : 0 < 34359738368), (by decide : 0 < 34359738368), Nat.zero_le _⟩
theorem flL_err (base s : ByteArray) (size : Nat) : ∀ (k t : Nat) (out : List UInt8) {r : List UInt8 × Nat}, flL base s size k t out = r → ¬ r.2 = 0 → r.1 = []
  | 0, t, out, r => by
    rw [flL]; intro h; subst h
    split
    · intro _; rfl
    · intro h; exact absurd rfl h
  | k + 1, t, out, r => by
    rw [flL]; intro h; subst h
    split
    · split
      · split
        · intro _; rfl
        · intro h; exact flL_err base s size k _ _ rfl h
      · intro _; rfl
    · split
      · intro _; rfl
      · intro h; exact absurd rfl h
set_option maxHeartbeats 2000000 in
set_option maxRecDepth 20000 in
theorem apply_any (base d : ByteArray) (most : Int) (w : World) (hs : d.size ≤ 1000000) (hbs : base.size ≤ 1000000) :
    Calls Tryz.prog 31 #[.string base, .string d, .int .i64 most] w fun e w' => e = .returned (.tuple #[.string ⟨(apL base d most).1.toArray⟩, .int .i64 ((apL base d most).2 : Nat)]) ∧ Below w.heap.size w w' := by
  have hmf : ∀ (fn : Fn) (first cap : Array Value) (w : World), (Instr.makeFunc fn first cap).run Tryz.prog w = .ok (.func fn first cap) w := fun _ _ _ _ => rfl
  obtain ⟨H, hH⟩ : ∃ H, H = w.heap.size := ⟨_, rfl⟩
  go_enter Tryz.func31, Tryz.ntmps31
  go_wp2_with fail
  refine (sizes_any d _ (by omega)).mono ?_
  rintro e w1 ⟨rfl, hB1⟩
  have hap : apL base d most = if (sizesL d).2.2.2 = 0 then
    (if (sizesL d).1 = base.size then
      (if most < ((sizesL d).2.1 : Int) then ([], 2) else flL base d (sizesL d).2.1 (d.size - (sizesL d).2.2.1) (sizesL d).2.2.1 [])
    else ([], 4))
  else ([], (sizesL d).2.2.2) := rfl
  have hbd := sizesL_bounds d
  obtain ⟨r, hr⟩ : ∃ r, sizesL d = r := ⟨_, rfl⟩
  rw [hr] at hap hbd
  rw [hr]
  clear hr
  obtain ⟨a, b, u, er⟩ := r
  obtain ⟨ba, bb, bu⟩ := hbd
  simp only at hap ba bb bu
  have w0 : SCell w1 H base ∧ SCell w1 (H + 1) ⟨#[]⟩ ∧ Below H w w1 ∧ H + 2 ≤ w1.heap.size := by
    obtain ⟨x1, h1⟩ : ∃ x1, x1 = w.alloc (Obj.cells #[Value.string base] 9) := ⟨_, rfl⟩
    obtain ⟨x2, h2⟩ : ∃ x2, x2 = x1.alloc (Obj.cells #[Value.string { data := #[] }] 9) := ⟨_, rfl⟩
    rw [← h1, ← h2] at hB1
    have s1 : x1.heap.size = H + 1 := by rw [h1, hH]; exact alloc_size _ _
    have s2 : x2.heap.size = H + 2 := by rw [h2, alloc_size, s1]
    have a1 : x1.heap[H]? = some (.cells #[.string base] 9 (0, 0)) := by rw [h1, hH]; exact heap_alloc_new w _
    have a2 : x2.heap[H + 1]? = some (.cells #[.string ⟨#[]⟩] 9 (0, 0)) := by rw [h2, ← s1]; exact heap_alloc_new x1 _
    have k2 : x2.heap[H]? = x1.heap[H]? := by rw [h2]; exact Below.heap_alloc x1 _ H (by omega)
    rw [s2] at hB1
    refine ⟨(hB1.block _ (by omega)).trans (k2.trans a1), (hB1.block _ (by omega)).trans a2, ?_, by have := hB1.size; omega⟩
    have e0 : Below H w x2 := by
      rw [h2, h1]
      exact ((Below.refl H w).alloc (by omega) _).alloc (by rw [alloc_size]; omega) _
    exact e0.trans (hB1.mono (by omega))
  obtain ⟨s0, s1, sB, sS⟩ := w0
  have HH := hidM hH
  rw [← hH]
  clear hB1 hH
  go_upto_region 2 with fail
  obtain ⟨X, hX⟩ : ∃ X, X = w1.heap.size := ⟨_, rfl⟩
  obtain ⟨V, hV⟩ : ∃ V, V = w1.alloc (Obj.cells #[Value.int IntKind.i64 ↑b] 3) := ⟨_, rfl⟩
  have v0 : SCell V H base := s0.same (by rw [hV]; exact Below.heap_alloc w1 _ _ (by omega))
  have v1 : SCell V (H + 1) ⟨#[]⟩ := s1.same (by rw [hV]; exact Below.heap_alloc w1 _ _ (by omega))
  have v2 : ICell V X (b : Int) := by unfold ICell; rw [hV, hX]; exact heap_alloc_new w1 _
  have vB : Below H w V := by rw [hV]; exact sB.alloc (by omega) _
  have vS : V.heap.size = X + 1 := by rw [hV, hX]; exact alloc_size _ _
  have hXH : H + 2 ≤ X := by omega
  rw [← hV, ← hX]
  clear hV hX s0 s1 sB sS
  have c0 := v0.cell
  have c1 := v1.cell
  have c2 := v2.cell
  have f1 := v1.frozen
  have HS := hidM vS
  have HAP := hidM hap
  clear vS hap
  have fin : ∀ (n : Nat) (W : World) (y : ByteArray) (tmps : Array Value), SCell W (H + 1) y → Below H w W → tmps.getD 6 undef = .pointer (some ⟨H + 1, 0, none⟩) → tmps.getD 7 undef = .int .i64 (n : Int) → apL base d most = (y.data.toList, n) →
      bodyPost Tryz.prog Tryz.f31 (fun e w' => e = .returned (.tuple #[.string ⟨(apL base d most).1.toArray⟩, .int .i64 ((apL base d most).2 : Nat)]) ∧ Below w.heap.size w w') Exit.ret { tmps := tmps, defers := [] } W := by
    intro n W y tmps h1 h2 h3 h4 h5
    refine bodyPost_ret (results2c rfl _ _ ⟨H + 1, 0, none⟩ _ h3 (loadV9 _ _ _ h1)) rfl ⟨?_, by rw [← HH.out]; exact h2⟩
    rw [h5, h4]
  have FIN := hidM fin
  clear fin
  by_cases her : er = 0
  · subst her
    by_cases ha : a = base.size
    · have ha' : (a : Int) = (base.size : Int) := by omega
      by_cases hm : most < (b : Int)
      · have HA2 := hidM (show apL base d most = ([], 2) by rw [HAP.out, if_pos rfl, if_pos ha, if_pos hm])
        clear HAP
        go_wp2
        exact FIN.out 2 _ _ _ (v1.set ⟨#[]⟩) (vB.setCell (p := ⟨H + 1, 0, none⟩) (by simp) _) rfl rfl HA2.out
      · have HA := hidM (show apL base d most = flL base d b (d.size - u) u [] by rw [HAP.out, if_pos rfl, if_pos ha, if_neg hm])
        clear HAP
        go_wp2_with fail
        obtain ⟨W, hW⟩ : ∃ W, W = (V.alloc (Obj.cells #[Value.string d, Value.int IntKind.i64 ↑u] 92)).alloc (Obj.cells #[Value.pointer (some { block := V.heap.size, off := 0 })] 90) := ⟨_, rfl⟩
        have hS := HS.out
        have w0 : SCell W H base ∧ SCell W (H + 1) ⟨#[]⟩ ∧ ICell W X (b : Int) ∧ RBox W (X + 1) d u ∧ PCell W (X + 2) (X + 1) ∧ W.heap.size = X + 3 ∧ Below H w W := by
          obtain ⟨x1, h1⟩ : ∃ x1, x1 = V.alloc (Obj.cells #[Value.string d, Value.int IntKind.i64 ↑u] 92) := ⟨_, rfl⟩
          rw [← h1] at hW
          have s1 : x1.heap.size = X + 2 := by rw [h1, alloc_size, hS]
          have s2 : W.heap.size = X + 3 := by rw [hW, alloc_size, s1]
          have a1 : x1.heap[X + 1]? = some (.cells #[.string d, .int .i64 (u : Int)] 92 (0, 0)) := by rw [h1, ← hS]; exact heap_alloc_new V _
          have a2 : W.heap[X + 2]? = some (.cells #[.pointer (some ⟨X + 1, 0, none⟩)] 90 (0, 0)) := by rw [hW, ← s1, ← hS]; exact heap_alloc_new x1 _
          have k1 : ∀ k, k < X + 1 → x1.heap[k]? = V.heap[k]? := fun k hk => by rw [h1]; exact Below.heap_alloc V _ k (by omega)
          have k2 : ∀ k, k < X + 2 → W.heap[k]? = x1.heap[k]? := fun k hk => by rw [hW]; exact Below.heap_alloc x1 _ k (by omega)
          refine ⟨v0.same ((k2 _ (by omega)).trans (k1 _ (by omega))), v1.same ((k2 _ (by omega)).trans (k1 _ (by omega))), v2.same ((k2 _ (by omega)).trans (k1 _ (by omega))), (k2 _ (by omega)).trans a1, a2, s2, ?_⟩
          rw [hW, h1]
          exact (vB.alloc (by omega) _).alloc (by rw [alloc_size]; omega) _
        obtain ⟨g0, g1, g2, g3, g4, g5, g6⟩ := w0
        rw [← hW, hS]
        clear hW v0 v1 v2 vB c0 c1 c2 f1 hS
        refine (apatt H X base d ⟨#[]⟩ u b W hs hbs bu (by omega) hXH g5 g0 g1 g2 g3 g4).mono ?_
        rintro e w2 ⟨hB2, rfl, x, x1, x2⟩
        have HB2 := hidM (g6.trans hB2)
        obtain ⟨r, hr⟩ : ∃ r, flL base d b (d.size - u) u [] = r := ⟨_, rfl⟩
        rw [hr] at x2 HA
        rw [hr]
        have HFZ := hidM (flL_err base d b (d.size - u) u [] hr)
        obtain ⟨o, er⟩ := r
        simp only at x2
        have c1 := x1.cell
        have f1 := x1.frozen
        have X1 := hidM x1
        clear hr hB2 g0 g1 g2 g3 g4 g5 g6 x1 HS
        by_cases her : er = 0
        · have hx := x2 her
          subst her hx
          clear x2
          go_wp2
          exact FIN.out 0 _ _ _ (X1.out.set _) (HB2.out.setCell (p := ⟨H + 1, 0, none⟩) (by simp) _) rfl rfl (by rw [HA.out])
        · have her' : ¬ (er : Int) = 0 := by omega
          clear x2
          go_wp2
          refine FIN.out er _ _ _ (X1.out.set ⟨#[]⟩) (HB2.out.setCell (p := ⟨H + 1, 0, none⟩) (by simp) _) rfl rfl ?_
          rw [HA.out]
          have ho : o = [] := HFZ.out her
          rw [ho]
    · have ha' : ¬ (a : Int) = (base.size : Int) := by omega
      have HA4 := hidM (show apL base d most = ([], 4) by rw [HAP.out, if_pos rfl, if_neg ha])
      clear HAP
      go_wp2
      exact FIN.out 4 _ _ _ (v1.set ⟨#[]⟩) (vB.setCell (p := ⟨H + 1, 0, none⟩) (by simp) _) rfl rfl HA4.out
  · have her' : ¬ (er : Int) = 0 := by omega
    have HA4 := hidM (show apL base d most = ([], er) by rw [HAP.out, if_neg her])
    clear HAP
    go_wp2
    exact FIN.out er _ _ _ (v1.set ⟨#[]⟩) (vB.setCell (p := ⟨H + 1, 0, none⟩) (by simp) _) rfl rfl HA4.out
end Go.Proofs.YtddoemeellbhaaaGreatDoor.Dlt
