/-
  Sizes.
-/
import Derived.Test.YtekpdnlogfaggaaDltD
namespace Go.Proofs.Ytekpdnlogfaggaa
open Go.RowKit

/-- Both sizes: the base's, what comes out, how many bytes they take, the error's number. -/
def sizesL (d : ByteArray) : Nat × Nat × Nat × Nat :=
  if (szL d 0 5 0 0).2.2 = 0 then
    if (szL d (szL d 0 5 0 0).2.1 5 0 0).2.2 = 0 then ((szL d 0 5 0 0).1, (szL d (szL d 0 5 0 0).2.1 5 0 0).1, (szL d (szL d 0 5 0 0).2.1 5 0 0).2.1, 0)
    else (0, 0, 0, (szL d (szL d 0 5 0 0).2.1 5 0 0).2.2)
  else (0, 0, 0, (szL d 0 5 0 0).2.2)
theorem szL_le (d : ByteArray) (t : Nat) : ∀ (k i n : Nat), (szL d t k i n).2.1 ≤ d.size
  | 0, i, n => by rw [szL]; split <;> exact Nat.zero_le _
  | k + 1, i, n => by
    rw [szL]
    split
    · split
      · simp only; omega
      · exact szL_le d t k _ _
    · exact Nat.zero_le _
theorem szL_lt (d : ByteArray) (t : Nat) : ∀ (k i n : Nat), n < 2 ^ (7 * i) → (szL d t k i n).1 < 2 ^ (7 * (i + k))
  | 0, i, n, _ => by rw [szL]; split <;> exact Nat.pow_pos (by decide)
  | k + 1, i, n, h => by
    rw [szL, show i + (k + 1) = (i + 1) + k by omega]
    split
    · have hq : ∀ q, q % 128 < 128 := fun q => Nat.mod_lt _ (by decide)
      have h1 := size_lt n (d[t + i].toNat % 128) i h (hq _)
      split
      · exact Nat.lt_of_lt_of_le h1 (Nat.pow_le_pow_right (by decide) (by omega))
      · exact szL_lt d t k _ _ h1
    · exact Nat.pow_pos (by decide)
theorem szL_35 (d : ByteArray) (t : Nat) : (szL d t 5 0 0).1 < 34359738368 := szL_lt d t 5 0 0 (by decide)

def ICell (w : World) (b : Nat) (x : Int) : Prop := w.heap[b]? = some (.cells #[.int .i64 x] 3 (0, 0))
theorem ICell.cell {w : World} {b : Nat} {x : Int} (h : ICell w b x) : w.cell? ⟨b, 0, none⟩ = some (.int .i64 x) := by
  rw [cell_of_row w b _ _ 3 (0, 0) h]; rfl
theorem ICell.frozen {w : World} {b : Nat} {x : Int} (h : ICell w b x) : w.frozen? ⟨b, 0, none⟩ = false := frozen_of_row w b 0 _ 3 h
theorem ICell.set {w : World} {b : Nat} {x : Int} (h : ICell w b x) (y : Int) : ICell (w.setCell ⟨b, 0, none⟩ (.int .i64 y)) b y := by
  unfold ICell
  rw [heap_setCell_same w b _ _ 3 _ h]
  rfl
theorem ICell.same {w w' : World} {b : Nat} {x : Int} (h : ICell w b x) (hh : w'.heap[b]? = w.heap[b]?) : ICell w' b x := by
  unfold ICell; rw [hh]; exact h
def PCell (w : World) (b c : Nat) : Prop := w.heap[b]? = some (.cells #[.pointer (some ⟨c, 0, none⟩)] 39 (0, 0))
theorem PCell.cell {w : World} {b c : Nat} (h : PCell w b c) : w.cell? ⟨b, 0, none⟩ = some (.pointer (some ⟨c, 0, none⟩)) := by
  rw [cell_of_row w b _ _ 39 (0, 0) h]; rfl
theorem PCell.same {w w' : World} {b c : Nat} (h : PCell w b c) (hh : w'.heap[b]? = w.heap[b]?) : PCell w' b c := by
  unfold PCell; rw [hh]; exact h

/-- What the closure of Sizes leaves behind. -/
def SzPost (H : Nat) (d : ByteArray) (w : World) (e : Ending) (w' : World) : Prop :=
  Below H w w' ∧ w'.heap.size = w.heap.size ∧ PCell w' (H + 3) (H + 2) ∧ w'.heap[H + 4]? = w.heap[H + 4]? ∧
  if (sizesL d).2.2.2 = 0 then e = .returned (.tuple #[]) ∧ ICell w' H ((sizesL d).1 : Nat) ∧ ICell w' (H + 1) ((sizesL d).2.1 : Nat) ∧ RBox w' (H + 2) d (sizesL d).2.2.1
  else e = gave (sizesL d).2.2.2 ∧ ∃ x y, ICell w' H x ∧ ICell w' (H + 1) y

set_option maxHeartbeats 1000000 in
set_option maxRecDepth 20000 in
theorem sizes1_any (H : Nat) (d : ByteArray) (w : World) (x y : Int) (hs : d.size ≤ 100000000000) (h0 : ICell w H x) (h1 : ICell w (H + 1) y) (h2 : RBox w (H + 2) d 0) (h3 : PCell w (H + 3) (H + 2)) :
    Calls Try.prog 18 #[.pointer (some ⟨H + 3, 0, none⟩), .pointer (some ⟨H, 0, none⟩), .pointer (some ⟨H + 1, 0, none⟩)] w fun e w' => SzPost H d w e w' := by
  have c3 := h3.cell
  go_enter Try.func18, Try.ntmps18
  go_wp2_with fail
  refine (size_any (H + 2) d 0 w h2 hs (Nat.zero_le _)).mono ?_
  rintro e w1 ⟨hO1, hP⟩
  have hle := szL_le d 0 5 0 0
  have hS : sizesL d = if (szL d 0 5 0 0).2.2 = 0 then
    (if (szL d (szL d 0 5 0 0).2.1 5 0 0).2.2 = 0 then ((szL d 0 5 0 0).1, (szL d (szL d 0 5 0 0).2.1 5 0 0).1, (szL d (szL d 0 5 0 0).2.1 5 0 0).2.1, 0)
    else (0, 0, 0, (szL d (szL d 0 5 0 0).2.1 5 0 0).2.2))
  else (0, 0, 0, (szL d 0 5 0 0).2.2) := rfl
  obtain ⟨r, hr⟩ : ∃ r, szL d 0 5 0 0 = r := ⟨_, rfl⟩
  rw [hr] at hP hle hS
  clear hr
  obtain ⟨a, t, er⟩ := r
  have k0 : ICell w1 H x := h0.same (hO1.block _ (by omega))
  have k1 : ICell w1 (H + 1) y := h1.same (hO1.block _ (by omega))
  have k3 : PCell w1 (H + 3) (H + 2) := h3.same (hO1.block _ (by omega))
  have k4 := hO1.block (H + 4) (by omega)
  by_cases her : er = 0
  · rw [if_pos her] at hP hS
    obtain ⟨rfl, hR1⟩ := hP
    have f0 := k0.frozen
    have g0 := k0.cell
    simp only at hR1 hle hS
    have hle2 := szL_le d t 5 0 0
    go_upto_region 1 with fail
    obtain ⟨V, hV⟩ : ∃ V, V = w1.setCell { block := H, off := 0 } (Value.int IntKind.i64 ↑a) := ⟨_, rfl⟩
    have v0 : ICell V H a := by rw [hV]; exact k0.set a
    have vb : ∀ k, k ≠ H → V.heap[k]? = w1.heap[k]? := by intro k hk; rw [hV]; exact Below.heap_setCell w1 ⟨H, 0, none⟩ _ k hk
    have v1 := k1.same (vb _ (by omega))
    have v2 := hR1.same (vb _ (by omega))
    have v3 := k3.same (vb _ (by omega))
    have v4 := (vb (H + 4) (by omega)).trans k4
    have vB : Below H w V := by rw [hV]; exact (hO1.below (B := H) (by omega)).setCell (p := ⟨H, 0, none⟩) (Nat.le_refl _) _
    have vS : V.heap.size = w.heap.size := by rw [hV, ← hO1.size]; simp [World.setCell]
    rw [← hV]
    have d3 := v3.cell
    have KK := hidM (And.intro v0 (And.intro v1 (And.intro v2 (And.intro v3 (And.intro v4 (And.intro vB vS))))))
    clear v0 v1 v3 v4 vB vS hV vb k0 k1 k3 k4 f0 g0 c3 hO1 h0 h1 h2 h3
    go_wp2_with fail
    refine (size_any (H + 2) d t V v2 hs hle).mono ?_
    rintro e w2 ⟨hO2, hP⟩
    obtain ⟨r, hr⟩ : ∃ r, szL d t 5 0 0 = r := ⟨_, rfl⟩
    rw [hr] at hP hle2 hS
    clear hr v2
    obtain ⟨a2, t2, er2⟩ := r
    obtain ⟨v0, v1, v2, v3, v4, vB, vS⟩ := KK.out
    have m0 := v0.same (hO2.block _ (by omega))
    have m1 := v1.same (hO2.block _ (by omega))
    have m3 := v3.same (hO2.block _ (by omega))
    have m4 := (hO2.block (H + 4) (by omega)).trans v4
    have mB := vB.trans (hO2.below (B := H) (by omega))
    have mS := hO2.size.trans vS
    clear v0 v1 v2 v3 v4 vB vS KK hO2
    by_cases her2 : er2 = 0
    · rw [if_pos her2] at hP hS
      obtain ⟨rfl, hR2⟩ := hP
      have f1 := m1.frozen
      have g1 := m1.cell
      have MM := hidM (And.intro m0 (And.intro m1 (And.intro m3 (And.intro m4 (And.intro mB mS)))))
      have HR2 := hidM hR2
      clear m0 m1 m3 m4 mB mS hR2 d3
      go_wp2
      go_end0
      obtain ⟨m0, m1, m3, m4, mB, mS⟩ := MM.out
      have vb : ∀ k, k ≠ H + 1 → (w2.setCell { block := H + 1, off := 0 } (Value.int IntKind.i64 ↑a2)).heap[k]? = w2.heap[k]? := fun k hk => Below.heap_setCell w2 ⟨H + 1, 0, none⟩ _ k hk
      refine ⟨mB.setCell (p := ⟨H + 1, 0, none⟩) (by simp) _, by rw [← mS]; simp [World.setCell], m3.same (vb _ (by omega)), (vb _ (by omega)).trans m4, ?_⟩
      rw [hS]
      exact (if_pos rfl).mpr ⟨rfl, m0.same (vb _ (by omega)), m1.set _, HR2.out.same (vb _ (by omega))⟩
    · rw [if_neg her2] at hP hS
      subst hP
      have MM := hidM (And.intro m0 (And.intro m1 (And.intro m3 (And.intro m4 (And.intro mB mS)))))
      clear m0 m1 m3 m4 mB mS d3
      unfold gave
      go_wp2
      obtain ⟨m0, m1, m3, m4, mB, mS⟩ := MM.out
      refine ⟨rfl, mB, mS, m3, m4, ?_⟩
      rw [hS]
      exact (if_neg her2).mpr ⟨rfl, _, _, m0, m1⟩
  · rw [if_neg her] at hP hS
    subst hP
    have K := hidM (And.intro k0 (And.intro k1 (And.intro k3 k4)))
    have O1 := hidM hO1
    clear hO1 k0 k1 k3 k4 c3
    unfold gave
    go_wp2
    refine ⟨rfl, O1.out.below (by omega), O1.out.size, K.out.2.2.1, K.out.2.2.2, ?_⟩
    rw [hS]
    exact (if_neg her).mpr ⟨rfl, x, y, K.out.1, K.out.2.1⟩

/-- What attempt leaves behind at the closure of Sizes. -/
def SzPost2 (H : Nat) (d : ByteArray) (w : World) (e : Ending) (w' : World) : Prop :=
  Below H w w' ∧ e = .returned (.int .i64 ((sizesL d).2.2.2 : Nat)) ∧ PCell w' (H + 3) (H + 2) ∧
  if (sizesL d).2.2.2 = 0 then ICell w' H ((sizesL d).1 : Nat) ∧ ICell w' (H + 1) ((sizesL d).2.1 : Nat) ∧ RBox w' (H + 2) d (sizesL d).2.2.1
  else ∃ x y, ICell w' H x ∧ ICell w' (H + 1) y
theorem enters18 : ∀ args w, (callFunc 18 args).run Try.prog w = .ok (.enter 18 args) w := enters_of Try.func18 (by kernel_rfl) rfl
theorem szatt (H : Nat) (d : ByteArray) (w : World) (hs : d.size ≤ 100000000000) (hH : w.heap.size = H + 4) (h0 : ICell w H 0) (h1 : ICell w (H + 1) 0) (h2 : RBox w (H + 2) d 0) (h3 : PCell w (H + 3) (H + 2)) :
    Calls Try.prog 15 #[.func (.func 18) #[] #[.pointer (some ⟨H + 3, 0, none⟩), .pointer (some ⟨H, 0, none⟩), .pointer (some ⟨H + 1, 0, none⟩)]] w fun e w' => SzPost2 H d w e w' := by
  have al : ∀ k, k < w.heap.size → (w.alloc (.cells #[.int .i64 0] 23)).heap[k]? = w.heap[k]? := fun k hk => Below.heap_alloc w _ k hk
  have nw : (w.alloc (.cells #[.int .i64 0] 23)).heap[w.heap.size]? = some (.cells #[.int .i64 0] 23 (0, 0)) := heap_alloc_new w _
  have hb := (Below.refl H w).alloc (by omega) (.cells #[.int .i64 0] 23)
  have main := sizes1_any H d (w.alloc (.cells #[.int .i64 0] 23)) 0 0 hs (h0.same (al _ (by omega))) (h1.same (al _ (by omega))) (h2.same (al _ (by omega))) (h3.same (al _ (by omega)))
  by_cases he : (sizesL d).2.2.2 = 0
  · refine (attempt_ok 18 _ w (fun w' => Below H w w' ∧ PCell w' (H + 3) (H + 2) ∧ ICell w' H ((sizesL d).1 : Nat) ∧ ICell w' (H + 1) ((sizesL d).2.1 : Nat) ∧ RBox w' (H + 2) d (sizesL d).2.2.1) enters18 (main.mono ?_)).mono ?_
    · rintro e w' ⟨q1', q2', q3', q4', q5'⟩
      rw [if_pos he] at q5'
      exact ⟨q5'.1, by rw [hH, q4', ← hH]; exact nw, hb.trans q1', q3', q5'.2.1, q5'.2.2.1, q5'.2.2.2⟩
    · rintro e w' ⟨rfl, w1, ⟨g1, g2, g3, g4, g5⟩, rfl⟩
      have vb : ∀ k, k ≠ w.heap.size → (w1.setCell { block := w.heap.size, off := 0 } (Value.int IntKind.i64 0)).heap[k]? = w1.heap[k]? := fun k hk => Below.heap_setCell w1 ⟨w.heap.size, 0, none⟩ _ k hk
      refine ⟨g1.setCell (p := ⟨w.heap.size, 0, none⟩) (by simp; omega) _, by rw [he]; rfl, g2.same (vb _ (by omega)), ?_⟩
      rw [if_pos he]
      exact ⟨g3.same (vb _ (by omega)), g4.same (vb _ (by omega)), g5.same (vb _ (by omega))⟩
  · refine (attempt_gave 18 _ (sizesL d).2.2.2 w (fun w' => Below H w w' ∧ PCell w' (H + 3) (H + 2) ∧ ∃ x y, ICell w' H x ∧ ICell w' (H + 1) y) enters18 (main.mono ?_)).mono ?_
    · rintro e w' ⟨q1', q2', q3', q4', q5'⟩
      rw [if_neg he] at q5'
      exact ⟨q5'.1, by rw [hH, q4', ← hH]; exact nw, hb.trans q1', q3', q5'.2⟩
    · rintro e w' ⟨rfl, w1, ⟨g1, g2, x, y, g3, g4⟩, hlt, rfl⟩
      have vb : ∀ k, k < w.heap.size → ((w1.alloc (.cells #[.int .i64 ((sizesL d).2.2.2 : Int)] 56)).setCell ⟨w.heap.size, 0, none⟩ (.int .i64 ((sizesL d).2.2.2 : Int))).heap[k]? = w1.heap[k]? := fun k hk =>
        (Below.heap_setCell _ ⟨w.heap.size, 0, none⟩ _ k (by simp; omega)).trans (Below.heap_alloc w1 _ k (by omega))
      refine ⟨(g1.alloc (by omega) _).setCell (p := ⟨w.heap.size, 0, none⟩) (by simp; omega) _, rfl, g2.same (vb _ (by omega)), ?_⟩
      rw [if_neg he]
      exact ⟨x, y, g3.same (vb _ (by omega)), g4.same (vb _ (by omega))⟩

theorem alloc_size (w : World) (o : Obj) : (w.alloc o).heap.size = w.heap.size + 1 := by simp [go_sem]
theorem four (w : World) (d : ByteArray) :
    let V := ((((w.alloc (Obj.cells #[Value.int IntKind.i64 0] 3)).alloc (Obj.cells #[Value.int IntKind.i64 0] 3)).alloc
          (Obj.cells #[Value.string d, Value.int IntKind.i64 0] 41)).alloc
      (Obj.cells #[Value.pointer (some { block := w.heap.size + 1 + 1, off := 0 })] 39))
    ICell V w.heap.size 0 ∧ ICell V (w.heap.size + 1) 0 ∧ RBox V (w.heap.size + 2) d 0 ∧ PCell V (w.heap.size + 3) (w.heap.size + 2) ∧ V.heap.size = w.heap.size + 4 ∧ Below w.heap.size w V := by
  intro V
  obtain ⟨w1, h1⟩ : ∃ w1, w1 = w.alloc (Obj.cells #[Value.int IntKind.i64 0] 3) := ⟨_, rfl⟩
  obtain ⟨w2, h2⟩ : ∃ w2, w2 = w1.alloc (Obj.cells #[Value.int IntKind.i64 0] 3) := ⟨_, rfl⟩
  obtain ⟨w3, h3⟩ : ∃ w3, w3 = w2.alloc (Obj.cells #[Value.string d, Value.int IntKind.i64 0] 41) := ⟨_, rfl⟩
  obtain ⟨w4, h4⟩ : ∃ w4, w4 = w3.alloc (Obj.cells #[Value.pointer (some { block := w.heap.size + 1 + 1, off := 0 })] 39) := ⟨_, rfl⟩
  have hV : V = w4 := by rw [h4, h3, h2, h1]
  have s1 : w1.heap.size = w.heap.size + 1 := by rw [h1]; exact alloc_size _ _
  have s2 : w2.heap.size = w.heap.size + 2 := by rw [h2, alloc_size, s1]
  have s3 : w3.heap.size = w.heap.size + 3 := by rw [h3, alloc_size, s2]
  have s4 : w4.heap.size = w.heap.size + 4 := by rw [h4, alloc_size, s3]
  have a1 : w1.heap[w.heap.size]? = some (.cells #[.int .i64 0] 3 (0, 0)) := by rw [h1]; exact heap_alloc_new w _
  have a2 : w2.heap[w.heap.size + 1]? = some (.cells #[.int .i64 0] 3 (0, 0)) := by rw [h2, ← s1]; exact heap_alloc_new w1 _
  have a3 : w3.heap[w.heap.size + 2]? = some (.cells #[.string d, .int .i64 0] 41 (0, 0)) := by rw [h3, ← s2]; exact heap_alloc_new w2 _
  have a4 : w4.heap[w.heap.size + 3]? = some (.cells #[.pointer (some ⟨w.heap.size + 2, 0, none⟩)] 39 (0, 0)) := by rw [h4, ← s3]; exact heap_alloc_new w3 _
  have k2 : ∀ k, k < w.heap.size + 1 → w2.heap[k]? = w1.heap[k]? := fun k hk => by rw [h2]; exact Below.heap_alloc w1 _ k (by omega)
  have k3 : ∀ k, k < w.heap.size + 2 → w3.heap[k]? = w2.heap[k]? := fun k hk => by rw [h3]; exact Below.heap_alloc w2 _ k (by omega)
  have k4 : ∀ k, k < w.heap.size + 3 → w4.heap[k]? = w3.heap[k]? := fun k hk => by rw [h4]; exact Below.heap_alloc w3 _ k (by omega)
  rw [hV]
  refine ⟨?_, ?_, ?_, a4, s4, ?_⟩
  · unfold ICell; rw [k4 _ (by omega), k3 _ (by omega), k2 _ (by omega)]; exact a1
  · unfold ICell; rw [k4 _ (by omega), k3 _ (by omega)]; exact a2
  · unfold RBox; rw [k4 _ (by omega)]; exact a3
  · rw [h4, h3, h2, h1]
    exact ((((Below.refl w.heap.size w).alloc (Nat.le_refl _) _).alloc (by rw [alloc_size]; omega) _).alloc (by rw [alloc_size, alloc_size]; omega) _).alloc (by rw [alloc_size, alloc_size, alloc_size]; omega) _

theorem sizesL_zero (d : ByteArray) {a b u er : Nat} (h : sizesL d = (a, b, u, er)) (he : ¬ er = 0) : a = 0 ∧ b = 0 ∧ u = 0 := by
  unfold sizesL at h
  split at h
  · split at h
    · simp only [Prod.mk.injEq] at h; omega
    · simp only [Prod.mk.injEq] at h; omega
  · simp only [Prod.mk.injEq] at h; omega
theorem loadV3 (w : World) (b : Nat) (x : Int) (h : ICell w b x) : (loadVar 3 ⟨b, 0, none⟩).run Try.prog w = .ok (.int .i64 x) w := by
  have hc := h.cell
  simp [loadVar, go_sem, hc]
theorem results4 {fn : Func} {p q u v : Tmp} {ty tz : TypeId} {P : Program} (h : fn.results = #[.cell p ty, .cell q tz, .tmp u, .tmp v]) (tmps : Array Value) (w : World) (a b : Addr) (x y : Value)
    (hp : tmps.getD p undef = .pointer (some a)) (hq : tmps.getD q undef = .pointer (some b)) (hx : (loadVar ty a).run P w = .ok x w) (hy : (loadVar tz b).run P w = .ok y w) :
    (results fn tmps).run P w = .ok (.tuple #[x, y, tmps.getD u undef, tmps.getD v undef]) w := by
  simp only [results, h]
  have hp' : tmps[p]?.getD undef = .pointer (some a) := by simpa using hp
  have hq' : tmps[q]?.getD undef = .pointer (some b) := by simpa using hq
  simp [Sem.run_bind, Result.andThen, hp', hq', asAddr, hx, hy]

set_option maxHeartbeats 2000000 in
set_option maxRecDepth 20000 in
theorem sizes_any (d : ByteArray) (w : World) (hs : d.size ≤ 100000000000) :
    Calls Try.prog 11 #[.string d] w fun e w' => e = .returned (.tuple #[.int .i64 ((sizesL d).1 : Nat), .int .i64 ((sizesL d).2.1 : Nat), .int .i64 ((sizesL d).2.2.1 : Nat), .int .i64 ((sizesL d).2.2.2 : Nat)]) ∧ Below w.heap.size w w' := by
  have hmf : ∀ (fn : Fn) (first cap : Array Value) (w : World), (Instr.makeFunc fn first cap).run Try.prog w = .ok (.func fn first cap) w := fun _ _ _ _ => rfl
  obtain ⟨H, hH⟩ : ∃ H, H = w.heap.size := ⟨_, rfl⟩
  go_enter Try.func11, Try.ntmps11
  go_wp2_with fail
  obtain ⟨V, hV⟩ : ∃ V, V = ((((w.alloc (Obj.cells #[Value.int IntKind.i64 0] 3)).alloc (Obj.cells #[Value.int IntKind.i64 0] 3)).alloc
          (Obj.cells #[Value.string d, Value.int IntKind.i64 0] 41)).alloc
      (Obj.cells #[Value.pointer (some { block := w.heap.size + 1 + 1, off := 0 })] 39)) := ⟨_, rfl⟩
  have v0 : ICell V H 0 ∧ ICell V (H + 1) 0 ∧ RBox V (H + 2) d 0 ∧ PCell V (H + 3) (H + 2) ∧ V.heap.size = H + 4 ∧ Below H w V := by
    subst hV hH
    exact four w d
  obtain ⟨v0, v1, v2, v3, v4, v5⟩ := v0
  rw [← hV, ← hH]
  refine (szatt H d V hs v4 v0 v1 v2 v3).mono ?_
  rintro e w1 ⟨hB, rfl, hp, hr⟩
  have HB := hidM (v5.trans hB)
  have HHH := hidM hH
  have p3 := hp.cell
  clear v0 v1 v2 v3 v4 v5 hV hB hH
  obtain ⟨r, hrr⟩ : ∃ r, sizesL d = r := ⟨_, rfl⟩
  rw [hrr] at hr
  rw [hrr]
  have HR := hrr
  clear hrr
  obtain ⟨a, b, u, er⟩ := r
  simp only at hr
  by_cases he : er = 0
  · rw [if_pos he] at hr
    subst he
    obtain ⟨h0, h1, h2⟩ := hr
    have c0 := h0.cell
    have c1 := h1.cell
    have c2 := h2.taken
    have f0 := h0.frozen
    have f1 := h1.frozen
    go_wp2
    go_region
    go_wp2
    have z0 : ICell ((w1.setCell { block := H, off := 0 } (Value.int IntKind.i64 ↑a)).setCell { block := H + 1, off := 0 } (Value.int IntKind.i64 ↑b)).drew H a :=
      (h0.set (a : Int)).same (Below.heap_setCell _ ⟨H + 1, 0, none⟩ _ H (by simp))
    have z1 : ICell ((w1.setCell { block := H, off := 0 } (Value.int IntKind.i64 ↑a)).setCell { block := H + 1, off := 0 } (Value.int IntKind.i64 ↑b)).drew (H + 1) b :=
      ICell.set (h1.same (Below.heap_setCell _ ⟨H, 0, none⟩ _ (H + 1) (by simp))) (b : Int)
    have zB : Below w.heap.size w ((w1.setCell { block := H, off := 0 } (Value.int IntKind.i64 ↑a)).setCell { block := H + 1, off := 0 } (Value.int IntKind.i64 ↑b)).drew := by
      rw [← HHH.out]
      exact ((HB.out.setCell (p := ⟨H, 0, none⟩) (Nat.le_refl _) _).setCell (p := ⟨H + 1, 0, none⟩) (by simp) _).drew
    rw [HR]
    exact bodyPost_ret (results4 rfl _ _ ⟨H, 0, none⟩ ⟨H + 1, 0, none⟩ _ _ rfl rfl (loadV3 _ _ _ z0) (loadV3 _ _ _ z1)) rfl ⟨rfl, zB⟩
  · rw [if_neg he] at hr
    obtain ⟨x, y, h0, h1⟩ := hr
    have c0 := h0.cell
    have c1 := h1.cell
    have f0 := h0.frozen
    have f1 := h1.frozen
    have he' : ¬ (er : Int) = 0 := by omega
    go_wp2
    have z0 : ICell ((w1.setCell { block := H, off := 0 } (Value.int IntKind.i64 0)).setCell { block := H + 1, off := 0 } (Value.int IntKind.i64 0)) H 0 :=
      (h0.set 0).same (Below.heap_setCell _ ⟨H + 1, 0, none⟩ _ H (by simp))
    have z1 : ICell ((w1.setCell { block := H, off := 0 } (Value.int IntKind.i64 0)).setCell { block := H + 1, off := 0 } (Value.int IntKind.i64 0)) (H + 1) 0 :=
      ICell.set (h1.same (Below.heap_setCell _ ⟨H, 0, none⟩ _ (H + 1) (by simp))) 0
    have zB : Below w.heap.size w ((w1.setCell { block := H, off := 0 } (Value.int IntKind.i64 0)).setCell { block := H + 1, off := 0 } (Value.int IntKind.i64 0)) := by
      rw [← HHH.out]
      exact (HB.out.setCell (p := ⟨H, 0, none⟩) (Nat.le_refl _) _).setCell (p := ⟨H + 1, 0, none⟩) (by simp) _
    have hz : a = 0 ∧ b = 0 ∧ u = 0 := sizesL_zero d HR he
    obtain ⟨rfl, rfl, rfl⟩ := hz
    rw [HR]
    exact bodyPost_ret (results4 rfl _ _ ⟨H, 0, none⟩ ⟨H + 1, 0, none⟩ _ _ rfl rfl (loadV3 _ _ _ z0) (loadV3 _ _ _ z1)) rfl ⟨rfl, zB⟩
end Go.Proofs.Ytekpdnlogfaggaa
