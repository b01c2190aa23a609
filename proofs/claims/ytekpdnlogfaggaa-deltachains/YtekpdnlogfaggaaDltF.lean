/-
  Apply.
-/
import Derived.Test.YtekpdnlogfaggaaDltE
namespace Go.Proofs.Ytekpdnlogfaggaa
open Go.RowKit

/-- What a delta makes of its base, and the error's number. -/
def apL (base d : ByteArray) (most : Int) : List UInt8 × Nat :=
  if (sizesL d).2.2.2 = 0 then
    if (sizesL d).1 = base.size then
      if most < ((sizesL d).2.1 : Int) then ([], 2) else flL base d (sizesL d).2.1 (d.size - (sizesL d).2.2.1) (sizesL d).2.2.1 []
    else ([], 4)
  else ([], (sizesL d).2.2.2)

def SCell (w : World) (b : Nat) (x : ByteArray) : Prop := w.heap[b]? = some (.cells #[.string x] 9 (0, 0))
theorem SCell.cell {w : World} {b : Nat} {x : ByteArray} (h : SCell w b x) : w.cell? ⟨b, 0, none⟩ = some (.string x) := by
  rw [cell_of_row w b _ _ 9 (0, 0) h]; rfl
theorem SCell.frozen {w : World} {b : Nat} {x : ByteArray} (h : SCell w b x) : w.frozen? ⟨b, 0, none⟩ = false := frozen_of_row w b 0 _ 9 h
theorem SCell.set {w : World} {b : Nat} {x : ByteArray} (h : SCell w b x) (y : ByteArray) : SCell (w.setCell ⟨b, 0, none⟩ (.string y)) b y := by
  unfold SCell
  rw [heap_setCell_same w b _ _ 9 _ h]
  rfl
theorem SCell.same {w w' : World} {b : Nat} {x : ByteArray} (h : SCell w b x) (hh : w'.heap[b]? = w.heap[b]?) : SCell w' b x := by
  unfold SCell; rw [hh]; exact h
theorem loadV9 (w : World) (b : Nat) (x : ByteArray) (h : SCell w b x) : (loadVar 9 ⟨b, 0, none⟩).run Try.prog w = .ok (.string x) w := by
  have hc := h.cell
  simp [loadVar, go_sem, hc]
theorem results2c {fn : Func} {p u : Tmp} {ty : TypeId} {P : Program} (h : fn.results = #[.cell p ty, .tmp u]) (tmps : Array Value) (w : World) (a : Addr) (x : Value)
    (hp : tmps.getD p undef = .pointer (some a)) (hx : (loadVar ty a).run P w = .ok x w) :
    (results fn tmps).run P w = .ok (.tuple #[x, tmps.getD u undef]) w := by
  rw [results_cell_tmp h, hp]
  simp [asAddr, hx, Result.andThen]

/-- What the closure of Apply leaves behind. -/
def ApPost (H X : Nat) (r : List UInt8 × Nat) (w : World) (e : Ending) (w' : World) : Prop :=
  Below H w w' ∧ w'.heap[X + 3]? = w.heap[X + 3]? ∧
  if r.2 = 0 then e = .returned (.tuple #[]) ∧ SCell w' (H + 1) ⟨r.1.toArray⟩ else e = gave r.2 ∧ ∃ x, SCell w' (H + 1) x

set_option maxHeartbeats 1000000 in
set_option maxRecDepth 20000 in
theorem ap1_any (H X : Nat) (base d x : ByteArray) (t size : Nat) (w : World) (hs : d.size ≤ 1000000) (hbs : base.size ≤ 1000000) (ht : t ≤ d.size) (hz : size ≤ 100000000000) (hX : H + 2 ≤ X) (hw : X + 3 < w.heap.size)
    (h0 : SCell w H base) (h1 : SCell w (H + 1) x) (h2 : ICell w X (size : Int)) (h3 : RBox w (X + 1) d t) (h4 : PCell w (X + 2) (X + 1)) :
    Calls Try.prog 16 #[.pointer (some ⟨X + 2, 0, none⟩), .pointer (some ⟨H, 0, none⟩), .pointer (some ⟨X, 0, none⟩), .pointer (some ⟨H + 1, 0, none⟩)] w fun e w' => ApPost H X (flL base d size (d.size - t) t []) w e w' := by
  have c0 := h0.cell
  have c2 := h2.cell
  have c4 := h4.cell
  go_enter Try.func16, Try.ntmps16
  go_wp2_with fail
  refine (follow_any (X + 1) base d t size w h3 hs hbs ht hz).mono ?_
  rintro e w1 ⟨hO1, hP⟩
  obtain ⟨r, hr⟩ : ∃ r, flL base d size (d.size - t) t [] = r := ⟨_, rfl⟩
  rw [hr] at hP
  have HR := hidM hr
  clear hr
  obtain ⟨o, er⟩ := r
  have k1 : SCell w1 (H + 1) x := h1.same (hO1.block _ (by omega) (by omega))
  have k4 := hO1.block (X + 3) (by omega) (by omega)
  have kB := hO1.below (C := H) (by omega) (by omega)
  clear hO1 h0 h1 h2 h3 h4 c0 c2 c4
  by_cases her : er = 0
  · rw [if_pos her] at hP
    subst hP
    have f1 := k1.frozen
    have g1 := k1.cell
    have KK := hidM (And.intro k1 (And.intro k4 kB))
    clear k1 k4 kB
    go_wp2
    go_end0
    obtain ⟨k1, k4, kB⟩ := KK.out
    refine ⟨kB.setCell (p := ⟨H + 1, 0, none⟩) (by simp) _, (Below.heap_setCell w1 ⟨H + 1, 0, none⟩ _ (X + 3) (by simp; omega)).trans k4, ?_⟩
    rw [HR.out, if_pos her]
    exact ⟨rfl, k1.set _⟩
  · rw [if_neg her] at hP
    subst hP
    have KK := hidM (And.intro k1 (And.intro k4 kB))
    clear k1 k4 kB
    unfold gave
    go_wp2
    obtain ⟨k1, k4, kB⟩ := KK.out
    refine ⟨rfl, kB, k4, ?_⟩
    rw [HR.out, if_neg her]
    exact ⟨rfl, x, k1⟩

/-- What attempt leaves behind at the closure of Apply. -/
def ApPost2 (H : Nat) (r : List UInt8 × Nat) (w : World) (e : Ending) (w' : World) : Prop :=
  Below H w w' ∧ e = .returned (.int .i64 (r.2 : Int)) ∧ ∃ x, SCell w' (H + 1) x ∧ (r.2 = 0 → x = ⟨r.1.toArray⟩)
theorem enters16 : ∀ args w, (callFunc 16 args).run Try.prog w = .ok (.enter 16 args) w := enters_of Try.func16 (by kernel_rfl) rfl
theorem apatt (H X : Nat) (base d x : ByteArray) (t size : Nat) (w : World) (hs : d.size ≤ 1000000) (hbs : base.size ≤ 1000000) (ht : t ≤ d.size) (hz : size ≤ 100000000000) (hX : H + 2 ≤ X) (hw : w.heap.size = X + 3)
    (h0 : SCell w H base) (h1 : SCell w (H + 1) x) (h2 : ICell w X (size : Int)) (h3 : RBox w (X + 1) d t) (h4 : PCell w (X + 2) (X + 1)) :
    Calls Try.prog 15 #[.func (.func 16) #[] #[.pointer (some ⟨X + 2, 0, none⟩), .pointer (some ⟨H, 0, none⟩), .pointer (some ⟨X, 0, none⟩), .pointer (some ⟨H + 1, 0, none⟩)]] w fun e w' => ApPost2 H (flL base d size (d.size - t) t []) w e w' := by
  have al : ∀ k, k < w.heap.size → (w.alloc (.cells #[.int .i64 0] 23)).heap[k]? = w.heap[k]? := fun k hk => Below.heap_alloc w _ k hk
  have nw : (w.alloc (.cells #[.int .i64 0] 23)).heap[w.heap.size]? = some (.cells #[.int .i64 0] 23 (0, 0)) := heap_alloc_new w _
  have hb := (Below.refl H w).alloc (by omega) (.cells #[.int .i64 0] 23)
  have main := ap1_any H X base d x t size (w.alloc (.cells #[.int .i64 0] 23)) hs hbs ht hz hX (by rw [alloc_size]; omega) (h0.same (al _ (by omega))) (h1.same (al _ (by omega))) (h2.same (al _ (by omega))) (h3.same (al _ (by omega))) (h4.same (al _ (by omega)))
  generalize flL base d size (d.size - t) t [] = r at *
  by_cases he : r.2 = 0
  · refine (attempt_ok 16 _ w (fun w' => Below H w w' ∧ SCell w' (H + 1) ⟨r.1.toArray⟩) enters16 (main.mono ?_)).mono ?_
    · rintro e w' ⟨q1', q4', q5'⟩
      rw [if_pos he] at q5'
      exact ⟨q5'.1, by rw [hw, q4', ← hw]; exact nw, hb.trans q1', q5'.2⟩
    · rintro e w' ⟨rfl, w1, ⟨g1, g2⟩, rfl⟩
      exact ⟨g1.setCell (p := ⟨w.heap.size, 0, none⟩) (by simp; omega) _, by rw [he]; rfl, _, g2.same (Below.heap_setCell w1 ⟨w.heap.size, 0, none⟩ _ _ (by simp; omega)), fun _ => rfl⟩
  · refine (attempt_gave 16 _ r.2 w (fun w' => Below H w w' ∧ ∃ x, SCell w' (H + 1) x) enters16 (main.mono ?_)).mono ?_
    · rintro e w' ⟨q1', q4', q5'⟩
      rw [if_neg he] at q5'
      exact ⟨q5'.1, by rw [hw, q4', ← hw]; exact nw, hb.trans q1', q5'.2⟩
    · rintro e w' ⟨rfl, w1, ⟨g1, x, g2⟩, hlt, rfl⟩
      refine ⟨(g1.alloc (by omega) _).setCell (p := ⟨w.heap.size, 0, none⟩) (by simp; omega) _, rfl, x, g2.same ?_, fun h => absurd h he⟩
      exact (Below.heap_setCell _ ⟨w.heap.size, 0, none⟩ _ _ (by simp; omega)).trans (Below.heap_alloc w1 _ _ (by omega))

theorem sizesL_bounds (d : ByteArray) : (sizesL d).1 < 34359738368 ∧ (sizesL d).2.1 < 34359738368 ∧ (sizesL d).2.2.1 ≤ d.size := by
  have h1 := szL_35 d 0
  have h2 := szL_35 d (szL d 0 5 0 0).2.1
  have h3 := szL_le d (szL d 0 5 0 0).2.1 5 0 0
  unfold sizesL
  split
  · split
    · exact ⟨h1, h2, h3⟩
    · exact ⟨(by decide : 0 < 34359738368), (by decide : 0 < 34359738368), Nat.zero_le _⟩
  · exact ⟨(by decide : 0 < 34359738368), (by decide : 0 < 34359738368), Nat.zero_le _⟩

theorem flL_err (base s : ByteArray) (size : Nat) : ∀ (k t : Nat) (out : List UInt8) {r : List UInt8 × Nat}, flL base s size k t out = r → ¬ r.2 = 0 → r.1 = []
  | 0, t, out, r => by
    rw [flL]; intro h; subst h
    split
    · intro _; rfl
    · intro h; exact absurd rfl h
  | k + 1, t, out, r => by
    rw [flL]; intro h; subst h
    split
    · split
      · split
        · intro _; rfl
        · intro h; exact flL_err base s size k _ _ rfl h
      · intro _; rfl
    · split
      · intro _; rfl
      · intro h; exact absurd rfl h

set_option maxHeartbeats 2000000 in
set_option maxRecDepth 20000 in
theorem apply_any (base d : ByteArray) (most : Int) (w : World) (hs : d.size ≤ 1000000) (hbs : base.size ≤ 1000000) :
    Calls Try.prog 9 #[.string base, .string d, .int .i64 most] w fun e w' => e = .returned (.tuple #[.string ⟨(apL base d most).1.toArray⟩, .int .i64 ((apL base d most).2 : Nat)]) ∧ Below w.heap.size w w' := by
  have hmf : ∀ (fn : Fn) (first cap : Array Value) (w : World), (Instr.makeFunc fn first cap).run Try.prog w = .ok (.func fn first cap) w := fun _ _ _ _ => rfl
  obtain ⟨H, hH⟩ : ∃ H, H = w.heap.size := ⟨_, rfl⟩
  go_enter Try.func9, Try.ntmps9
  go_wp2_with fail
  refine (sizes_any d _ (by omega)).mono ?_
  rintro e w1 ⟨rfl, hB1⟩
  have hap : apL base d most = if (sizesL d).2.2.2 = 0 then
    (if (sizesL d).1 = base.size then
      (if most < ((sizesL d).2.1 : Int) then ([], 2) else flL base d (sizesL d).2.1 (d.size - (sizesL d).2.2.1) (sizesL d).2.2.1 [])
    else ([], 4))
  else ([], (sizesL d).2.2.2) := rfl
  have hbd := sizesL_bounds d
  obtain ⟨r, hr⟩ : ∃ r, sizesL d = r := ⟨_, rfl⟩
  rw [hr] at hap hbd
  rw [hr]
  clear hr
  obtain ⟨a, b, u, er⟩ := r
  obtain ⟨ba, bb, bu⟩ := hbd
  simp only at hap ba bb bu
  have w0 : SCell w1 H base ∧ SCell w1 (H + 1) ⟨#[]⟩ ∧ Below H w w1 ∧ H + 2 ≤ w1.heap.size := by
    obtain ⟨x1, h1⟩ : ∃ x1, x1 = w.alloc (Obj.cells #[Value.string base] 9) := ⟨_, rfl⟩
    obtain ⟨x2, h2⟩ : ∃ x2, x2 = x1.alloc (Obj.cells #[Value.string { data := #[] }] 9) := ⟨_, rfl⟩
    rw [← h1, ← h2] at hB1
    have s1 : x1.heap.size = H + 1 := by rw [h1, hH]; exact alloc_size _ _
    have s2 : x2.heap.size = H + 2 := by rw [h2, alloc_size, s1]
    have a1 : x1.heap[H]? = some (.cells #[.string base] 9 (0, 0)) := by rw [h1, hH]; exact heap_alloc_new w _
    have a2 : x2.heap[H + 1]? = some (.cells #[.string ⟨#[]⟩] 9 (0, 0)) := by rw [h2, ← s1]; exact heap_alloc_new x1 _
    have k2 : x2.heap[H]? = x1.heap[H]? := by rw [h2]; exact Below.heap_alloc x1 _ H (by omega)
    rw [s2] at hB1
    refine ⟨(hB1.block _ (by omega)).trans (k2.trans a1), (hB1.block _ (by omega)).trans a2, ?_, by have := hB1.size; omega⟩
    have e0 : Below H w x2 := by
      rw [h2, h1]
      exact ((Below.refl H w).alloc (by omega) _).alloc (by rw [alloc_size]; omega) _
    exact e0.trans (hB1.mono (by omega))
  obtain ⟨s0, s1, sB, sS⟩ := w0
  have HH := hidM hH
  rw [← hH]
  clear hB1 hH
  go_upto_region 2 with fail
  obtain ⟨X, hX⟩ : ∃ X, X = w1.heap.size := ⟨_, rfl⟩
  obtain ⟨V, hV⟩ : ∃ V, V = w1.alloc (Obj.cells #[Value.int IntKind.i64 ↑b] 3) := ⟨_, rfl⟩
  have v0 : SCell V H base := s0.same (by rw [hV]; exact Below.heap_alloc w1 _ _ (by omega))
  have v1 : SCell V (H + 1) ⟨#[]⟩ := s1.same (by rw [hV]; exact Below.heap_alloc w1 _ _ (by omega))
  have v2 : ICell V X (b : Int) := by unfold ICell; rw [hV, hX]; exact heap_alloc_new w1 _
  have vB : Below H w V := by rw [hV]; exact sB.alloc (by omega) _
  have vS : V.heap.size = X + 1 := by rw [hV, hX]; exact alloc_size _ _
  have hXH : H + 2 ≤ X := by omega
  rw [← hV, ← hX]
  clear hV hX s0 s1 sB sS
  have c0 := v0.cell
  have c1 := v1.cell
  have c2 := v2.cell
  have f1 := v1.frozen
  have HS := hidM vS
  have HAP := hidM hap
  clear vS hap
  have fin : ∀ (n : Nat) (W : World) (y : ByteArray) (tmps : Array Value), SCell W (H + 1) y → Below H w W → tmps.getD 6 undef = .pointer (some ⟨H + 1, 0, none⟩) → tmps.getD 7 undef = .int .i64 (n : Int) → apL base d most = (y.data.toList, n) →
      bodyPost Try.prog Try.f9 (fun e w' => e = .returned (.tuple #[.string ⟨(apL base d most).1.toArray⟩, .int .i64 ((apL base d most).2 : Nat)]) ∧ Below w.heap.size w w') Exit.ret { tmps := tmps, defers := [] } W := by
    intro n W y tmps h1 h2 h3 h4 h5
    refine bodyPost_ret (results2c rfl _ _ ⟨H + 1, 0, none⟩ _ h3 (loadV9 _ _ _ h1)) rfl ⟨?_, by rw [← HH.out]; exact h2⟩
    rw [h5, h4]
  have FIN := hidM fin
  clear fin
  by_cases her : er = 0
  · subst her
    by_cases ha : a = base.size
    · have ha' : (a : Int) = (base.size : Int) := by omega
      by_cases hm : most < (b : Int)
      · have HA2 := hidM (show apL base d most = ([], 2) by rw [HAP.out, if_pos rfl, if_pos ha, if_pos hm])
        clear HAP
        go_wp2
        exact FIN.out 2 _ _ _ (v1.set ⟨#[]⟩) (vB.setCell (p := ⟨H + 1, 0, none⟩) (by simp) _) rfl rfl HA2.out
      · have HA := hidM (show apL base d most = flL base d b (d.size - u) u [] by rw [HAP.out, if_pos rfl, if_pos ha, if_neg hm])
        clear HAP
        go_wp2_with fail
        obtain ⟨W, hW⟩ : ∃ W, W = (V.alloc (Obj.cells #[Value.string d, Value.int IntKind.i64 ↑u] 41)).alloc (Obj.cells #[Value.pointer (some { block := V.heap.size, off := 0 })] 39) := ⟨_, rfl⟩
        have hS := HS.out
        have w0 : SCell W H base ∧ SCell W (H + 1) ⟨#[]⟩ ∧ ICell W X (b : Int) ∧ RBox W (X + 1) d u ∧ PCell W (X + 2) (X + 1) ∧ W.heap.size = X + 3 ∧ Below H w W := by
          obtain ⟨x1, h1⟩ : ∃ x1, x1 = V.alloc (Obj.cells #[Value.string d, Value.int IntKind.i64 ↑u] 41) := ⟨_, rfl⟩
          rw [← h1] at hW
          have s1 : x1.heap.size = X + 2 := by rw [h1, alloc_size, hS]
          have s2 : W.heap.size = X + 3 := by rw [hW, alloc_size, s1]
          have a1 : x1.heap[X + 1]? = some (.cells #[.string d, .int .i64 (u : Int)] 41 (0, 0)) := by rw [h1, ← hS]; exact heap_alloc_new V _
          have a2 : W.heap[X + 2]? = some (.cells #[.pointer (some ⟨X + 1, 0, none⟩)] 39 (0, 0)) := by rw [hW, ← s1, ← hS]; exact heap_alloc_new x1 _
          have k1 : ∀ k, k < X + 1 → x1.heap[k]? = V.heap[k]? := fun k hk => by rw [h1]; exact Below.heap_alloc V _ k (by omega)
          have k2 : ∀ k, k < X + 2 → W.heap[k]? = x1.heap[k]? := fun k hk => by rw [hW]; exact Below.heap_alloc x1 _ k (by omega)
          refine ⟨v0.same ((k2 _ (by omega)).trans (k1 _ (by omega))), v1.same ((k2 _ (by omega)).trans (k1 _ (by omega))), v2.same ((k2 _ (by omega)).trans (k1 _ (by omega))), (k2 _ (by omega)).trans a1, a2, s2, ?_⟩
          rw [hW, h1]
          exact (vB.alloc (by omega) _).alloc (by rw [alloc_size]; omega) _
        obtain ⟨g0, g1, g2, g3, g4, g5, g6⟩ := w0
        rw [← hW, hS]
        clear hW v0 v1 v2 vB c0 c1 c2 f1 hS
        refine (apatt H X base d ⟨#[]⟩ u b W hs hbs bu (by omega) hXH g5 g0 g1 g2 g3 g4).mono ?_
        rintro e w2 ⟨hB2, rfl, x, x1, x2⟩
        have HB2 := hidM (g6.trans hB2)
        obtain ⟨r, hr⟩ : ∃ r, flL base d b (d.size - u) u [] = r := ⟨_, rfl⟩
        rw [hr] at x2 HA
        rw [hr]
        have HFZ := hidM (flL_err base d b (d.size - u) u [] hr)
        obtain ⟨o, er⟩ := r
        simp only at x2
        have c1 := x1.cell
        have f1 := x1.frozen
        have X1 := hidM x1
        clear hr hB2 g0 g1 g2 g3 g4 g5 g6 x1 HS
        by_cases her : er = 0
        · have hx := x2 her
          subst her hx
          clear x2
          go_wp2
          exact FIN.out 0 _ _ _ (X1.out.set _) (HB2.out.setCell (p := ⟨H + 1, 0, none⟩) (by simp) _) rfl rfl (by rw [HA.out])
        · have her' : ¬ (er : Int) = 0 := by omega
          clear x2
          go_wp2
          refine FIN.out er _ _ _ (X1.out.set ⟨#[]⟩) (HB2.out.setCell (p := ⟨H + 1, 0, none⟩) (by simp) _) rfl rfl ?_
          rw [HA.out]
          have ho : o = [] := HFZ.out her
          rw [ho]
    · have ha' : ¬ (a : Int) = (base.size : Int) := by omega
      have HA4 := hidM (show apL base d most = ([], 4) by rw [HAP.out, if_pos rfl, if_neg ha])
      clear HAP
      go_wp2
      exact FIN.out 4 _ _ _ (v1.set ⟨#[]⟩) (vB.setCell (p := ⟨H + 1, 0, none⟩) (by simp) _) rfl rfl HA4.out
  · have her' : ¬ (er : Int) = 0 := by omega
    have HA4 := hidM (show apL base d most = ([], er) by rw [HAP.out, if_neg her])
    clear HAP
    go_wp2
    exact FIN.out er _ _ _ (v1.set ⟨#[]⟩) (vB.setCell (p := ⟨H + 1, 0, none⟩) (by simp) _) rfl rfl HA4.out
end Go.Proofs.Ytekpdnlogfaggaa
