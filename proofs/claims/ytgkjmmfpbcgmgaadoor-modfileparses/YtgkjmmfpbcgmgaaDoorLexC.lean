/-
  The lexer of module files: a line.
-/
import Derived.Test.YtgkjmmfpbcgmgaaDoorLexB
import Derived.Laws.ResultCell
namespace Go.Proofs.YtgkjmmfpbcgmgaaDoor
open Go.RowKit

/-- texts in a row -/
def strV (x : List UInt8) : Value := .string ⟨x.toArray⟩
/-- The value v owns just the texts ws, in memory from 'base' on. -/
def OwnW (w : World) (base : Nat) (v : Value) (ws : List (List UInt8)) : Prop := w.ownsRow base 9 1 v ws.length (ws.map strV)
theorem ownW_push {w1 : World} {B : Nat} {v' : Value} {P : List (List UInt8)} {c : List UInt8} (h : w1.ownsRow B 9 1 v' (P.length + 1) (P.map strV ++ [.string ⟨c.toArray⟩])) : OwnW w1 B v' (P ++ [c]) := by
  unfold OwnW
  rw [List.map_append]
  simpa [strV] using h
theorem ownW_below {w W : World} {B C : Nat} {v : Value} {P : List (List UInt8)} (h : OwnW w B v P) (hb : Below C w W) (hC : w.heap.size ≤ C) : OwnW W B v P := by
  obtain ⟨hl, h2⟩ := h
  refine ⟨hl, ?_⟩
  rcases h2 with h2 | ⟨g, cap, cur, rfl, hB, hg, hr⟩
  · exact .inl h2
  · exact .inr ⟨g, cap, cur, rfl, hB, (hb.block g (by have := (Array.getElem?_eq_some_iff.1 hg).1; omega)).trans hg, hr⟩
theorem ownW_but {w W : World} {B b : Nat} {v : Value} {P : List (List UInt8)} (h : OwnW w B v P) (hb : But b w.heap.size w W) (hC : b < B) : OwnW W B v P := by
  obtain ⟨hl, h2⟩ := h
  refine ⟨hl, ?_⟩
  rcases h2 with h2 | ⟨g, cap, cur, rfl, hB, hg, hr⟩
  · exact .inl h2
  · exact .inr ⟨g, cap, cur, rfl, hB, (hb.block g (Array.getElem?_eq_some_iff.1 hg).1 (by omega)).trans hg, hr⟩
theorem ownW_mono {w : World} {A B : Nat} {v : Value} {P : List (List UInt8)} (h : OwnW w B v P) (hA : A ≤ B) : OwnW w A v P := by
  obtain ⟨hl, h2⟩ := h
  refine ⟨hl, ?_⟩
  rcases h2 with h2 | ⟨g, cap, cur, rfl, hB, hr⟩
  · exact .inl h2
  · exact .inr ⟨g, cap, cur, rfl, by omega, hr⟩
theorem size49 : (Tryd.prog.info? 49).map (·.size) = some 3 := by kernel_rfl
theorem zero49 (w : World) : (zeroValue 49).run Tryd.prog w = .ok (.agg #[.slice none 0 0, .int .i64 0, .bool false]) w := by kernel_rfl
theorem ones49 (n : Option Addr) (l c : Nat) (m : Int) (b : Bool) : (#[.slice n l c, .int .i64 m, .bool b] : Array Value).all (·.oneCell') = true := by simp [Value.oneCell']
theorem OwnW.isSlice {w : World} {B : Nat} {v : Value} {P : List (List UInt8)} (h : OwnW w B v P) : ∃ n c, v = .slice n P.length c := by
  rcases h.2 with ⟨rfl, hn⟩ | ⟨g, cap, cur, rfl, _⟩
  · exact ⟨none, 0, by rw [hn]⟩
  · exact ⟨_, _, rfl⟩
theorem info9x : (Tryd.prog.info? 9).map (fun i => (i.zero, i.size, i.bytes)) = some (some (.string .empty), 1, 16) := by kernel_rfl
def rowB (v : Value) (k : Nat) (l : Bool) : Obj := .cells #[v, .int .i64 (k : Int), .bool l] 49 (0, 0)
/-- within a row: the lexer's box, the answer's, the row's own, and its words -/
structure RX (b D : Nat) (s : ByteArray) (w0 w : World) (p : Nat) (v : Value) (ws : List (List UInt8)) (k : Nat) : Prop where
  box : RBox w b s p
  lim : p ≤ s.size
  ans : w.heap[D]? = some (rowB (.slice none 0 0) 0 false)
  row : w.heap[D + 1]? = some (rowB v k false)
  own : OwnW w (D + 2) v ws
  but : But b D w0 w
  lt : b < D
theorem RX.size {b D : Nat} {s : ByteArray} {w0 w : World} {p : Nat} {v : Value} {ws : List (List UInt8)} {k : Nat} (h : RX b D s w0 w p v ws k) : D + 1 < w.heap.size := (Array.getElem?_eq_some_iff.1 h.row).1
theorem RX.step {b D : Nat} {s : ByteArray} {w0 w w' : World} {p p' : Nat} {v : Value} {ws : List (List UInt8)} {k : Nat} (h : RX b D s w0 w p v ws k) (hB : RBox w' b s p') (hp : p' ≤ s.size) (hb : But b w.heap.size w w') : RX b D s w0 w' p' v ws k :=
  ⟨hB, hp, (hb.block D (by have := h.size; omega) (by have := h.lt; omega)).trans h.ans, (hb.block _ h.size (by have := h.lt; omega)).trans h.row, ownW_but h.own hb (by have := h.lt; omega), h.but.trans (hb.mono (by have := h.size; omega)), h.lt⟩
theorem RX.below {b D : Nat} {s : ByteArray} {w0 w w' : World} {p : Nat} {v : Value} {ws : List (List UInt8)} {k : Nat} (h : RX b D s w0 w p v ws k) (hb : Below w.heap.size w w') : RX b D s w0 w' p v ws k :=
  h.step (h.box.below hb h.box.lt) h.lim (But.of_below hb (Nat.le_refl _))
def RowPost (b : Nat) (s : ByteArray) (t : Nat) (w : World) (e : Ending) (w' : World) : Prop :=
  match rowL (restL s t) with
  | none => ∃ p', e = .returned (.tuple #[.agg #[.slice none 0 0, .int .i64 0, .bool false], .bool false]) ∧ RBox w' b s p' ∧ p' ≤ s.size ∧ But b w.heap.size w w'
  | some (ws, k, last, rest) => ∃ v p', e = .returned (.tuple #[.agg #[v, .int .i64 (k : Int), .bool last], .bool true]) ∧ RBox w' b s p' ∧ p' ≤ s.size ∧ restL s p' = rest ∧ OwnW w' w.heap.size v ws ∧ But b w.heap.size w w'
theorem results_box2 {fn : Func} {p u : Tmp} {ty : TypeId} {P : Program} (h : fn.results = #[.cell p ty, .tmp u]) (tmps : Array Value) (w : World) (g : Nat) (cs : Array Value)
    (hp : tmps.getD p undef = .pointer (some ⟨g, 0, none⟩)) (hr : (loadVar ty ⟨g, 0, none⟩).run P w = .ok (.agg cs) w) :
    (results fn tmps).run P w = .ok (.tuple #[.agg cs, tmps.getD u undef]) w := by
  rw [results_cell_tmp h, hp]
  simp [asAddr, hr, Result.andThen]

theorem ownW_blocks {w W : World} {B : Nat} {v : Value} {P : List (List UInt8)} (h : OwnW w B v P) (hb : ∀ g, B ≤ g → W.heap[g]? = w.heap[g]?) : OwnW W B v P := by
  obtain ⟨hl, h2⟩ := h
  refine ⟨hl, ?_⟩
  rcases h2 with h2 | ⟨g, cap, cur, rfl, hB, hg, hr⟩
  · exact .inl h2
  · exact .inr ⟨g, cap, cur, rfl, hB, (hb g hB).trans hg, hr⟩
theorem RX.done {b D : Nat} {s : ByteArray} {w0 w : World} {p : Nat} {v : Value} {ws : List (List UInt8)} {k : Nat} (h : RX b D s w0 w p v ws k) (j : Nat) (x : Value) (c : Array Value) :
    RBox ((w.setCell ⟨D + 1, j, none⟩ x).setRow D c) b s p ∧ OwnW ((w.setCell ⟨D + 1, j, none⟩ x).setRow D c) D v ws ∧ But b D w0 ((w.setCell ⟨D + 1, j, none⟩ x).setRow D c) := by
  have hlt := h.lt
  refine ⟨h.box.same ((setRow_other _ D b c (by omega)).trans (Below.heap_setCell w ⟨D + 1, j, none⟩ x b (by simp; omega))), ?_, h.but.trans ⟨rfl, rfl, rfl, by simp [World.setCell], fun g h1 _ => (setRow_other _ D g c (by omega)).trans (Below.heap_setCell w ⟨D + 1, j, none⟩ x g (by simp; omega))⟩⟩
  exact ownW_mono (ownW_blocks h.own fun g hg => (setRow_other _ D g c (by omega)).trans (Below.heap_setCell w ⟨D + 1, j, none⟩ x g (by simp; omega))) (by omega)
theorem RX.fail {b D : Nat} {s : ByteArray} {w0 w : World} {p : Nat} {v : Value} {ws : List (List UInt8)} {k : Nat} (h : RX b D s w0 w p v ws k) (c : Array Value) :
    RBox (w.setRow D c) b s p ∧ But b D w0 (w.setRow D c) := by
  have hlt := h.lt
  exact ⟨h.box.same (setRow_other _ D b c (by omega)), h.but.setRow⟩
theorem RX.mark {b D : Nat} {s : ByteArray} {w0 w : World} {p : Nat} {v : Value} {ws : List (List UInt8)} {k : Nat} (h : RX b D s w0 w p v ws k) (K : Nat) : RX b D s w0 (w.setCell ⟨D + 1, 1, none⟩ (.int .i64 (K : Int))) p v ws K := by
  have hlt := h.lt
  refine ⟨h.box.same (Below.heap_setCell w _ _ b (by simp; omega)), h.lim, (Below.heap_setCell w _ _ D (by simp)).trans h.ans, ?_, ownW_blocks h.own fun g hg => Below.heap_setCell w _ _ g (by simp; omega), h.but.trans ⟨rfl, rfl, rfl, by simp [World.setCell], fun g h1 _ => Below.heap_setCell w _ _ g (by simp; omega)⟩, hlt⟩
  rw [heap_setCell_same _ _ _ _ 49 _ h.row]
  rfl
theorem belowW_push {w wr w1 : World} {B : Nat} {v : Value} {P : List (List UInt8)} {o : Obj} (hown : OwnW wr B v P) (hb : Below B w wr) (hB : B ≤ wr.heap.size) (hg : (wr.alloc o).grownBy w1 v.ownBlock) : Below B w w1 :=
  (hb.alloc hB o).grown hg (by simp; omega) (fun k hk => (World.ownsRow.lt hown k hk).1)
theorem cellW_new (w : World) (v : Value) : ∀ j u, [v][j]? = some u → (w.alloc (.cells #[v] 9)).cell? ((⟨w.heap.size, 0, none⟩ : Addr).add j) = some u := by
  intro j u hj
  match j, hj with
  | 0, hj => simp at hj; subst hj; simp [Addr.add]
/-- behind an append: the row's box as it was, and with the words that grew -/
theorem RX.grow {b D : Nat} {s : ByteArray} {w0 w w5 : World} {p : Nat} {v v' : Value} {ws : List (List UInt8)} {k : Nat} {x : List UInt8} {o : Obj} (h : RX b D s w0 w p v ws k) (h3 : w5.ownsRow (D + 2) 9 1 v' (ws.length + 1) (ws.map strV ++ [.string ⟨x.toArray⟩])) (h4 : (w.alloc o).grownBy w5 v.ownBlock) :
    w5.heap[D + 1]? = some (rowB v k false) ∧ RX b D s w0 (w5.setCell ⟨D + 1, 0, none⟩ v') p v' (ws ++ [x]) k := by
  have hlt := h.lt
  have hb := belowW_push h.own (Below.refl _ w) h.size h4
  have hr := (hb.block (D + 1) (by omega)).trans h.row
  refine ⟨hr, h.box.same ((Below.heap_setCell w5 _ _ b (by simp; omega)).trans (hb.block b (by omega))), h.lim, (Below.heap_setCell w5 _ _ D (by simp)).trans ((hb.block D (by omega)).trans h.ans), ?_, ownW_blocks (ownW_push h3) fun g hg => Below.heap_setCell w5 _ _ g (by simp; omega), h.but.trans ⟨hb.os, hb.tape, hb.output, by simp [World.setCell]; exact hb.size, fun g h1 _ => (Below.heap_setCell w5 _ _ g (by simp; omega)).trans (hb.block g (by omega))⟩, hlt⟩
  rw [heap_setCell_same _ _ _ _ 49 _ hr]
  rfl
theorem rowG_end {f : Nat} {l : List UInt8} {ws : List (List UInt8)} {k K : Nat} {says rest : List UInt8} (hf : l.length < f) (ht : tokL l = (K, says, rest)) (hK : K = 1 ∨ K = 2) : rowG f l ws k = some (ws, k, (K == 1), rest) := by
  cases f with
  | zero => omega
  | succ f =>
    rw [rowG, ht]
    rcases hK with rfl | rfl <;> simp
theorem rowG_bad {f : Nat} {l : List UInt8} {ws : List (List UInt8)} {k K : Nat} {says rest : List UInt8} (hf : l.length < f) (ht : tokL l = (K, says, rest)) (h1 : K ≠ 1) (h2 : K ≠ 2) (hK : K = 6 ∨ k ≠ 0) : rowG f l ws k = none := by
  cases f with
  | zero => omega
  | succ f =>
    rw [rowG, ht]
    simp only
    rw [if_neg h1, if_neg h2, if_pos hK]
theorem rowG_word {f : Nat} {l : List UInt8} {ws : List (List UInt8)} {says rest : List UInt8} (hf : l.length < f) (ht : tokL l = (5, says, rest)) : rowG f l ws 0 = rowG (f - 1) rest (ws ++ [says]) 0 ∧ rest.length < f - 1 := by
  cases f with
  | zero => omega
  | succ f =>
    have := tok_less (l := l) (by rw [ht]; simp) (by rw [ht]; simp)
    rw [ht] at this
    rw [rowG, ht]
    simp only at this ⊢
    exact ⟨by simp, by omega⟩
theorem rowG_mark {f : Nat} {l : List UInt8} {ws : List (List UInt8)} {K : Nat} {says rest : List UInt8} (hf : l.length < f) (ht : tokL l = (K, says, rest)) (hK : K = 3 ∨ K = 4) : rowG f l ws 0 = rowG (f - 1) rest ws K ∧ rest.length < f - 1 := by
  cases f with
  | zero => omega
  | succ f =>
    have := tok_less (l := l) (by rw [ht]; simp; omega) (by rw [ht]; simp; omega)
    rw [ht] at this
    rw [rowG, ht]
    simp only at this ⊢
    exact ⟨by rcases hK with rfl | rfl <;> simp, by omega⟩
theorem row_cells {V : World} {g : Nat} {v : Value} {k : Nat} {l : Bool} (h : V.heap[g]? = some (rowB v k l)) : V.cell? ⟨g, 0, none⟩ = some v ∧ V.cell? ⟨g, 1, none⟩ = some (.int .i64 (k : Int)) ∧ V.cell? ⟨g, 2, none⟩ = some (.bool l) ∧ ∀ j, V.frozen? ⟨g, j, none⟩ = false :=
  ⟨by rw [cell_of_row V g _ _ 49 (0, 0) h]; rfl, by rw [cell_of_row V g _ _ 49 (0, 0) h]; rfl, by rw [cell_of_row V g _ _ 49 (0, 0) h]; rfl, fun j => frozen_of_row V g j _ 49 h⟩
theorem tok_cells {V : World} {g : Nat} {k : Int} {x : ByteArray} (h : V.heap[g]? = some (.cells #[.int .i64 k, .string x] 66 (0, 0))) : V.cell? ⟨g, 0, none⟩ = some (.int .i64 k) ∧ V.cell? ⟨g, 1, none⟩ = some (.string x) :=
  ⟨by rw [cell_of_row V g _ _ 66 (0, 0) h]; rfl, by rw [cell_of_row V g _ _ 66 (0, 0) h]; rfl⟩
set_option maxHeartbeats 4000000 in
set_option maxRecDepth 100000 in
theorem row_any (b : Nat) (s : ByteArray) (t : Nat) (w : World) (h : RBox w b s t) (hs : s.size ≤ 1000000) (ht : t ≤ s.size) :
    Calls Tryd.prog 20 #[.pointer (some ⟨b, 0, none⟩)] w fun e w' => RowPost b s t w e w' := by
  obtain ⟨i0, hi, hz0, hz1, hz2⟩ := info_parts info9x
  have HA0 : Hid (RX b w.heap.size s w ((w.alloc (.cells #[.slice none 0 0, .int .i64 0, .bool false] 49)).alloc (.cells #[.slice none 0 0, .int .i64 0, .bool false] 49)) t (.slice none 0 0) [] 0) := by
    have hlt := h.lt
    have hb2 : Below w.heap.size w ((w.alloc (.cells #[.slice none 0 0, .int .i64 0, .bool false] 49)).alloc (.cells #[.slice none 0 0, .int .i64 0, .bool false] 49)) := ((Below.refl _ w).alloc (Nat.le_refl _) _).alloc (by simp) _
    refine ⟨h.below hb2 hlt, ht, ?_, ?_, ⟨rfl, .inl ⟨rfl, rfl⟩⟩, But.of_below hb2 (Nat.le_refl _), hlt⟩
    · rw [heap_alloc_old _ _ (by simp)]
      exact heap_alloc_new w _
    · have := heap_alloc_new (w.alloc (.cells #[.slice none 0 0, .int .i64 0, .bool false] 49)) (.cells #[.slice none 0 0, .int .i64 0, .bool false] 49)
      rw [show (w.alloc (Obj.cells #[.slice none 0 0, .int .i64 0, .bool false] 49)).heap.size = w.heap.size + 1 by simp] at this
      exact this
  have hz := zero49
  have hzt := zero66
  clear h
  go_enter Tryd.func20, Tryd.ntmps20
  go_wp2
  go_loopw [5, 6, 7, 8, 9, 10, 11, 12, 13, 14, 15, 16, 17, 18, 19, 20, 21, 22, 23, 24, 25, 26, 27, 28, 29, 30, 31, 32, 33, 34, 35, 36, 37, 38, 39, 40, 41, 42, 43, 44, 45] (fun _ _ _ _ _ _ _ _ _ _ _ _ _ _ _ _ _ _ _ _ _ _ _ _ _ _ _ _ _ _ _ _ _ _ _ _ _ _ _ _ _ wr => ∃ f p v ws k, RX b w.heap.size s w wr p v ws k ∧ (restL s p).length < f ∧ rowG f (restL s p) ws k = rowL (restL s t) ∧ ws.length ≤ p) (fun _ _ _ _ _ _ _ _ _ _ _ _ _ _ _ _ _ _ _ _ _ _ _ _ _ _ _ _ _ _ _ _ _ _ _ _ _ _ _ _ _ wr => s.size - posOf b wr)
  case atStart => exact ⟨_, t, _, [], 0, HA0.out, Nat.lt_succ_self _, rfl, by simp⟩
  case round =>
    obtain ⟨f, p, v, ws, k, hR, hf, hrow, hwl⟩ := hrel
    clear HA0
    have HR := hidM hR
    have HF := hidM hf
    have HRO := hidM hrow
    have hlim := hR.lim
    have HNX := hidM (next_any b s p wr hR.box hs hR.lim)
    obtain ⟨K, says, rest, hT⟩ : ∃ K says rest, tokL (restL s p) = (K, says, rest) := ⟨_, _, _, rfl⟩
    unfold NextPost at HNX
    rw [hT] at HNX
    have HTK := hidM hT
    have hK := tok_kind (restL s p)
    rw [hT] at hK
    simp only at hK HNX
    obtain ⟨KI, hKI⟩ : ∃ KI : Int, KI = (K : Int) := ⟨_, rfl⟩
    obtain ⟨X, hX⟩ : ∃ X : ByteArray, X = ⟨says.toArray⟩ := ⟨_, rfl⟩
    obtain ⟨kI, hkI⟩ : ∃ kI : Int, kI = (k : Int) := ⟨_, rfl⟩
    rw [← hKI, ← hX] at HNX
    have HX := hidM hX
    have HKI := hidM hKI
    have HkI := hidM hkI
    clear hR hf hrow hT hX hKI hkI
    go_upto_region 2 with fail
    go_wp2_with fail
    refine HNX.out.mono ?_
    rintro _ w2 ⟨p2, rfl, hB2, hp2, hb2, hrest⟩
    have HR2 := hidM (HR.out.step hB2 hp2 hb2)
    have HRS := hidM hrest
    have HN0 : Hid ((w2.alloc (.cells #[.int .i64 0, .string ⟨#[]⟩] 66)).heap[w2.heap.size]? = some (.cells #[.int .i64 0, .string ⟨#[]⟩] 66 (0, 0))) := heap_alloc_new w2 _
    clear hB2 hb2 hrest HNX
    go_upto_block 2 with (refine wpList_store_row rfl 66 (.tmp 5) (.tmp 7) rfl w2.heap.size #[.int .i64 KI, .string X] rfl rfl 66 #[.int .i64 0, .string ⟨#[]⟩] HN0.out size66 rfl (ones66 _ _) ?_)
    have HT3 : Hid (((w2.alloc (.cells #[.int .i64 0, .string ⟨#[]⟩] 66)).setRow w2.heap.size #[.int .i64 KI, .string X]).heap[w2.heap.size]? = some (.cells #[.int .i64 KI, .string X] 66 (0, 0))) := setRow_heap _ _ _ _ 66 _ HN0.out
    have HB3 : Hid (Below w2.heap.size w2 ((w2.alloc (.cells #[.int .i64 0, .string ⟨#[]⟩] 66)).setRow w2.heap.size #[.int .i64 KI, .string X])) :=
      ((Below.refl _ w2).alloc (Nat.le_refl _) _).trans ⟨rfl, rfl, rfl, by simp, fun k hk => setRow_other _ _ k _ (by omega)⟩
    have HR3 := hidM (HR2.out.below HB3.out)
    have hTD : w.heap.size + 1 < w2.heap.size := HR2.out.size
    generalize (w2.alloc (.cells #[.int .i64 0, .string ⟨#[]⟩] 66)).setRow w2.heap.size #[.int .i64 KI, .string X] = W3 at *
    generalize w2.heap.size = TT at *
    clear HR2 HB3 HN0
    obtain ⟨t0, t1⟩ := tok_cells HT3.out
    obtain ⟨r0, r1, r2, rf⟩ := row_cells HR3.out.row
    rw [← HkI.out] at r1
    have rf0 := rf 0
    have rf1 := rf 1
    have rf2 := rf 2
    have hne1 : TT ≠ w.heap.size + 1 := by omega
    have hne2 : w.heap.size + 1 ≠ TT := by omega
    clear rf
    by_cases hend : K = 1 ∨ K = 2
    · have HRW : Hid (rowL (restL s t) = some (ws, k, (K == 1), rest)) := by unfold Hid; rw [← HRO.out]; exact rowG_end HF.out HTK.out hend
      have HRS2 := hidM (HRS.out (by omega))
      obtain ⟨lb, hlb⟩ : ∃ lb : Bool, lb = (K == 1) := ⟨_, rfl⟩
      have hlb2 : (KI == 1) = lb := by rw [hlb, HKI.out, Bool.eq_iff_iff]; simp; omega
      rw [← hlb] at HRW
      have HAN : Hid ((W3.setCell ⟨w.heap.size + 1, 2, none⟩ (.bool lb)).heap[w.heap.size]? = some (rowB (.slice none 0 0) 0 false)) := by
        unfold Hid; rw [Below.heap_setCell _ _ _ _ (by simp)]; exact HR3.out.ans
      have hrow3 : (W3.setCell ⟨w.heap.size + 1, 2, none⟩ (.bool lb)).heap[w.heap.size + 1]? = some (rowB v k lb) := by
        rw [heap_setCell_same _ _ _ _ 49 _ HR3.out.row]; rfl
      obtain ⟨q0, q1, q2, _⟩ := row_cells hrow3
      rw [← HkI.out] at q1
      have hor : (KI == 2) = true ∨ ((KI == 2) = false ∧ (KI == 1) = true) := by
        rcases hend with h | h
        · right; constructor
          · rw [HKI.out, h]; rfl
          · rw [HKI.out, h]; rfl
        · left; rw [HKI.out, h]; rfl
      have HAGG := hidM (run_loadVar_row _ (w.heap.size + 1) 49 49 _ (0, 0) _ hrow3 Tryd.underlying49 rfl size49)
      clear hlb hrow3
      have HONE : Hid ((#[v, .int .i64 kI, .bool lb] : Array Value).all (·.oneCell') = true) := by
        obtain ⟨n, c, hv⟩ := HR3.out.own.isSlice
        rw [hv]
        exact ones49 _ _ _ _ _
      have HPOST : Hid (∀ e, e = .returned (.tuple #[.agg #[v, .int .i64 kI, .bool lb], .bool true]) → RowPost b s t w e ((W3.setCell ⟨w.heap.size + 1, 2, none⟩ (.bool lb)).setRow w.heap.size #[v, .int .i64 kI, .bool lb])) := by
        rintro e rfl
        unfold RowPost
        rw [HRW.out]
        obtain ⟨d1, d2, d3⟩ := HR3.out.done 2 (.bool lb) #[v, .int .i64 kI, .bool lb]
        exact ⟨v, p2, by rw [HkI.out], d1, hp2, HRS2.out, d2, d3⟩
      rcases hor with h1 | ⟨h1, h2⟩
      · go_wp2_with (refine wpList_store_row rfl 49 (.tmp 2) (.tmp 24) rfl w.heap.size #[v, .int .i64 kI, .bool lb] rfl rfl 49 #[.slice none 0 0, .int .i64 0, .bool false] HAN.out size49 rfl HONE.out ?_)
        exact bodyPost_ret (results_box2 rfl _ _ w.heap.size _ rfl (run_loadVar_row _ w.heap.size 49 49 _ (0, 0) _ (setRow_heap _ _ _ _ 49 _ HAN.out) Tryd.underlying49 rfl size49)) rfl (HPOST.out _ rfl)
      · have h3 : KI = 1 := by simpa using h2
        have h4 : lb = true := by rw [← hlb2, h2]
        subst h4
        subst h3
        go_wp2_with (refine wpList_store_row rfl 49 (.tmp 2) (.tmp 24) rfl w.heap.size #[v, .int .i64 kI, .bool true] rfl rfl 49 #[.slice none 0 0, .int .i64 0, .bool false] HAN.out size49 rfl HONE.out ?_)
        exact bodyPost_ret (results_box2 rfl _ _ w.heap.size _ rfl (run_loadVar_row _ w.heap.size 49 49 _ (0, 0) _ (setRow_heap _ _ _ _ 49 _ HAN.out) Tryd.underlying49 rfl size49)) rfl (HPOST.out _ rfl)
    · have n1 : (KI == 1) = false := by rw [HKI.out]; simp; omega
      have n2 : (KI == 2) = false := by rw [HKI.out]; simp; omega
      by_cases hbad : K = 6 ∨ k ≠ 0
      · have HRW : Hid (rowL (restL s t) = none) := by unfold Hid; rw [← HRO.out]; exact rowG_bad HF.out HTK.out (by omega) (by omega) hbad
        have HPOST : Hid (∀ e, e = .returned (.tuple #[.agg #[.slice none 0 0, .int .i64 0, .bool false], .bool false]) → RowPost b s t w e (W3.setRow w.heap.size #[.slice none 0 0, .int .i64 0, .bool false])) := by
          rintro e rfl
          unfold RowPost
          rw [HRW.out]
          obtain ⟨d1, d2⟩ := HR3.out.fail #[.slice none 0 0, .int .i64 0, .bool false]
          exact ⟨p2, rfl, d1, hp2, d2⟩
        have HAN := hidM HR3.out.ans
        have hor : (KI == 6) = true ∨ ((KI == 6) = false ∧ (kI != 0) = true) := by
          by_cases h : K = 6
          · left; rw [HKI.out, h]; rfl
          · right
            constructor
            · rw [HKI.out]; simp; omega
            · rw [HkI.out]; simp; omega
        rcases hor with h1 | ⟨h1, h2⟩
        all_goals (
          go_wp2_with (refine wpList_store_row rfl 49 (.tmp 2) (.tmp 34) rfl w.heap.size #[.slice none 0 0, .int .i64 0, .bool false] rfl rfl 49 #[.slice none 0 0, .int .i64 0, .bool false] HAN.out size49 rfl (ones49 _ _ _ _ _) ?_)
          exact bodyPost_ret (results_box2 rfl _ _ w.heap.size _ rfl (run_loadVar_row _ w.heap.size 49 49 _ (0, 0) _ (setRow_heap _ _ _ _ 49 _ HAN.out) Tryd.underlying49 rfl size49)) rfl (HPOST.out _ rfl))
      · have hk0 : k = 0 := by omega
        have hK6 : K ≠ 6 := by omega
        subst hk0
        have n6 : (KI == 6) = false := by rw [HKI.out]; simp; omega
        have hkz : kI = 0 := by rw [HkI.out]; rfl
        subst hkz
        have HRS2 := hidM (HRS.out hK6)
        have HLT : Hid (p < p2) := by
          have h1 := tok_less (l := restL s p) (by rw [HTK.out]; simp; omega) (by rw [HTK.out]; exact hK6)
          rw [HTK.out] at h1
          simp only at h1
          rw [← HRS2.out, rest_len, rest_len] at h1
          unfold Hid
          omega
        by_cases h5 : K = 5
        · subst h5
          obtain ⟨g1, g2⟩ := rowG_word (ws := ws) HF.out HTK.out
          have HG : Hid ((restL s p2).length < f - 1 ∧ rowG (f - 1) (restL s p2) (ws ++ [says]) 0 = rowL (restL s t)) := ⟨by rw [HRS2.out]; exact g2, by rw [HRS2.out, ← g1, HRO.out]⟩
          have hk5 : KI = 5 := by rw [HKI.out]; rfl
          subst hk5
          have HO3 := hidM HR3.out.own
          have hsz := HR3.out.size
          clear g1 g2 hend hbad hK6 n1 n2 n6
          go_wp2_with (at_builtin; refine wpList_append_own _ rfl _ _ 35 rfl (w.heap.size + 2) 9 i0 (.string .empty) 1 16 Tryd.underlying35 hi hz0 hz1 hz2 rfl (by decide) _ _ _ rfl (World.ownsRow.alloc HO3.out _) ⟨W3.heap.size, 0, none⟩ 1 1 [.string X] ?d0 rfl ?d1 ?d2 ?d3 ?d4 ?d5 ?_)
          case d0 => rfl
          case d1 => exact cellW_new W3 _
          case d2 => intro u hu; simp at hu; subst hu; rfl
          case d3 => unfold maxLen; omega
          case d4 => omega
          case d5 => simp; omega
          intro v' w5 hown' hgrow _
          rw [HX.out] at hown'
          obtain ⟨n', c', hv'⟩ := (ownW_push hown').isSlice
          generalize (ws ++ [says]).length = l' at hv'
          subst hv'
          obtain ⟨e1, e2⟩ := HR3.out.grow hown' hgrow
          obtain ⟨y0, _, _, yf⟩ := row_cells e1
          have yf0 := yf 0
          have HE := hidM e2
          clear e1 e2 yf hown' hgrow r0 r1 r2 rf0 rf1 rf2 t0 t1 HT3
          go_wp2
          go_roundw
          case rel => exact ⟨f - 1, p2, _, ws ++ [says], 0, HE.out, HG.out.1, HG.out.2, by have := HLT.out; simp; omega⟩
          case measure =>
            show s.size - posOf b _ < s.size - posOf b wr
            rw [posOf_box HE.out.box, posOf_box HR.out.box]
            have := HLT.out
            omega
        · have hK34 : K = 3 ∨ K = 4 := by omega
          obtain ⟨g1, g2⟩ := rowG_mark (ws := ws) HF.out HTK.out hK34
          have HG : Hid ((restL s p2).length < f - 1 ∧ rowG (f - 1) (restL s p2) ws K = rowL (restL s t)) := ⟨by rw [HRS2.out]; exact g2, by rw [HRS2.out, ← g1, HRO.out]⟩
          have n5 : (KI == 5) = false := by rw [HKI.out]; simp; omega
          have HE := hidM (HR3.out.mark K)
          rw [← HKI.out] at HE
          clear g1 g2 hend hbad hK6
          go_wp2
          go_roundw
          case rel => exact ⟨f - 1, p2, v, ws, K, HE.out, HG.out.1, HG.out.2, by have := HLT.out; omega⟩
          case measure =>
            show s.size - posOf b _ < s.size - posOf b wr
            rw [posOf_box HE.out.box, posOf_box HR.out.box]
            have := HLT.out
            omega
end Go.Proofs.YtgkjmmfpbcgmgaaDoor
