/-
  Directives of module files: what a line adds.
-/
import Derived.Test.YtgkjmmfpbcgmgaaDoorLexD
import Derived.Deep.RegionHeld
namespace Go.Proofs.YtgkjmmfpbcgmgaaDoor
open Go.RowKit

theorem step_append_own {P : Program} {ops : Array Oper} {o : Oper} {a : Act} {w : World} {K : Act → World → Prop} {Q : Exit → Act → World → Prop} {E : Prop}
    (hg : o.guard = none) (s x : Operand) (t : TypeId) (hop : o.op = Op.call { callee := Callee.builtin Builtin.append, args := #[s, x], argTypes := #[t, t] })
    (base : Nat) (e : TypeId) (i : TypeInfo) (z : Value) (size bytes : Nat) (h1 : P.underlying t = some (.slice e)) (h2 : P.info? e = some i) (h3 : i.zero = some z) (h4 : i.size = size) (h5 : i.bytes = bytes) (h6 : z.cells.size = size) (h7 : 0 < size)
    (v : Value) (n : Nat) (xs : List Value) (hs : a.eval s = v) (hown : w.ownsRow base e size v n xs)
    (ad : Addr) (m c : Nat) (news : List Value) (hx : a.eval x = .slice (some ad) m c) (hn : news.length = m * size) (hc : ∀ j u, news[j]? = some u → w.cell? (ad.add j) = some u) (h1c : ∀ u ∈ news, u.oneCell' = true)
    (b1 : n + m ≤ maxLen) (b2 : (n + m) * bytes ≤ 140737488355328) (b3 : base ≤ w.heap.size)
    (hK : ∀ v' w', w'.ownsRow base e size v' (n + m) (xs ++ news) → w.grownBy w' v.ownBlock → K (a.put o.dst v') w') :
    if Region.wanted o (yielded ops a.tmps) = true then Oper.wp P o a w K Q else E := by
  have hw : Region.wanted o (yielded ops a.tmps) = true := by simp [Region.wanted, hg]
  rw [if_pos hw]
  obtain ⟨v', w', hrun, r1, r2, _⟩ := run_append_own (P := P) w base t o.type e i z size bytes h1 h2 h3 h4 h5 h6 h7 v n xs hown ad m c news hn hc h1c b1 b2 b3
  unfold Oper.wp
  simp [execOp, hop, resolve, invoke, builtin, hs, hx, hrun, Result.andThen]
  exact hK v' w' r1 r2
/-- directives in a row: verb, words, line -/
def flatL (ls : List Ln) (wvs : List Value) : List Value := (ls.zip wvs).flatMap fun x => [strV x.1.1, x.2, .int .i64 (x.1.2.2 : Int)]
theorem flatL_app (ls : List Ln) (wvs : List Value) (l : Ln) (wv : Value) (h : wvs.length = ls.length) : flatL (ls ++ [l]) (wvs ++ [wv]) = flatL ls wvs ++ [strV l.1, wv, .int .i64 (l.2.2 : Int)] := by
  unfold flatL
  rw [List.zip_append h.symm]
  simp
/-- the directives, as they lie -/
structure DirX (w : World) (E : Nat) (ls : List Ln) (blk : List UInt8) (lv : Value) (wvs : List Value) : Prop where
  box : w.heap[E]? = some (dirB lv ⟨blk.toArray⟩)
  own : w.ownsRow (E + 1) 37 3 lv ls.length (flatL ls wvs)
  len : wvs.length = ls.length
  words : ∀ i, i < ls.length → OwnW w 0 (wvs.getD i undef) (ls.getD i ([], [], 0)).2.1
theorem ownW_heap {w W : World} {B : Nat} {v : Value} {P : List (List UInt8)} (h : OwnW w B v P) (hb : ∀ (g : Nat) (cur : Array Value), w.heap[g]? = some (Obj.cells cur 9 (0, 0)) → W.heap[g]? = w.heap[g]?) : OwnW W B v P := by
  obtain ⟨hl, h2⟩ := h
  refine ⟨hl, ?_⟩
  rcases h2 with h2 | ⟨g, cap, cur, rfl, hB, hg, hr⟩
  · exact .inl h2
  · exact .inr ⟨g, cap, cur, rfl, hB, (hb g cur hg).trans hg, hr⟩
theorem own_blocks {w W : World} {B : Nat} {e : TypeId} {z : Nat} {v : Value} {n : Nat} {xs : List Value} (h : w.ownsRow B e z v n xs) (hb : ∀ g : Nat, B ≤ g → g < w.heap.size → W.heap[g]? = w.heap[g]?) : W.ownsRow B e z v n xs := by
  obtain ⟨hl, h2⟩ := h
  refine ⟨hl, ?_⟩
  rcases h2 with h2 | ⟨g, cap, cur, rfl, hB, hg, hr⟩
  · exact .inl h2
  · exact .inr ⟨g, cap, cur, rfl, hB, (hb g hB (Array.getElem?_eq_some_iff.1 hg).1).trans hg, hr⟩
theorem lt_of_some {w : World} {g : Nat} {o : Obj} (h : w.heap[g]? = some o) : g < w.heap.size := (Array.getElem?_eq_some_iff.1 h).1
theorem DirX.below {w w' : World} {E B : Nat} {ls : List Ln} {blk : List UInt8} {lv : Value} {wvs : List Value} (h : DirX w E ls blk lv wvs) (hb : Below B w w') (hB : w.heap.size ≤ B) : DirX w' E ls blk lv wvs :=
  ⟨(hb.block E (by have := lt_of_some h.box; omega)).trans h.box, own_blocks h.own fun g _ hg => hb.block g (by omega), h.len, fun i hi => ownW_heap (h.words i hi) fun g _ hg => hb.block g (by have := lt_of_some hg; omega)⟩
theorem DirX.heap {w w' : World} {E : Nat} {ls : List Ln} {blk : List UInt8} {lv : Value} {wvs : List Value} (h : DirX w E ls blk lv wvs) (hb : w'.heap = w.heap) : DirX w' E ls blk lv wvs :=
  ⟨by rw [hb]; exact h.box, own_blocks h.own fun g _ _ => by rw [hb], h.len, fun i hi => ownW_heap (h.words i hi) fun g _ _ => by rw [hb]⟩
theorem DirX.but {w w' : World} {b E p : Nat} {s : ByteArray} {ls : List Ln} {blk : List UInt8} {lv : Value} {wvs : List Value} (h : DirX w E ls blk lv wvs) (hB : RBox w b s p) (hb : But b w.heap.size w w') (hE : b < E) : DirX w' E ls blk lv wvs :=
  ⟨(hb.block E (lt_of_some h.box) (by omega)).trans h.box, own_blocks h.own fun g h1 h2 => hb.block g h2 (by omega), h.len, fun i hi => ownW_heap (h.words i hi) fun g _ hg => hb.block g (lt_of_some hg) (by rintro rfl; unfold RBox at hB; rw [hB] at hg; simp at hg)⟩
theorem DirX.blk {w : World} {E : Nat} {ls : List Ln} {blk : List UInt8} {lv : Value} {wvs : List Value} (h : DirX w E ls blk lv wvs) (x : List UInt8) : DirX (w.setCell ⟨E, 1, none⟩ (strV x)) E ls x lv wvs := by
  refine ⟨?_, own_blocks h.own fun g h1 _ => Below.heap_setCell w _ _ g (by simp; omega), h.len, fun i hi => ownW_heap (h.words i hi) fun g cur hg => Below.heap_setCell w _ _ g ?_⟩
  · rw [heap_setCell_same _ _ _ _ 46 _ h.box]; rfl
  · simp only [ne_eq]
    rintro rfl
    rw [h.box] at hg
    simp [dirB] at hg
/-- behind an append: the box as it was, and with the directives that grew -/
theorem DirX.push {w w5 : World} {E : Nat} {ls : List Ln} {blk : List UInt8} {lv lv' : Value} {wvs : List Value} (h : DirX w E ls blk lv wvs) {l : Ln} {wv : Value} (hw : OwnW w 0 wv l.2.1)
    (h3 : w5.ownsRow (E + 1) 37 3 lv' (ls.length + 1) (flatL ls wvs ++ [strV l.1, wv, .int .i64 (l.2.2 : Int)])) (h4 : w.grownBy w5 lv.ownBlock) :
    w5.heap[E]? = some (dirB lv ⟨blk.toArray⟩) ∧ DirX (w5.setCell ⟨E, 0, none⟩ lv') E (ls ++ [l]) blk lv' (wvs ++ [wv]) ∧ Below E w (w5.setCell ⟨E, 0, none⟩ lv') := by
  have hb : ∀ g : Nat, g < w.heap.size → (∀ k, lv.ownBlock = some k → g ≠ k) → w5.heap[g]? = w.heap[g]? := fun g h1 h2 => h4.block g h1 (by intro e; exact h2 g e.symm rfl)
  have hE : w5.heap[E]? = w.heap[E]? := hb E (lt_of_some h.box) (fun k hk => by have := (World.ownsRow.lt h.own k hk).1; omega)
  have hW : ∀ (g : Nat) (cur : Array Value), w.heap[g]? = some (Obj.cells cur 9 (0, 0)) → (w5.setCell ⟨E, 0, none⟩ lv').heap[g]? = w.heap[g]? := by
    intro g cur hg
    rw [Below.heap_setCell w5 _ _ g (by
      simp only [ne_eq]
      rintro rfl
      rw [h.box] at hg
      simp [dirB] at hg)]
    refine hb g (lt_of_some hg) (fun k hk => ?_)
    rintro rfl
    rcases h.own.2 with ⟨h1, _⟩ | ⟨g', cap, cur', h1, hB, hg', _⟩
    · rw [h1] at hk; simp [Value.ownBlock] at hk
    · rw [h1] at hk
      simp [Value.ownBlock] at hk
      subst hk
      rw [hg'] at hg
      simp at hg
  refine ⟨hE.trans h.box, ⟨?_, ?_, by simp [h.len], ?_⟩, ?_⟩
  · rw [heap_setCell_same _ _ _ _ 46 _ (hE.trans h.box)]; rfl
  · rw [List.length_append, List.length_singleton, flatL_app _ _ _ _ h.len]
    exact own_blocks h3 fun g h1 _ => Below.heap_setCell w5 _ _ g (by simp; omega)
  · intro i hi
    by_cases h1 : i < ls.length
    · have e1 : (wvs ++ [wv]).getD i undef = wvs.getD i undef := by simp [List.getD_eq_getElem?_getD, List.getElem?_append, h.len, h1]
      have e2 : (ls ++ [l]).getD i ([], [], 0) = ls.getD i ([], [], 0) := by simp [List.getD_eq_getElem?_getD, List.getElem?_append, h1]
      rw [e1, e2]
      exact ownW_heap (h.words i h1) hW
    · have e0 : i = ls.length := by simp at hi; omega
      have e1 : (wvs ++ [wv]).getD i undef = wv := by simp [List.getD_eq_getElem?_getD, h.len, e0]
      have e2 : (ls ++ [l]).getD i ([], [], 0) = l := by simp [List.getD_eq_getElem?_getD, e0]
      rw [e1, e2]
      exact ownW_heap hw hW
  · refine ⟨h4.os, h4.tape, h4.output, by have := h4.size; simp [World.setCell]; exact this, fun g hg => ?_⟩
    rw [Below.heap_setCell w5 _ _ g (by simp; omega)]
    exact hb g (by have := lt_of_some h.box; omega) (fun k hk => by have := (World.ownsRow.lt h.own k hk).1; omega)
def Dir (w : World) (E : Nat) (ls : List Ln) (blk : List UInt8) : Prop := ∃ lv wvs, DirX w E ls blk lv wvs
/-- lines' boxes stand -/
def Keep49 (w V : World) : Prop := ∀ (g : Nat) (c : Array Value), w.heap[g]? = some (Obj.cells c 49 (0, 0)) → V.heap[g]? = some (Obj.cells c 49 (0, 0))
theorem Keep49.trans {u v w : World} (h : Keep49 u v) (k : Keep49 v w) : Keep49 u w := fun g c hg => k g c (h g c hg)
theorem Keep49.below {v w : World} {B : Nat} (hb : Below B v w) (hB : v.heap.size ≤ B) : Keep49 v w := fun g _ hg => (hb.block g (by have := lt_of_some hg; omega)).trans hg
theorem Keep49.heap {v w : World} (hb : w.heap = v.heap) : Keep49 v w := fun g _ hg => by rw [hb]; exact hg
theorem Keep49.set {w : World} {E : Nat} {lv : Value} {B : ByteArray} (h : w.heap[E]? = some (dirB lv B)) (o : Nat) (x : Value) : Keep49 w (w.setCell ⟨E, o, none⟩ x) := fun g c hg => by
  rw [Below.heap_setCell w _ _ g (by
    simp only [ne_eq]
    rintro rfl
    rw [h] at hg
    simp [dirB] at hg)]
  exact hg
theorem Keep49.grow {w W : World} {E : Nat} {ls : List Ln} {blk : List UInt8} {lv : Value} {wvs : List Value} (hg : w.grownBy W lv.ownBlock) (hD : DirX w E ls blk lv wvs) : Keep49 w W := fun k c hk => by
  rw [hg.block k (lt_of_some hk) (fun e => by
    rcases hD.own.2 with ⟨h1, _⟩ | ⟨g', cap, cur', h1, hB, hg', _⟩
    · rw [h1] at e; simp [Value.ownBlock] at e
    · rw [h1] at e
      simp [Value.ownBlock] at e
      subst e
      rw [hg'] at hk
      simp at hk)]
  exact hk
def TakePost (E : Nat) (ls : List Ln) (blk : List UInt8) (ws : List (List UInt8)) (k a : Nat) (w : World) (e : Ending) (w' : World) : Prop :=
  match takeD blk ws k a with
  | none => e = .returned (.bool false) ∧ Below E w w'
  | some (blk', x) => e = .returned (.bool true) ∧ Dir w' E (ls ++ x) blk' ∧ Below E w w' ∧ Keep49 w w'
theorem info37x : (Tryd.prog.info? 37).map (fun i => (i.zero, i.size, i.bytes)) = some (some (.agg #[.string .empty, .slice none 0 0, .int .i64 0]), 3, 48) := by kernel_rfl
theorem zero37 (w : World) : (zeroValue 37).run Tryd.prog w = .ok (.agg #[.string ⟨#[]⟩, .slice none 0 0, .int .i64 0]) w := by kernel_rfl
theorem cellL_new (w : World) (a b c : Value) : ∀ j u, [a, b, c][j]? = some u → (w.alloc (.cells #[a, b, c] 37)).cell? ((⟨w.heap.size, 0, none⟩ : Addr).add j) = some u := by
  intro j u hj
  match j, hj with
  | 0, hj => simp at hj; subst hj; simp [Addr.add]
  | 1, hj => simp at hj; subst hj; simp [Addr.add]
  | 2, hj => simp at hj; subst hj; simp [Addr.add]
theorem oneL (x : ByteArray) (n : Option Addr) (l c : Nat) (a : Int) : ∀ u ∈ ([.string x, .slice n l c, .int .i64 a] : List Value), u.oneCell' = true := by
  intro u hu
  simp at hu
  rcases hu with rfl | rfl | rfl <;> rfl
theorem isSlice_of {w : World} {B : Nat} {e : TypeId} {z n : Nat} {v : Value} {xs : List Value} (h : w.ownsRow B e z v n xs) : ∃ a c, v = .slice a n c := by
  rcases h.2 with ⟨rfl, hn⟩ | ⟨g, cap, cur, rfl, _⟩
  · exact ⟨none, 0, by rw [hn]⟩
  · exact ⟨_, _, rfl⟩

theorem DirX.allocD {V V1 : World} {E : Nat} {ls : List Ln} {blk : List UInt8} {lv : Value} {wvs : List Value} (h : DirX V1 E ls blk lv wvs) (hh : V.heap = V1.heap) (o : Obj) : DirX (V.alloc o).drew E ls blk lv wvs :=
  ((h.heap (w' := V) hh).below ((Below.refl _ V).alloc (Nat.le_refl _) o) (Nat.le_refl _)).heap rfl
theorem ownW_allocD {V V1 : World} {v : Value} {P : List (List UInt8)} (h : OwnW V1 0 v P) (hh : V.heap = V1.heap) (o : Obj) : OwnW (V.alloc o).drew 0 v P := by
  have h1 : OwnW V 0 v P := ownW_heap h fun g _ _ => by rw [hh]
  have h2 : OwnW (V.alloc o) 0 v P := ownW_below h1 ((Below.refl _ V).alloc (Nat.le_refl _) o) (Nat.le_refl _)
  exact ownW_heap h2 fun g _ _ => rfl
/-- within a line's adding: the line's box stands, and nothing below the directives' has turned -/
structure TS (w : World) (E R : Nat) (c : Array Value) (V : World) : Prop where
  below : Below E w V
  lt : E < R
  row : V.heap[R]? = some (.cells c 49 (0, 0))
  keep : Keep49 w V
theorem TS.room {w V : World} {E R : Nat} {c : Array Value} (h : TS w E R c V) : E + 1 ≤ V.heap.size := by have := lt_of_some h.row; have := h.lt; omega
section
variable {w W V : World} {E R : Nat} {B : ByteArray} {wv : Value} {c : Array Value}
theorem S8_alloc (h : V.cell? ⟨E, 1, none⟩ = some (.string B) ∧ V.cell? ⟨R, 0, none⟩ = some wv ∧ Hid (TS w E R c V)) (o : Obj) :
    (V.alloc o).cell? ⟨E, 1, none⟩ = some (.string B) ∧ (V.alloc o).cell? ⟨R, 0, none⟩ = some wv ∧ Hid (TS w E R c (V.alloc o)) := by
  obtain ⟨h1, h2, h3⟩ := h
  have h4 := h3.out
  exact ⟨by rw [World.cell?_alloc_some _ _ _ (by rw [h1]; rfl)]; exact h1, by rw [World.cell?_alloc_some _ _ _ (by rw [h2]; rfl)]; exact h2, h4.below.alloc (by have := h4.room; omega) o, h4.lt, (heap_alloc_old V o (lt_of_some h4.row)).trans h4.row, h4.keep.trans (Keep49.below ((Below.refl _ V).alloc (Nat.le_refl _) o) (Nat.le_refl _))⟩
theorem S8_grow {ls : List Ln} {blk : List UInt8} {lv : Value} {wvs : List Value} (h : V.cell? ⟨E, 1, none⟩ = some (.string B) ∧ V.cell? ⟨R, 0, none⟩ = some wv ∧ Hid (TS w E R c V)) (hg : V.grownBy W lv.ownBlock) (hD : DirX V E ls blk lv wvs) :
    W.cell? ⟨E, 1, none⟩ = some (.string B) ∧ W.cell? ⟨R, 0, none⟩ = some wv ∧ Hid (TS w E R c W) := by
  obtain ⟨h1, h2, h3⟩ := h
  obtain ⟨h4, h6, h7, h8⟩ := h3.out
  have h5 := lt_of_some h7
  have hE : W.heap[E]? = V.heap[E]? := hg.block E (by omega) (fun e => by have := (World.ownsRow.lt hD.own E e.symm).1; omega)
  have hR : W.heap[R]? = V.heap[R]? := hg.block R h5 (fun e => by
    rcases hD.own.2 with ⟨h1, _⟩ | ⟨g', cap, cur', h1, hB, hg', _⟩
    · rw [h1] at e; simp [Value.ownBlock] at e
    · rw [h1] at e
      simp [Value.ownBlock] at e
      subst e
      rw [hg'] at h7
      simp at h7)
  exact ⟨(World.cell?_of_block (w := V) (a := ⟨E, 1, none⟩) hE).trans h1, (World.cell?_of_block (w := V) (a := ⟨R, 0, none⟩) hR).trans h2, h4.grown hg (by omega) (fun k hk => by have := (World.ownsRow.lt hD.own k hk).1; omega), h6, hR.trans h7, h8.trans (Keep49.grow hg hD)⟩
theorem S8_set {lv : Value} {D : ByteArray} (hX : V.heap[E]? = some (dirB lv D)) (h : V.cell? ⟨E, 1, none⟩ = some (.string B) ∧ V.cell? ⟨R, 0, none⟩ = some wv ∧ Hid (TS w E R c V)) (x : Value) :
    (V.setCell ⟨E, 0, none⟩ x).cell? ⟨E, 1, none⟩ = some (.string B) ∧ (V.setCell ⟨E, 0, none⟩ x).cell? ⟨R, 0, none⟩ = some wv ∧ Hid (TS w E R c (V.setCell ⟨E, 0, none⟩ x)) := by
  obtain ⟨h1, h2, h3⟩ := h
  obtain ⟨h4, h6, h7, h8⟩ := h3.out
  have hR : (V.setCell ⟨E, 0, none⟩ x).heap[R]? = V.heap[R]? := Below.heap_setCell V _ _ R (by simp; omega)
  have hE1 : (V.setCell ⟨E, 0, none⟩ x).cell? ⟨E, 1, none⟩ = V.cell? ⟨E, 1, none⟩ := World.cell?_setCell_other _ _ _ _ (by simp)
  exact ⟨hE1.trans h1, (World.cell?_of_block (w := V) (a := ⟨R, 0, none⟩) hR).trans h2, h4.trans ⟨rfl, rfl, rfl, by simp [World.setCell], fun g hg => Below.heap_setCell V _ _ g (by simp; omega)⟩, h6, hR.trans h7, h8.trans (Keep49.set hX _ _)⟩
end

theorem clone_none (ad : Addr) (c : Nat) (V : World) : Calls Tryd.prog 41 #[.slice (some ad) 0 c] V fun e w' => ∃ na nc, e = .returned (.slice na 0 nc) ∧ OwnW w' V.heap.size (.slice na 0 nc) [] ∧ Below V.heap.size V w' := by
  refine (Tryd.slices_Clone_string_zero ad c V).mono ?_
  rintro e w' ⟨v', rfl, h1, _, h2⟩
  obtain ⟨na, nc, rfl⟩ := isSlice_of h1
  exact ⟨na, nc, rfl, h1, h2⟩
theorem clone_tail (g c1 : Nat) (x : List UInt8) (r : List (List UInt8)) (cur : Array Value) (V : World) (hg : V.heap[g]? = some (.cells cur 9 (0, 0))) (hcu : ∀ j (hj : j < (x :: r).length), cur[j]? = some (strV (x :: r)[j])) (h6 : r.length ≤ 1000000) :
    Calls Tryd.prog 41 #[.slice (some ⟨g, 1, none⟩) r.length c1] V fun e w' => ∃ na nc, e = .returned (.slice na r.length nc) ∧ OwnW w' V.heap.size (.slice na r.length nc) r ∧ Below V.heap.size V w' := by
  refine (Tryd.slices_Clone_string g 1 r.length c1 (r.map fun y => (⟨y.toArray⟩ : ByteArray)) V (by simp) (by omega) ?_).mono ?_
  · intro j hj
    simp at hj
    rw [cell_of_row V g _ _ 9 (0, 0) hg]
    have h1 := hcu (1 + j) (by simp; omega)
    rw [h1]
    simp only [strV, List.getD_eq_getElem?_getD, List.getElem?_map]
    rw [List.getElem?_eq_getElem hj]
    simp [Nat.add_comm 1 j]
  · rintro e w' ⟨v', rfl, h1, _, h2⟩
    obtain ⟨na, nc, rfl⟩ := isSlice_of h1
    refine ⟨na, nc, rfl, ?_, h2⟩
    have e1 : ((r.map fun y => (⟨y.toArray⟩ : ByteArray)).take r.length).map Value.string = r.map strV := by
      rw [List.take_of_length_le (by simp), List.map_map]
      rfl
    rw [e1] at h1
    exact h1
/-- .. and the line's words stand -/
structure TS2 (w : World) (E R g : Nat) (c cur : Array Value) (V : World) : Prop where
  ts : TS w E R c V
  wrd : V.heap[g]? = some (.cells cur 9 (0, 0))
section
variable {w W V : World} {E R g : Nat} {c cur : Array Value}
theorem TS2.full {wv : Value} {X : ByteArray} (h : TS2 w E R g c cur V) (h1 : c[0]? = some wv) (h2 : cur[0]? = some (.string X)) :
    V.cell? ⟨R, 0, none⟩ = some wv ∧ V.cell? ⟨g, 0, none⟩ = some (.string X) ∧ Hid (TS2 w E R g c cur V) :=
  ⟨by rw [cell_of_row V R _ _ 49 (0, 0) h.ts.row]; exact h1, by rw [cell_of_row V g _ _ 9 (0, 0) h.wrd]; exact h2, h⟩
theorem TS2.below2 {B : Nat} (h : TS2 w E R g c cur V) (hb : Below B V W) (hB : V.heap.size ≤ B) : TS2 w E R g c cur W :=
  ⟨⟨h.ts.below.trans (hb.mono (by have := h.ts.room; omega)), h.ts.lt, (hb.block R (by have := lt_of_some h.ts.row; omega)).trans h.ts.row, h.ts.keep.trans (Keep49.below hb hB)⟩, (hb.block g (by have := lt_of_some h.wrd; omega)).trans h.wrd⟩
theorem TS2.alloc (h : TS2 w E R g c cur V) (o : Obj) : TS2 w E R g c cur (V.alloc o) := h.below2 ((Below.refl _ V).alloc (Nat.le_refl _) o) (Nat.le_refl _)
theorem TS2.grow {ls : List Ln} {blk : List UInt8} {lv : Value} {wvs : List Value} (h : TS2 w E R g c cur V) (hg : V.grownBy W lv.ownBlock) (hD : DirX V E ls blk lv wvs) : TS2 w E R g c cur W := by
  have key : ∀ (k : Nat) (ob : Array Value) (ty : TypeId), ty ≠ 37 → V.heap[k]? = some (Obj.cells ob ty (0, 0)) → W.heap[k]? = V.heap[k]? := by
    intro k ob ty hty hk
    refine hg.block k (lt_of_some hk) (fun e => ?_)
    rcases hD.own.2 with ⟨h1, _⟩ | ⟨g', cap, cur', h1, hB, hg', _⟩
    · rw [h1] at e; simp [Value.ownBlock] at e
    · rw [h1] at e
      simp [Value.ownBlock] at e
      subst e
      rw [hg'] at hk
      simp at hk
      exact hty hk.2.symm
  exact ⟨⟨h.ts.below.grown hg (by have := h.ts.room; omega) (fun k hk => by have := (World.ownsRow.lt hD.own k hk).1; omega), h.ts.lt, (key R _ 49 (by decide) h.ts.row).trans h.ts.row, h.ts.keep.trans (Keep49.grow hg hD)⟩, (key g _ 9 (by decide) h.wrd).trans h.wrd⟩
theorem TS2.set {lv : Value} {D : ByteArray} (hX : V.heap[E]? = some (dirB lv D)) (h : TS2 w E R g c cur V) (hE : g ≠ E) (x : Value) : TS2 w E R g c cur (V.setCell ⟨E, 0, none⟩ x) :=
  ⟨⟨h.ts.below.trans ⟨rfl, rfl, rfl, by simp [World.setCell], fun k hk => Below.heap_setCell V _ _ k (by simp; omega)⟩, h.ts.lt, (Below.heap_setCell V _ _ R (by have := h.ts.lt; simp; omega)).trans h.ts.row, h.ts.keep.trans (Keep49.set hX _ _)⟩, (Below.heap_setCell V _ _ g (by simpa using hE)).trans h.wrd⟩
end

set_option maxHeartbeats 8000000 in
set_option maxRecDepth 100000 in
theorem dtake_any (E : Nat) (ls : List Ln) (blk : List UInt8) (lv : Value) (wvs : List Value) (wv : Value) (ws : List (List UInt8)) (k : Nat) (last : Bool) (a : Nat) (w : World) (hD : DirX w E ls blk lv wvs) (hW : OwnW w 0 wv ws)
    (hk : k = 0 ∨ k = 3 ∨ k = 4) (hn : ls.length ≤ 1000000) (hw6 : ws.length ≤ 1000000) :
    Calls Tryd.prog 21 #[.pointer (some ⟨E, 0, none⟩), .agg #[wv, .int .i64 (k : Int), .bool last], .int .i64 (a : Int)] w fun e w' => TakePost E ls blk ws k a w e w' := by
  obtain ⟨i0, hi, hz0, hz1, hz2⟩ := info_parts info37x
  obtain ⟨wa, wc, hv⟩ := hW.isSlice
  obtain ⟨wl, hwl⟩ : ∃ wl, wl = ws.length := ⟨_, rfl⟩
  rw [← hwl] at hv
  subst hv
  have HWL := hidM hwl
  clear hwl
  have hEl := lt_of_some hD.box
  have HB1 : Hid (Below w.heap.size w (w.alloc (.cells #[.slice wa wl wc, .int .i64 (k : Int), .bool last] 49))) := (Below.refl _ w).alloc (Nat.le_refl _) _
  have HD1 := hidM (hD.below HB1.out (Nat.le_refl _))
  have HW1 := hidM (ownW_below hW HB1.out (Nat.le_refl _))
  have HR1 : Hid ((w.alloc (.cells #[.slice wa wl wc, .int .i64 (k : Int), .bool last] 49)).heap[w.heap.size]? = some (rowB (.slice wa wl wc) k last)) := heap_alloc_new w _
  obtain ⟨r0, r1, r2, _⟩ := row_cells HR1.out
  obtain ⟨d0, d1, df⟩ := dir_cells HD1.out.box
  obtain ⟨B, hB⟩ : ∃ B : ByteArray, B = ⟨blk.toArray⟩ := ⟨_, rfl⟩
  have hBL : B.toList = blk := by rw [hB, Lib.toList_data]
  rw [← hB] at d1
  have HBB := hidM hB
  have HBL := hidM hBL
  have HX1 := hidM HD1.out.box
  rw [← hB] at HX1
  have hz37 := zero37
  clear hD hW hB hBL df
  generalize hW1 : w.alloc (.cells #[.slice wa wl wc, .int .i64 (k : Int), .bool last] 49) = W1 at *
  obtain ⟨kI, hkI⟩ : ∃ kI : Int, kI = (k : Int) := ⟨_, rfl⟩
  rw [← hkI] at r1 hW1 ⊢
  have HKI := hidM hkI
  have HE1 := hidM hW1
  have HBE : Hid (Below E w W1) := HB1.out.mono (by omega)
  have HKP : Hid (Keep49 w W1) := Keep49.below HB1.out (Nat.le_refl _)
  clear hW1 hkI
  rcases hk with rfl | rfl | rfl
  · cases ws with
    | nil =>
      have HP : Hid (∀ e V, e = .returned (.bool true) → V = W1 → TakePost E ls blk [] 0 a w e V) := by
        rintro e V rfl rfl
        exact ⟨rfl, ⟨lv, wvs, by simpa using HD1.out⟩, HBE.out, HKP.out⟩
      obtain rfl : wl = 0 := HWL.out
      obtain rfl : kI = 0 := HKI.out
      go_enter Tryd.func21, Tryd.ntmps21
      go_upto_block 0 with fail
      rw [HE1.out]
      go_wp2
      go_ret
      exact HP.out _ _ rfl rfl
    | cons x r =>
      have hwz : ((wl : Int) == 0) = false := by rw [HWL.out]; simp; omega
      have HM1 : Hid (ls.length + 1 ≤ maxLen) := by unfold Hid maxLen; omega
      have HM2 : Hid ((ls.length + 1) * 48 ≤ 140737488355328) := by unfold Hid; omega
      obtain ⟨rc, hrc⟩ : ∃ rc : Array Value, rc = #[.slice wa wl wc, .int .i64 ((0 : Nat) : Int), .bool last] := ⟨_, rfl⟩
      have HRD := hidM hrc
      have HS1 : Hid (TS w E w.heap.size rc W1.drew) := ⟨⟨HBE.out.os, HBE.out.tape, HBE.out.output, HBE.out.size, HBE.out.block⟩, hEl, by rw [hrc]; exact HR1.out, HKP.out⟩
      have HD1 := hidM (HD1.out.heap (w' := W1.drew) rfl)
      have HW1 : Hid (OwnW W1.drew 0 (.slice wa wl wc) (x :: r)) := ownW_heap HW1.out fun _ _ _ => rfl
      clear hrc
      by_cases hb0 : blk = []
      · have h3 : B.toList.isEmpty = true := by rw [HBL.out, hb0]; rfl
        have hW2 := HW1.out.2
        rcases hW2 with ⟨_, h0⟩ | ⟨g, cap, cur, hsl, _, hg, hnc, hcm, hcs, htk⟩
        · simp at h0
        · simp only [Value.slice.injEq] at hsl
          obtain ⟨h1, -, h3⟩ := hsl
          subst h1
          subst h3
          have hcu : ∀ j (hj : j < (x :: r).length), cur[j]? = some (strV (x :: r)[j]) := by
            intro j hj
            have h1 : (cur.toList.take ((x :: r).length * 1))[j]? = some (strV (x :: r)[j]) := by rw [htk]; simp only [List.getElem?_map, List.getElem?_eq_getElem hj, Option.map_some]
            rw [List.getElem?_take] at h1
            split at h1
            · rw [Array.getElem?_toList] at h1; exact h1
            · cases h1
          obtain ⟨X, hX⟩ : ∃ X : ByteArray, X = ⟨x.toArray⟩ := ⟨_, rfl⟩
          have HXX := hidM hX
          have HCU : Hid (cur[0]? = some (.string X)) := by unfold Hid; rw [hX]; exact hcu 0 (by simp)
          have HRC : Hid (rc[0]? = some (.slice (some ⟨g, 0, none⟩) wl wc)) := by unfold Hid; rw [HRD.out]; rfl
          have hgE : g ≠ E := by
            rintro rfl
            have := HD1.out.box
            rw [hg] at this
            simp [dirB] at this
          have hgE2 := hgE.symm
          have c0 : W1.cell? ⟨g, 0, none⟩ = some (.string X) := by rw [cell_of_row W1 g _ _ 9 (0, 0) hg]; exact HCU.out
          have HCUR := hidM hcu
          have hXL : X.toList.isEmpty = x.isEmpty := by rw [hX, Lib.toList_data]
          have HS2 : Hid (TS2 w E w.heap.size g rc cur W1.drew) := ⟨HS1.out, hg⟩
          have HWR : Hid (wl = r.length + 1) := HWL.out
          have hnc2 : wl ≤ wc := by rw [HWR.out]; exact hnc
          have hwp : 1 ≤ wl := by rw [HWR.out]; omega
          clear hcu hcs htk hX hnc
          by_cases hx0 : x = []
          · subst hx0
            have hXE : X.toList.isEmpty = true := hXL
            have HP : Hid (∀ e V, e = .returned (.bool false) → V = W1 → TakePost E ls blk ([] :: r) 0 a w e V) := by
              rintro e V rfl rfl
              unfold TakePost takeD
              simp [hb0]
              exact HBE.out
            clear hXL hb0
            obtain rfl : kI = 0 := HKI.out
            go_enter Tryd.func21, Tryd.ntmps21
            go_upto_block 0 with fail
            rw [HE1.out]

            go_wp2
            go_ret
            exact HP.out _ _ rfl rfl
          · have hXE : X.toList.isEmpty = false := by
              rw [hXL]
              cases x with
              | nil => exact absurd rfl hx0
              | cons _ _ => rfl
            have HFIN : Hid (∀ V lv' wvs', DirX V E (ls ++ [(x, r, a)]) blk lv' wvs' → Below E w V → Keep49 w V → ∀ e, e = .returned (.bool true) → TakePost E ls blk (x :: r) 0 a w e V) := by
              rintro V lv' wvs' h1 h2 h5 e rfl
              unfold TakePost takeD
              simp [hb0, hx0]
              rw [hb0] at h1
              exact ⟨⟨lv', wvs', h1⟩, h2, h5⟩
            clear hXL hb0 hx0
            by_cases hw1 : wc = 1
            · subst hw1
              obtain rfl : wl = 1 := by omega
              obtain rfl : r = [] := List.eq_nil_of_length_eq_zero (by have := HWR.out; omega)
              have HCLN : Hid (∀ V, Hid (TS2 w E w.heap.size g rc cur V) → Calls Tryd.prog 41 #[.slice (some ⟨g, 0, none⟩) 0 0] V fun e w' => ∃ na nc, e = .returned (.slice na ([] : List (List UInt8)).length nc) ∧ OwnW w' V.heap.size (.slice na ([] : List (List UInt8)).length nc) [] ∧ Below V.heap.size V w') := fun V _ => clone_none _ _ V
              simp only [List.length_nil] at HCLN
              obtain rfl : kI = 0 := HKI.out
              go_enter Tryd.func21, Tryd.ntmps21
              go_upto_block 0 with fail
              rw [HE1.out]

              go_upto_region 12 with fail
              refine wp_region_noPanic ?_
              refine wp_region_held_drew (S := (fun w' => w'.cell? ⟨w.heap.size, 0, none⟩ = some (.slice (some ⟨g, 0, none⟩) 1 1) ∧ w'.cell? ⟨g, 0, none⟩ = some (.string X) ∧ Hid (TS2 w E w.heap.size g rc cur w'))) (by kernel_rfl) ?_ (fun hHeld => ?_)
              · exact HS2.out.full HRC.out HCU.out
              refine wpAnyH_take (i := 0) (v := ?_) rfl (by kernel_rfl) (by kernel_rfl) (by kernel_rfl) (fun _ _ _ h => h) (Or.inl ⟨by kernel_rfl, ?_⟩) (by assumption) ?_
              rotate_left
              · intro w hSw
                clear hSw
                go_simp
                try with_reducible rfl
              change wpAnyH _ _ _ _ _ _ _ (⟨#[_, _, _, _, _, _, _, _, _, _, _, _, _, _, _, _, _, _, _, _, _, _, _, _, _, _, _, _, _, _, _, _, _, _, _, _, _, _, _, _, _, _, _, _, _, _, _, _, _, _, _, _, _, _, _, _, _, _, _, _, _, _, _, _, _, _, _, _, _, _, _, _, _, _, _, _], _⟩ : Act) _
              refine wpAnyH_take (i := 1) (v := ?_) rfl (by kernel_rfl) (by kernel_rfl) (by kernel_rfl) (fun _ _ _ h => h) (Or.inl ⟨by kernel_rfl, ?_⟩) (by assumption) ?_
              rotate_left
              · intro w hSw
                clear hSw
                go_simp
                try with_reducible rfl
              change wpAnyH _ _ _ _ _ _ _ (⟨#[_, _, _, _, _, _, _, _, _, _, _, _, _, _, _, _, _, _, _, _, _, _, _, _, _, _, _, _, _, _, _, _, _, _, _, _, _, _, _, _, _, _, _, _, _, _, _, _, _, _, _, _, _, _, _, _, _, _, _, _, _, _, _, _, _, _, _, _, _, _, _, _, _, _, _, _], _⟩ : Act) _
              refine wpAnyH_take (i := 2) (v := ?_) rfl (by kernel_rfl) (by kernel_rfl) (by kernel_rfl) (fun _ _ _ h => h) (Or.inl ⟨by kernel_rfl, ?_⟩) (by assumption) ?_
              rotate_left
              · intro w hSw
                clear hSw
                go_simp
                try with_reducible rfl
              change wpAnyH _ _ _ _ _ _ _ (⟨#[_, _, _, _, _, _, _, _, _, _, _, _, _, _, _, _, _, _, _, _, _, _, _, _, _, _, _, _, _, _, _, _, _, _, _, _, _, _, _, _, _, _, _, _, _, _, _, _, _, _, _, _, _, _, _, _, _, _, _, _, _, _, _, _, _, _, _, _, _, _, _, _, _, _, _, _], _⟩ : Act) _
              refine wpAnyH_take (i := 3) (v := ?_) rfl (by kernel_rfl) (by kernel_rfl) (by kernel_rfl) (fun _ _ _ h => h) (Or.inl ⟨by kernel_rfl, ?_⟩) (by assumption) ?_
              rotate_left
              · intro w hSw
                clear hSw
                go_simp
                try with_reducible rfl
              change wpAnyH _ _ _ _ _ _ _ (⟨#[_, _, _, _, _, _, _, _, _, _, _, _, _, _, _, _, _, _, _, _, _, _, _, _, _, _, _, _, _, _, _, _, _, _, _, _, _, _, _, _, _, _, _, _, _, _, _, _, _, _, _, _, _, _, _, _, _, _, _, _, _, _, _, _, _, _, _, _, _, _, _, _, _, _, _, _], _⟩ : Act) _
              refine wpAnyH_take (i := 5) (v := ?_) rfl (by kernel_rfl) (by kernel_rfl) (by kernel_rfl) (fun _ _ _ h => h) (Or.inl ⟨by kernel_rfl, ?_⟩) (by assumption) ?_
              rotate_left
              · intro w hSw
                clear hSw
                go_simp
                try with_reducible rfl
              change wpAnyH _ _ _ _ _ _ _ (⟨#[_, _, _, _, _, _, _, _, _, _, _, _, _, _, _, _, _, _, _, _, _, _, _, _, _, _, _, _, _, _, _, _, _, _, _, _, _, _, _, _, _, _, _, _, _, _, _, _, _, _, _, _, _, _, _, _, _, _, _, _, _, _, _, _, _, _, _, _, _, _, _, _, _, _, _, _], _⟩ : Act) _
              refine wpAnyH_take (i := 6) (v := ?_) rfl (by kernel_rfl) (by kernel_rfl) (by kernel_rfl) (fun _ _ _ h => h) (Or.inl ⟨by kernel_rfl, ?_⟩) (by assumption) ?_
              rotate_left
              · intro w hSw
                obtain ⟨c2, c3, _⟩ := hSw
                go_simp
                try with_reducible rfl
              change wpAnyH _ _ _ _ _ _ _ (⟨#[_, _, _, _, _, _, _, _, _, _, _, _, _, _, _, _, _, _, _, _, _, _, _, _, _, _, _, _, _, _, _, _, _, _, _, _, _, _, _, _, _, _, _, _, _, _, _, _, _, _, _, _, _, _, _, _, _, _, _, _, _, _, _, _, _, _, _, _, _, _, _, _, _, _, _, _], _⟩ : Act) _
              refine wpAnyH_take (i := 7) (v := ?_) rfl (by kernel_rfl) (by kernel_rfl) (by kernel_rfl) (fun _ _ _ h => h) (Or.inl ⟨by kernel_rfl, ?_⟩) (by assumption) ?_
              rotate_left
              · intro w hSw
                clear hSw
                go_simp
                try with_reducible rfl
              change wpAnyH _ _ _ _ _ _ _ (⟨#[_, _, _, _, _, _, _, _, _, _, _, _, _, _, _, _, _, _, _, _, _, _, _, _, _, _, _, _, _, _, _, _, _, _, _, _, _, _, _, _, _, _, _, _, _, _, _, _, _, _, _, _, _, _, _, _, _, _, _, _, _, _, _, _, _, _, _, _, _, _, _, _, _, _, _, _], _⟩ : Act) _
              refine wpAnyH_take (i := 8) (v := ?_) rfl (by kernel_rfl) (by kernel_rfl) (by kernel_rfl) (fun _ _ _ h => h) (Or.inl ⟨by kernel_rfl, ?_⟩) (by assumption) ?_
              rotate_left
              · intro w hSw
                obtain ⟨c2, c3, _⟩ := hSw
                go_simp
                try with_reducible rfl
              change wpAnyH _ _ _ _ _ _ _ (⟨#[_, _, _, _, _, _, _, _, _, _, _, _, _, _, _, _, _, _, _, _, _, _, _, _, _, _, _, _, _, _, _, _, _, _, _, _, _, _, _, _, _, _, _, _, _, _, _, _, _, _, _, _, _, _, _, _, _, _, _, _, _, _, _, _, _, _, _, _, _, _, _, _, _, _, _, _], _⟩ : Act) _
              refine wpAnyH_take (i := 9) (v := ?_) rfl (by kernel_rfl) (by kernel_rfl) (by kernel_rfl) (fun _ _ _ h => h) (Or.inl ⟨by kernel_rfl, ?_⟩) (by assumption) ?_
              rotate_left
              · intro w hSw
                clear hSw
                go_simp
                try with_reducible rfl
              change wpAnyH _ _ _ _ _ _ _ (⟨#[_, _, _, _, _, _, _, _, _, _, _, _, _, _, _, _, _, _, _, _, _, _, _, _, _, _, _, _, _, _, _, _, _, _, _, _, _, _, _, _, _, _, _, _, _, _, _, _, _, _, _, _, _, _, _, _, _, _, _, _, _, _, _, _, _, _, _, _, _, _, _, _, _, _, _, _], _⟩ : Act) _
              refine wpAnyH_take (i := 10) (v := ?_) rfl (by kernel_rfl) (by kernel_rfl) (by kernel_rfl) (fun _ _ _ h => h) (Or.inl ⟨by kernel_rfl, ?_⟩) (by assumption) ?_
              rotate_left
              · intro w hSw
                obtain ⟨c2, c3, _⟩ := hSw
                go_simp
                try with_reducible rfl
              change wpAnyH _ _ _ _ _ _ _ (⟨#[_, _, _, _, _, _, _, _, _, _, _, _, _, _, _, _, _, _, _, _, _, _, _, _, _, _, _, _, _, _, _, _, _, _, _, _, _, _, _, _, _, _, _, _, _, _, _, _, _, _, _, _, _, _, _, _, _, _, _, _, _, _, _, _, _, _, _, _, _, _, _, _, _, _, _, _], _⟩ : Act) _
              refine wpAnyH_take (i := 11) (v := ?_) rfl (by kernel_rfl) (by kernel_rfl) (by kernel_rfl) (fun _ _ _ h => h) (Or.inl ⟨by kernel_rfl, ?_⟩) (by assumption) ?_
              rotate_left
              · intro w hSw
                clear hSw
                go_simp
                try with_reducible rfl
              change wpAnyH _ _ _ _ _ _ _ (⟨#[_, _, _, _, _, _, _, _, _, _, _, _, _, _, _, _, _, _, _, _, _, _, _, _, _, _, _, _, _, _, _, _, _, _, _, _, _, _, _, _, _, _, _, _, _, _, _, _, _, _, _, _, _, _, _, _, _, _, _, _, _, _, _, _, _, _, _, _, _, _, _, _, _, _, _, _], _⟩ : Act) _
              refine wpAnyH_take (i := 13) (v := ?_) rfl (by kernel_rfl) (by kernel_rfl) (by kernel_rfl) (fun _ _ _ h => h) (Or.inl ⟨by kernel_rfl, ?_⟩) (by assumption) ?_
              rotate_left
              · intro w hSw
                clear hSw
                go_simp
                try with_reducible rfl
              change wpAnyH _ _ _ _ _ _ _ (⟨#[_, _, _, _, _, _, _, _, _, _, _, _, _, _, _, _, _, _, _, _, _, _, _, _, _, _, _, _, _, _, _, _, _, _, _, _, _, _, _, _, _, _, _, _, _, _, _, _, _, _, _, _, _, _, _, _, _, _, _, _, _, _, _, _, _, _, _, _, _, _, _, _, _, _, _, _], _⟩ : Act) _
              refine wpAnyH_ready (rs := [4, 12]) (by kernel_rfl) (by simp) ?_
              refine AllReadyH.cons rfl (fun K hK => ?_) (AllReadyH.cons rfl (fun K hK => ?_) (AllReadyH.nil))
              · have e0 := (dir_cells HD1.out.box).1
                go_simp
                refine hK.out _ _ hHeld (fun hHeld => ?_)
                clear hK K e0
                change wpAnyH _ _ _ _ _ _ _ (⟨#[_, _, _, _, _, _, _, _, _, _, _, _, _, _, _, _, _, _, _, _, _, _, _, _, _, _, _, _, _, _, _, _, _, _, _, _, _, _, _, _, _, _, _, _, _, _, _, _, _, _, _, _, _, _, _, _, _, _, _, _, _, _, _, _, _, _, _, _, _, _, _, _, _, _, _, _], _⟩ : Act) _
                refine wpAnyH_ready (rs := [12]) (by kernel_rfl) (by simp) ?_
                refine AllReadyH.cons rfl (fun K hK => ?_) AllReadyH.nil
                go_simp
                with_reducible refine (HCLN.out _ hHeld.2.2).mono ?_
                rintro _ w9 ⟨na9, nc9, rfl, hown9, hb9⟩
                have HD9 : Hid (DirX w9 E ls blk lv wvs) := DirX.below (w := W1.drew) ((HD1.out).heap rfl) hb9 (Nat.le_refl _)
                have HW9 : Hid (OwnW w9 0 (.slice na9 0 nc9) []) := ownW_mono hown9 (Nat.zero_le _)
                refine hK.out _ _ ((hHeld.2.2.out.below2 hb9 (Nat.le_refl _)).full HRC.out HCU.out) (fun hHeld => ?_)
                clear hK K hown9 hb9
                change wpAnyH _ _ _ _ _ _ _ (⟨#[_, _, _, _, _, _, _, _, _, _, _, _, _, _, _, _, _, _, _, _, _, _, _, _, _, _, _, _, _, _, _, _, _, _, _, _, _, _, _, _, _, _, _, _, _, _, _, _, _, _, _, _, _, _, _, _, _, _, _, _, _, _, _, _, _, _, _, _, _, _, _, _, _, _, _, _], _⟩ : Act) _
                refine wpAnyH_take (i := 14) (v := ?_) rfl (by kernel_rfl) (by kernel_rfl) (by kernel_rfl) (fun _ _ _ h => h) (Or.inl ⟨by kernel_rfl, ?_⟩) (by assumption) ?_
                rotate_left
                · intro w hSw
                  clear hSw
                  go_simp
                  try with_reducible rfl
                change wpAnyH _ _ _ _ _ _ _ (⟨#[_, _, _, _, _, _, _, _, _, _, _, _, _, _, _, _, _, _, _, _, _, _, _, _, _, _, _, _, _, _, _, _, _, _, _, _, _, _, _, _, _, _, _, _, _, _, _, _, _, _, _, _, _, _, _, _, _, _, _, _, _, _, _, _, _, _, _, _, _, _, _, _, _, _, _, _], _⟩ : Act) _
                refine wpAnyH_ready (rs := [15]) (by kernel_rfl) (by simp) ?_
                refine AllReadyH.cons rfl (fun K hK => ?_) AllReadyH.nil
                go_simp
                have HDb : Hid (DirX (w9.alloc (.cells #[.string X, .slice na9 0 nc9, .int .i64 (a : Int)] 37)) E ls blk lv wvs) := DirX.below HD9.out ((Below.refl _ w9).alloc (Nat.le_refl _) _) (Nat.le_refl _)
                have HWb : Hid (OwnW (w9.alloc (.cells #[.string X, .slice na9 0 nc9, .int .i64 (a : Int)] 37)) 0 (.slice na9 0 nc9) []) := ownW_below HW9.out ((Below.refl _ w9).alloc (Nat.le_refl _) _) (Nat.le_refl _)
                refine hK.out _ _ ((hHeld.2.2.out.alloc _).full HRC.out HCU.out) (fun hHeld => ?_)
                clear hK K
                change wpAnyH _ _ _ _ _ _ _ (⟨#[_, _, _, _, _, _, _, _, _, _, _, _, _, _, _, _, _, _, _, _, _, _, _, _, _, _, _, _, _, _, _, _, _, _, _, _, _, _, _, _, _, _, _, _, _, _, _, _, _, _, _, _, _, _, _, _, _, _, _, _, _, _, _, _, _, _, _, _, _, _, _, _, _, _, _, _], _⟩ : Act) _
                refine wpAnyH_ready (rs := [16]) (by kernel_rfl) (by simp) ?_
                refine AllReadyH.cons rfl (fun K hK => ?_) AllReadyH.nil
                refine step_append_own rfl _ _ 23 rfl (E + 1) 37 i0 (.agg #[.string .empty, .slice none 0 0, .int .i64 0]) 3 48 Tryd.underlying23 hi hz0 hz1 hz2 rfl (by decide) lv ls.length (flatL ls wvs) rfl HDb.out.own ⟨w9.heap.size, 0, none⟩ 1 1 [.string X, .slice na9 0 nc9, .int .i64 (a : Int)] (by rfl) rfl (cellL_new _ _ _ _) (oneL _ _ _ _ _) HM1.out HM2.out hHeld.2.2.out.ts.room ?_
                intro v' w10 hown' hgrow
                have hown2 := hown'
                rw [HXX.out] at hown2
                obtain ⟨pa, pb, pc⟩ := DirX.push (l := (x, [], a)) HDb.out HWb.out hown2 hgrow
                obtain ⟨na, nc, hv'⟩ := isSlice_of hown'
                subst hv'
                have HP := hidM (And.intro pa (And.intro pb pc))
                clear pa pb pc hown' hown2
                refine hK.out _ _ ((hHeld.2.2.out.grow hgrow HDb.out).full HRC.out HCU.out) (fun hHeld => ?_)
                clear hK K hgrow
                change wpAnyH _ _ _ _ _ _ _ (⟨#[_, _, _, _, _, _, _, _, _, _, _, _, _, _, _, _, _, _, _, _, _, _, _, _, _, _, _, _, _, _, _, _, _, _, _, _, _, _, _, _, _, _, _, _, _, _, _, _, _, _, _, _, _, _, _, _, _, _, _, _, _, _, _, _, _, _, _, _, _, _, _, _, _, _, _, _], _⟩ : Act) _
                refine wpAnyH_take (i := 17) (v := ?_) rfl (by kernel_rfl) (by kernel_rfl) (by kernel_rfl) (fun _ _ _ h => h) (Or.inl ⟨by kernel_rfl, ?_⟩) (by assumption) ?_
                rotate_left
                · intro w hSw
                  clear hSw
                  go_simp
                  try with_reducible rfl
                change wpAnyH _ _ _ _ _ _ _ (⟨#[_, _, _, _, _, _, _, _, _, _, _, _, _, _, _, _, _, _, _, _, _, _, _, _, _, _, _, _, _, _, _, _, _, _, _, _, _, _, _, _, _, _, _, _, _, _, _, _, _, _, _, _, _, _, _, _, _, _, _, _, _, _, _, _, _, _, _, _, _, _, _, _, _, _, _, _], _⟩ : Act) _
                refine wpAnyH_take (i := 18) (v := ?_) rfl (by kernel_rfl) (by kernel_rfl) (by kernel_rfl) (fun _ _ _ h => h) (Or.inl ⟨by kernel_rfl, ?_⟩) (by assumption) ?_
                rotate_left
                · intro w hSw
                  clear hSw
                  go_simp
                  try with_reducible rfl
                change wpAnyH _ _ _ _ _ _ _ (⟨#[_, _, _, _, _, _, _, _, _, _, _, _, _, _, _, _, _, _, _, _, _, _, _, _, _, _, _, _, _, _, _, _, _, _, _, _, _, _, _, _, _, _, _, _, _, _, _, _, _, _, _, _, _, _, _, _, _, _, _, _, _, _, _, _, _, _, _, _, _, _, _, _, _, _, _, _], _⟩ : Act) _
                refine wpAnyH_ready (rs := [19]) (by kernel_rfl) (by simp) ?_
                refine AllReadyH.cons rfl (fun K hK => ?_) AllReadyH.nil
                obtain ⟨x0, x1, xf⟩ := dir_cells HP.out.1
                have xf0 := xf 0
                clear xf
                go_simp
                refine hK.out _ _ ((TS2.set HP.out.1 hHeld.2.2.out hgE _).full HRC.out HCU.out) (fun hHeld => ?_)
                clear hK K
                change wpAnyH _ _ _ _ _ _ _ (⟨#[_, _, _, _, _, _, _, _, _, _, _, _, _, _, _, _, _, _, _, _, _, _, _, _, _, _, _, _, _, _, _, _, _, _, _, _, _, _, _, _, _, _, _, _, _, _, _, _, _, _, _, _, _, _, _, _, _, _, _, _, _, _, _, _, _, _, _, _, _, _, _, _, _, _, _, _], _⟩ : Act) _
                refine wpAnyH_done (by kernel_rfl) ?_ _
                refine NoPanic.normal ?_
                go_wp2
                go_ret
                exact HFIN.out _ _ _ HP.out.2.1 hHeld.2.2.out.ts.below hHeld.2.2.out.ts.keep _ rfl
              · go_simp
                with_reducible refine (HCLN.out _ hHeld.2.2).mono ?_
                rintro _ w9 ⟨na9, nc9, rfl, hown9, hb9⟩
                have HD9 : Hid (DirX w9 E ls blk lv wvs) := DirX.below (w := W1.drew) ((HD1.out).heap rfl) hb9 (Nat.le_refl _)
                have HW9 : Hid (OwnW w9 0 (.slice na9 0 nc9) []) := ownW_mono hown9 (Nat.zero_le _)
                refine hK.out _ _ ((hHeld.2.2.out.below2 hb9 (Nat.le_refl _)).full HRC.out HCU.out) (fun hHeld => ?_)
                clear hK K hown9 hb9
                change wpAnyH _ _ _ _ _ _ _ (⟨#[_, _, _, _, _, _, _, _, _, _, _, _, _, _, _, _, _, _, _, _, _, _, _, _, _, _, _, _, _, _, _, _, _, _, _, _, _, _, _, _, _, _, _, _, _, _, _, _, _, _, _, _, _, _, _, _, _, _, _, _, _, _, _, _, _, _, _, _, _, _, _, _, _, _, _, _], _⟩ : Act) _
                refine wpAnyH_take (i := 14) (v := ?_) rfl (by kernel_rfl) (by kernel_rfl) (by kernel_rfl) (fun _ _ _ h => h) (Or.inl ⟨by kernel_rfl, ?_⟩) (by assumption) ?_
                rotate_left
                · intro w hSw
                  clear hSw
                  go_simp
                  try with_reducible rfl
                change wpAnyH _ _ _ _ _ _ _ (⟨#[_, _, _, _, _, _, _, _, _, _, _, _, _, _, _, _, _, _, _, _, _, _, _, _, _, _, _, _, _, _, _, _, _, _, _, _, _, _, _, _, _, _, _, _, _, _, _, _, _, _, _, _, _, _, _, _, _, _, _, _, _, _, _, _, _, _, _, _, _, _, _, _, _, _, _, _], _⟩ : Act) _
                refine wpAnyH_ready (rs := [4, 15]) (by kernel_rfl) (by simp) ?_
                refine AllReadyH.cons rfl (fun K hK => ?_) (AllReadyH.cons rfl (fun K hK => ?_) (AllReadyH.nil))
                · have e0 := (dir_cells HD9.out.box).1
                  go_simp
                  refine hK.out _ _ hHeld (fun hHeld => ?_)
                  clear hK K e0
                  change wpAnyH _ _ _ _ _ _ _ (⟨#[_, _, _, _, _, _, _, _, _, _, _, _, _, _, _, _, _, _, _, _, _, _, _, _, _, _, _, _, _, _, _, _, _, _, _, _, _, _, _, _, _, _, _, _, _, _, _, _, _, _, _, _, _, _, _, _, _, _, _, _, _, _, _, _, _, _, _, _, _, _, _, _, _, _, _, _], _⟩ : Act) _
                  refine wpAnyH_ready (rs := [15]) (by kernel_rfl) (by simp) ?_
                  refine AllReadyH.cons rfl (fun K hK => ?_) AllReadyH.nil
                  go_simp
                  have HDb : Hid (DirX (w9.alloc (.cells #[.string X, .slice na9 0 nc9, .int .i64 (a : Int)] 37)) E ls blk lv wvs) := DirX.below HD9.out ((Below.refl _ w9).alloc (Nat.le_refl _) _) (Nat.le_refl _)
                  have HWb : Hid (OwnW (w9.alloc (.cells #[.string X, .slice na9 0 nc9, .int .i64 (a : Int)] 37)) 0 (.slice na9 0 nc9) []) := ownW_below HW9.out ((Below.refl _ w9).alloc (Nat.le_refl _) _) (Nat.le_refl _)
                  refine hK.out _ _ ((hHeld.2.2.out.alloc _).full HRC.out HCU.out) (fun hHeld => ?_)
                  clear hK K
                  change wpAnyH _ _ _ _ _ _ _ (⟨#[_, _, _, _, _, _, _, _, _, _, _, _, _, _, _, _, _, _, _, _, _, _, _, _, _, _, _, _, _, _, _, _, _, _, _, _, _, _, _, _, _, _, _, _, _, _, _, _, _, _, _, _, _, _, _, _, _, _, _, _, _, _, _, _, _, _, _, _, _, _, _, _, _, _, _, _], _⟩ : Act) _
                  refine wpAnyH_ready (rs := [16]) (by kernel_rfl) (by simp) ?_
                  refine AllReadyH.cons rfl (fun K hK => ?_) AllReadyH.nil
                  refine step_append_own rfl _ _ 23 rfl (E + 1) 37 i0 (.agg #[.string .empty, .slice none 0 0, .int .i64 0]) 3 48 Tryd.underlying23 hi hz0 hz1 hz2 rfl (by decide) lv ls.length (flatL ls wvs) rfl HDb.out.own ⟨w9.heap.size, 0, none⟩ 1 1 [.string X, .slice na9 0 nc9, .int .i64 (a : Int)] (by rfl) rfl (cellL_new _ _ _ _) (oneL _ _ _ _ _) HM1.out HM2.out hHeld.2.2.out.ts.room ?_
                  intro v' w10 hown' hgrow
                  have hown2 := hown'
                  rw [HXX.out] at hown2
                  obtain ⟨pa, pb, pc⟩ := DirX.push (l := (x, [], a)) HDb.out HWb.out hown2 hgrow
                  obtain ⟨na, nc, hv'⟩ := isSlice_of hown'
                  subst hv'
                  have HP := hidM (And.intro pa (And.intro pb pc))
                  clear pa pb pc hown' hown2
                  refine hK.out _ _ ((hHeld.2.2.out.grow hgrow HDb.out).full HRC.out HCU.out) (fun hHeld => ?_)
                  clear hK K hgrow
                  change wpAnyH _ _ _ _ _ _ _ (⟨#[_, _, _, _, _, _, _, _, _, _, _, _, _, _, _, _, _, _, _, _, _, _, _, _, _, _, _, _, _, _, _, _, _, _, _, _, _, _, _, _, _, _, _, _, _, _, _, _, _, _, _, _, _, _, _, _, _, _, _, _, _, _, _, _, _, _, _, _, _, _, _, _, _, _, _, _], _⟩ : Act) _
                  refine wpAnyH_take (i := 17) (v := ?_) rfl (by kernel_rfl) (by kernel_rfl) (by kernel_rfl) (fun _ _ _ h => h) (Or.inl ⟨by kernel_rfl, ?_⟩) (by assumption) ?_
                  rotate_left
                  · intro w hSw
                    clear hSw
                    go_simp
                    try with_reducible rfl
                  change wpAnyH _ _ _ _ _ _ _ (⟨#[_, _, _, _, _, _, _, _, _, _, _, _, _, _, _, _, _, _, _, _, _, _, _, _, _, _, _, _, _, _, _, _, _, _, _, _, _, _, _, _, _, _, _, _, _, _, _, _, _, _, _, _, _, _, _, _, _, _, _, _, _, _, _, _, _, _, _, _, _, _, _, _, _, _, _, _], _⟩ : Act) _
                  refine wpAnyH_take (i := 18) (v := ?_) rfl (by kernel_rfl) (by kernel_rfl) (by kernel_rfl) (fun _ _ _ h => h) (Or.inl ⟨by kernel_rfl, ?_⟩) (by assumption) ?_
                  rotate_left
                  · intro w hSw
                    clear hSw
                    go_simp
                    try with_reducible rfl
                  change wpAnyH _ _ _ _ _ _ _ (⟨#[_, _, _, _, _, _, _, _, _, _, _, _, _, _, _, _, _, _, _, _, _, _, _, _, _, _, _, _, _, _, _, _, _, _, _, _, _, _, _, _, _, _, _, _, _, _, _, _, _, _, _, _, _, _, _, _, _, _, _, _, _, _, _, _, _, _, _, _, _, _, _, _, _, _, _, _], _⟩ : Act) _
                  refine wpAnyH_ready (rs := [19]) (by kernel_rfl) (by simp) ?_
                  refine AllReadyH.cons rfl (fun K hK => ?_) AllReadyH.nil
                  obtain ⟨x0, x1, xf⟩ := dir_cells HP.out.1
                  have xf0 := xf 0
                  clear xf
                  go_simp
                  refine hK.out _ _ ((TS2.set HP.out.1 hHeld.2.2.out hgE _).full HRC.out HCU.out) (fun hHeld => ?_)
                  clear hK K
                  change wpAnyH _ _ _ _ _ _ _ (⟨#[_, _, _, _, _, _, _, _, _, _, _, _, _, _, _, _, _, _, _, _, _, _, _, _, _, _, _, _, _, _, _, _, _, _, _, _, _, _, _, _, _, _, _, _, _, _, _, _, _, _, _, _, _, _, _, _, _, _, _, _, _, _, _, _, _, _, _, _, _, _, _, _, _, _, _, _], _⟩ : Act) _
                  refine wpAnyH_done (by kernel_rfl) ?_ _
                  refine NoPanic.normal ?_
                  go_wp2
                  go_ret
                  exact HFIN.out _ _ _ HP.out.2.1 hHeld.2.2.out.ts.below hHeld.2.2.out.ts.keep _ rfl
                · go_simp
                  have HDb : Hid (DirX (w9.alloc (.cells #[.string X, .slice na9 0 nc9, .int .i64 (a : Int)] 37)) E ls blk lv wvs) := DirX.below HD9.out ((Below.refl _ w9).alloc (Nat.le_refl _) _) (Nat.le_refl _)
                  have HWb : Hid (OwnW (w9.alloc (.cells #[.string X, .slice na9 0 nc9, .int .i64 (a : Int)] 37)) 0 (.slice na9 0 nc9) []) := ownW_below HW9.out ((Below.refl _ w9).alloc (Nat.le_refl _) _) (Nat.le_refl _)
                  refine hK.out _ _ ((hHeld.2.2.out.alloc _).full HRC.out HCU.out) (fun hHeld => ?_)
                  clear hK K
                  change wpAnyH _ _ _ _ _ _ _ (⟨#[_, _, _, _, _, _, _, _, _, _, _, _, _, _, _, _, _, _, _, _, _, _, _, _, _, _, _, _, _, _, _, _, _, _, _, _, _, _, _, _, _, _, _, _, _, _, _, _, _, _, _, _, _, _, _, _, _, _, _, _, _, _, _, _, _, _, _, _, _, _, _, _, _, _, _, _], _⟩ : Act) _
                  refine wpAnyH_ready (rs := [4]) (by kernel_rfl) (by simp) ?_
                  refine AllReadyH.cons rfl (fun K hK => ?_) AllReadyH.nil
                  have e0 := (dir_cells HDb.out.box).1
                  go_simp
                  refine hK.out _ _ hHeld (fun hHeld => ?_)
                  clear hK K e0
                  change wpAnyH _ _ _ _ _ _ _ (⟨#[_, _, _, _, _, _, _, _, _, _, _, _, _, _, _, _, _, _, _, _, _, _, _, _, _, _, _, _, _, _, _, _, _, _, _, _, _, _, _, _, _, _, _, _, _, _, _, _, _, _, _, _, _, _, _, _, _, _, _, _, _, _, _, _, _, _, _, _, _, _, _, _, _, _, _, _], _⟩ : Act) _
                  refine wpAnyH_ready (rs := [16]) (by kernel_rfl) (by simp) ?_
                  refine AllReadyH.cons rfl (fun K hK => ?_) AllReadyH.nil
                  refine step_append_own rfl _ _ 23 rfl (E + 1) 37 i0 (.agg #[.string .empty, .slice none 0 0, .int .i64 0]) 3 48 Tryd.underlying23 hi hz0 hz1 hz2 rfl (by decide) lv ls.length (flatL ls wvs) rfl HDb.out.own ⟨w9.heap.size, 0, none⟩ 1 1 [.string X, .slice na9 0 nc9, .int .i64 (a : Int)] (by rfl) rfl (cellL_new _ _ _ _) (oneL _ _ _ _ _) HM1.out HM2.out hHeld.2.2.out.ts.room ?_
                  intro v' w10 hown' hgrow
                  have hown2 := hown'
                  rw [HXX.out] at hown2
                  obtain ⟨pa, pb, pc⟩ := DirX.push (l := (x, [], a)) HDb.out HWb.out hown2 hgrow
                  obtain ⟨na, nc, hv'⟩ := isSlice_of hown'
                  subst hv'
                  have HP := hidM (And.intro pa (And.intro pb pc))
                  clear pa pb pc hown' hown2
                  refine hK.out _ _ ((hHeld.2.2.out.grow hgrow HDb.out).full HRC.out HCU.out) (fun hHeld => ?_)
                  clear hK K hgrow
                  change wpAnyH _ _ _ _ _ _ _ (⟨#[_, _, _, _, _, _, _, _, _, _, _, _, _, _, _, _, _, _, _, _, _, _, _, _, _, _, _, _, _, _, _, _, _, _, _, _, _, _, _, _, _, _, _, _, _, _, _, _, _, _, _, _, _, _, _, _, _, _, _, _, _, _, _, _, _, _, _, _, _, _, _, _, _, _, _, _], _⟩ : Act) _
                  refine wpAnyH_take (i := 17) (v := ?_) rfl (by kernel_rfl) (by kernel_rfl) (by kernel_rfl) (fun _ _ _ h => h) (Or.inl ⟨by kernel_rfl, ?_⟩) (by assumption) ?_
                  rotate_left
                  · intro w hSw
                    clear hSw
                    go_simp
                    try with_reducible rfl
                  change wpAnyH _ _ _ _ _ _ _ (⟨#[_, _, _, _, _, _, _, _, _, _, _, _, _, _, _, _, _, _, _, _, _, _, _, _, _, _, _, _, _, _, _, _, _, _, _, _, _, _, _, _, _, _, _, _, _, _, _, _, _, _, _, _, _, _, _, _, _, _, _, _, _, _, _, _, _, _, _, _, _, _, _, _, _, _, _, _], _⟩ : Act) _
                  refine wpAnyH_take (i := 18) (v := ?_) rfl (by kernel_rfl) (by kernel_rfl) (by kernel_rfl) (fun _ _ _ h => h) (Or.inl ⟨by kernel_rfl, ?_⟩) (by assumption) ?_
                  rotate_left
                  · intro w hSw
                    clear hSw
                    go_simp
                    try with_reducible rfl
                  change wpAnyH _ _ _ _ _ _ _ (⟨#[_, _, _, _, _, _, _, _, _, _, _, _, _, _, _, _, _, _, _, _, _, _, _, _, _, _, _, _, _, _, _, _, _, _, _, _, _, _, _, _, _, _, _, _, _, _, _, _, _, _, _, _, _, _, _, _, _, _, _, _, _, _, _, _, _, _, _, _, _, _, _, _, _, _, _, _], _⟩ : Act) _
                  refine wpAnyH_ready (rs := [19]) (by kernel_rfl) (by simp) ?_
                  refine AllReadyH.cons rfl (fun K hK => ?_) AllReadyH.nil
                  obtain ⟨x0, x1, xf⟩ := dir_cells HP.out.1
                  have xf0 := xf 0
                  clear xf
                  go_simp
                  refine hK.out _ _ ((TS2.set HP.out.1 hHeld.2.2.out hgE _).full HRC.out HCU.out) (fun hHeld => ?_)
                  clear hK K
                  change wpAnyH _ _ _ _ _ _ _ (⟨#[_, _, _, _, _, _, _, _, _, _, _, _, _, _, _, _, _, _, _, _, _, _, _, _, _, _, _, _, _, _, _, _, _, _, _, _, _, _, _, _, _, _, _, _, _, _, _, _, _, _, _, _, _, _, _, _, _, _, _, _, _, _, _, _, _, _, _, _, _, _, _, _, _, _, _, _], _⟩ : Act) _
                  refine wpAnyH_done (by kernel_rfl) ?_ _
                  refine NoPanic.normal ?_
                  go_wp2
                  go_ret
                  exact HFIN.out _ _ _ HP.out.2.1 hHeld.2.2.out.ts.below hHeld.2.2.out.ts.keep _ rfl

            · have HCLN : Hid (∀ V, Hid (TS2 w E w.heap.size g rc cur V) → Calls Tryd.prog 41 #[.slice (some ⟨g, 1, none⟩) r.length (wc - 1)] V fun e w' => ∃ na nc, e = .returned (.slice na r.length nc) ∧ OwnW w' V.heap.size (.slice na r.length nc) r ∧ Below V.heap.size V w') :=
                fun V hV => clone_tail g (wc - 1) x r cur V hV.out.wrd HCUR.out (by simp at hw6; omega)
              have hm1 : wl - 1 = r.length := by rw [HWR.out]; rfl
              have hw0 : 0 < wl := by omega
              have hw2 : (1 : Int) ≤ (wl : Int) := by omega
              clear hw6
              obtain rfl : kI = 0 := HKI.out
              go_enter Tryd.func21, Tryd.ntmps21
              go_upto_block 0 with fail
              rw [HE1.out]

              go_upto_region 12 with fail
              refine wp_region_noPanic ?_
              refine wp_region_held_drew (S := (fun w' => w'.cell? ⟨w.heap.size, 0, none⟩ = some (.slice (some ⟨g, 0, none⟩) wl wc) ∧ w'.cell? ⟨g, 0, none⟩ = some (.string X) ∧ Hid (TS2 w E w.heap.size g rc cur w'))) (by kernel_rfl) ?_ (fun hHeld => ?_)
              · exact HS2.out.full HRC.out HCU.out
              refine wpAnyH_take (i := 0) (v := ?_) rfl (by kernel_rfl) (by kernel_rfl) (by kernel_rfl) (fun _ _ _ h => h) (Or.inl ⟨by kernel_rfl, ?_⟩) (by assumption) ?_
              rotate_left
              · intro w hSw
                clear hSw
                go_simp
                try with_reducible rfl
              change wpAnyH _ _ _ _ _ _ _ (⟨#[_, _, _, _, _, _, _, _, _, _, _, _, _, _, _, _, _, _, _, _, _, _, _, _, _, _, _, _, _, _, _, _, _, _, _, _, _, _, _, _, _, _, _, _, _, _, _, _, _, _, _, _, _, _, _, _, _, _, _, _, _, _, _, _, _, _, _, _, _, _, _, _, _, _, _, _], _⟩ : Act) _
              refine wpAnyH_take (i := 1) (v := ?_) rfl (by kernel_rfl) (by kernel_rfl) (by kernel_rfl) (fun _ _ _ h => h) (Or.inl ⟨by kernel_rfl, ?_⟩) (by assumption) ?_
              rotate_left
              · intro w hSw
                clear hSw
                go_simp
                try with_reducible rfl
              change wpAnyH _ _ _ _ _ _ _ (⟨#[_, _, _, _, _, _, _, _, _, _, _, _, _, _, _, _, _, _, _, _, _, _, _, _, _, _, _, _, _, _, _, _, _, _, _, _, _, _, _, _, _, _, _, _, _, _, _, _, _, _, _, _, _, _, _, _, _, _, _, _, _, _, _, _, _, _, _, _, _, _, _, _, _, _, _, _], _⟩ : Act) _
              refine wpAnyH_take (i := 2) (v := ?_) rfl (by kernel_rfl) (by kernel_rfl) (by kernel_rfl) (fun _ _ _ h => h) (Or.inl ⟨by kernel_rfl, ?_⟩) (by assumption) ?_
              rotate_left
              · intro w hSw
                clear hSw
                go_simp
                try with_reducible rfl
              change wpAnyH _ _ _ _ _ _ _ (⟨#[_, _, _, _, _, _, _, _, _, _, _, _, _, _, _, _, _, _, _, _, _, _, _, _, _, _, _, _, _, _, _, _, _, _, _, _, _, _, _, _, _, _, _, _, _, _, _, _, _, _, _, _, _, _, _, _, _, _, _, _, _, _, _, _, _, _, _, _, _, _, _, _, _, _, _, _], _⟩ : Act) _
              refine wpAnyH_take (i := 3) (v := ?_) rfl (by kernel_rfl) (by kernel_rfl) (by kernel_rfl) (fun _ _ _ h => h) (Or.inl ⟨by kernel_rfl, ?_⟩) (by assumption) ?_
              rotate_left
              · intro w hSw
                clear hSw
                go_simp
                try with_reducible rfl
              change wpAnyH _ _ _ _ _ _ _ (⟨#[_, _, _, _, _, _, _, _, _, _, _, _, _, _, _, _, _, _, _, _, _, _, _, _, _, _, _, _, _, _, _, _, _, _, _, _, _, _, _, _, _, _, _, _, _, _, _, _, _, _, _, _, _, _, _, _, _, _, _, _, _, _, _, _, _, _, _, _, _, _, _, _, _, _, _, _], _⟩ : Act) _
              refine wpAnyH_take (i := 5) (v := ?_) rfl (by kernel_rfl) (by kernel_rfl) (by kernel_rfl) (fun _ _ _ h => h) (Or.inl ⟨by kernel_rfl, ?_⟩) (by assumption) ?_
              rotate_left
              · intro w hSw
                clear hSw
                go_simp
                try with_reducible rfl
              change wpAnyH _ _ _ _ _ _ _ (⟨#[_, _, _, _, _, _, _, _, _, _, _, _, _, _, _, _, _, _, _, _, _, _, _, _, _, _, _, _, _, _, _, _, _, _, _, _, _, _, _, _, _, _, _, _, _, _, _, _, _, _, _, _, _, _, _, _, _, _, _, _, _, _, _, _, _, _, _, _, _, _, _, _, _, _, _, _], _⟩ : Act) _
              refine wpAnyH_take (i := 6) (v := ?_) rfl (by kernel_rfl) (by kernel_rfl) (by kernel_rfl) (fun _ _ _ h => h) (Or.inl ⟨by kernel_rfl, ?_⟩) (by assumption) ?_
              rotate_left
              · intro w hSw
                obtain ⟨c2, c3, _⟩ := hSw
                go_simp
                try with_reducible rfl
              change wpAnyH _ _ _ _ _ _ _ (⟨#[_, _, _, _, _, _, _, _, _, _, _, _, _, _, _, _, _, _, _, _, _, _, _, _, _, _, _, _, _, _, _, _, _, _, _, _, _, _, _, _, _, _, _, _, _, _, _, _, _, _, _, _, _, _, _, _, _, _, _, _, _, _, _, _, _, _, _, _, _, _, _, _, _, _, _, _], _⟩ : Act) _
              refine wpAnyH_take (i := 7) (v := ?_) rfl (by kernel_rfl) (by kernel_rfl) (by kernel_rfl) (fun _ _ _ h => h) (Or.inl ⟨by kernel_rfl, ?_⟩) (by assumption) ?_
              rotate_left
              · intro w hSw
                clear hSw
                go_simp
                try with_reducible rfl
              change wpAnyH _ _ _ _ _ _ _ (⟨#[_, _, _, _, _, _, _, _, _, _, _, _, _, _, _, _, _, _, _, _, _, _, _, _, _, _, _, _, _, _, _, _, _, _, _, _, _, _, _, _, _, _, _, _, _, _, _, _, _, _, _, _, _, _, _, _, _, _, _, _, _, _, _, _, _, _, _, _, _, _, _, _, _, _, _, _], _⟩ : Act) _
              refine wpAnyH_take (i := 8) (v := ?_) rfl (by kernel_rfl) (by kernel_rfl) (by kernel_rfl) (fun _ _ _ h => h) (Or.inl ⟨by kernel_rfl, ?_⟩) (by assumption) ?_
              rotate_left
              · intro w hSw
                obtain ⟨c2, c3, _⟩ := hSw
                go_simp
                try with_reducible rfl
              change wpAnyH _ _ _ _ _ _ _ (⟨#[_, _, _, _, _, _, _, _, _, _, _, _, _, _, _, _, _, _, _, _, _, _, _, _, _, _, _, _, _, _, _, _, _, _, _, _, _, _, _, _, _, _, _, _, _, _, _, _, _, _, _, _, _, _, _, _, _, _, _, _, _, _, _, _, _, _, _, _, _, _, _, _, _, _, _, _], _⟩ : Act) _
              refine wpAnyH_take (i := 9) (v := ?_) rfl (by kernel_rfl) (by kernel_rfl) (by kernel_rfl) (fun _ _ _ h => h) (Or.inl ⟨by kernel_rfl, ?_⟩) (by assumption) ?_
              rotate_left
              · intro w hSw
                clear hSw
                go_simp
                try with_reducible rfl
              change wpAnyH _ _ _ _ _ _ _ (⟨#[_, _, _, _, _, _, _, _, _, _, _, _, _, _, _, _, _, _, _, _, _, _, _, _, _, _, _, _, _, _, _, _, _, _, _, _, _, _, _, _, _, _, _, _, _, _, _, _, _, _, _, _, _, _, _, _, _, _, _, _, _, _, _, _, _, _, _, _, _, _, _, _, _, _, _, _], _⟩ : Act) _
              refine wpAnyH_take (i := 10) (v := ?_) rfl (by kernel_rfl) (by kernel_rfl) (by kernel_rfl) (fun _ _ _ h => h) (Or.inl ⟨by kernel_rfl, ?_⟩) (by assumption) ?_
              rotate_left
              · intro w hSw
                obtain ⟨c2, c3, _⟩ := hSw
                go_simp
                try with_reducible rfl
              change wpAnyH _ _ _ _ _ _ _ (⟨#[_, _, _, _, _, _, _, _, _, _, _, _, _, _, _, _, _, _, _, _, _, _, _, _, _, _, _, _, _, _, _, _, _, _, _, _, _, _, _, _, _, _, _, _, _, _, _, _, _, _, _, _, _, _, _, _, _, _, _, _, _, _, _, _, _, _, _, _, _, _, _, _, _, _, _, _], _⟩ : Act) _
              refine wpAnyH_take (i := 11) (v := ?_) rfl (by kernel_rfl) (by kernel_rfl) (by kernel_rfl) (fun _ _ _ h => h) (Or.inl ⟨by kernel_rfl, ?_⟩) (by assumption) ?_
              rotate_left
              · intro w hSw
                clear hSw
                go_simp
                try with_reducible rfl
              change wpAnyH _ _ _ _ _ _ _ (⟨#[_, _, _, _, _, _, _, _, _, _, _, _, _, _, _, _, _, _, _, _, _, _, _, _, _, _, _, _, _, _, _, _, _, _, _, _, _, _, _, _, _, _, _, _, _, _, _, _, _, _, _, _, _, _, _, _, _, _, _, _, _, _, _, _, _, _, _, _, _, _, _, _, _, _, _, _], _⟩ : Act) _
              refine wpAnyH_take (i := 13) (v := ?_) rfl (by kernel_rfl) (by kernel_rfl) (by kernel_rfl) (fun _ _ _ h => h) (Or.inl ⟨by kernel_rfl, ?_⟩) (by assumption) ?_
              rotate_left
              · intro w hSw
                clear hSw
                go_simp
                try with_reducible rfl
              change wpAnyH _ _ _ _ _ _ _ (⟨#[_, _, _, _, _, _, _, _, _, _, _, _, _, _, _, _, _, _, _, _, _, _, _, _, _, _, _, _, _, _, _, _, _, _, _, _, _, _, _, _, _, _, _, _, _, _, _, _, _, _, _, _, _, _, _, _, _, _, _, _, _, _, _, _, _, _, _, _, _, _, _, _, _, _, _, _], _⟩ : Act) _
              refine wpAnyH_ready (rs := [4, 12]) (by kernel_rfl) (by simp) ?_
              refine AllReadyH.cons rfl (fun K hK => ?_) (AllReadyH.cons rfl (fun K hK => ?_) (AllReadyH.nil))
              · have e0 := (dir_cells HD1.out.box).1
                go_simp
                refine hK.out _ _ hHeld (fun hHeld => ?_)
                clear hK K e0
                change wpAnyH _ _ _ _ _ _ _ (⟨#[_, _, _, _, _, _, _, _, _, _, _, _, _, _, _, _, _, _, _, _, _, _, _, _, _, _, _, _, _, _, _, _, _, _, _, _, _, _, _, _, _, _, _, _, _, _, _, _, _, _, _, _, _, _, _, _, _, _, _, _, _, _, _, _, _, _, _, _, _, _, _, _, _, _, _, _], _⟩ : Act) _
                refine wpAnyH_ready (rs := [12]) (by kernel_rfl) (by simp) ?_
                refine AllReadyH.cons rfl (fun K hK => ?_) AllReadyH.nil
                go_simp
                with_reducible refine (HCLN.out _ hHeld.2.2).mono ?_
                rintro _ w9 ⟨na9, nc9, rfl, hown9, hb9⟩
                have HD9 : Hid (DirX w9 E ls blk lv wvs) := DirX.below (w := W1.drew) ((HD1.out).heap rfl) hb9 (Nat.le_refl _)
                have HW9 : Hid (OwnW w9 0 (.slice na9 r.length nc9) r) := ownW_mono hown9 (Nat.zero_le _)
                refine hK.out _ _ ((hHeld.2.2.out.below2 hb9 (Nat.le_refl _)).full HRC.out HCU.out) (fun hHeld => ?_)
                clear hK K hown9 hb9
                change wpAnyH _ _ _ _ _ _ _ (⟨#[_, _, _, _, _, _, _, _, _, _, _, _, _, _, _, _, _, _, _, _, _, _, _, _, _, _, _, _, _, _, _, _, _, _, _, _, _, _, _, _, _, _, _, _, _, _, _, _, _, _, _, _, _, _, _, _, _, _, _, _, _, _, _, _, _, _, _, _, _, _, _, _, _, _, _, _], _⟩ : Act) _
                refine wpAnyH_take (i := 14) (v := ?_) rfl (by kernel_rfl) (by kernel_rfl) (by kernel_rfl) (fun _ _ _ h => h) (Or.inl ⟨by kernel_rfl, ?_⟩) (by assumption) ?_
                rotate_left
                · intro w hSw
                  clear hSw
                  go_simp
                  try with_reducible rfl
                change wpAnyH _ _ _ _ _ _ _ (⟨#[_, _, _, _, _, _, _, _, _, _, _, _, _, _, _, _, _, _, _, _, _, _, _, _, _, _, _, _, _, _, _, _, _, _, _, _, _, _, _, _, _, _, _, _, _, _, _, _, _, _, _, _, _, _, _, _, _, _, _, _, _, _, _, _, _, _, _, _, _, _, _, _, _, _, _, _], _⟩ : Act) _
                refine wpAnyH_ready (rs := [15]) (by kernel_rfl) (by simp) ?_
                refine AllReadyH.cons rfl (fun K hK => ?_) AllReadyH.nil
                go_simp
                have HDb : Hid (DirX (w9.alloc (.cells #[.string X, .slice na9 r.length nc9, .int .i64 (a : Int)] 37)) E ls blk lv wvs) := DirX.below HD9.out ((Below.refl _ w9).alloc (Nat.le_refl _) _) (Nat.le_refl _)
                have HWb : Hid (OwnW (w9.alloc (.cells #[.string X, .slice na9 r.length nc9, .int .i64 (a : Int)] 37)) 0 (.slice na9 r.length nc9) r) := ownW_below HW9.out ((Below.refl _ w9).alloc (Nat.le_refl _) _) (Nat.le_refl _)
                refine hK.out _ _ ((hHeld.2.2.out.alloc _).full HRC.out HCU.out) (fun hHeld => ?_)
                clear hK K
                change wpAnyH _ _ _ _ _ _ _ (⟨#[_, _, _, _, _, _, _, _, _, _, _, _, _, _, _, _, _, _, _, _, _, _, _, _, _, _, _, _, _, _, _, _, _, _, _, _, _, _, _, _, _, _, _, _, _, _, _, _, _, _, _, _, _, _, _, _, _, _, _, _, _, _, _, _, _, _, _, _, _, _, _, _, _, _, _, _], _⟩ : Act) _
                refine wpAnyH_ready (rs := [16]) (by kernel_rfl) (by simp) ?_
                refine AllReadyH.cons rfl (fun K hK => ?_) AllReadyH.nil
                refine step_append_own rfl _ _ 23 rfl (E + 1) 37 i0 (.agg #[.string .empty, .slice none 0 0, .int .i64 0]) 3 48 Tryd.underlying23 hi hz0 hz1 hz2 rfl (by decide) lv ls.length (flatL ls wvs) rfl HDb.out.own ⟨w9.heap.size, 0, none⟩ 1 1 [.string X, .slice na9 r.length nc9, .int .i64 (a : Int)] (by rfl) rfl (cellL_new _ _ _ _) (oneL _ _ _ _ _) HM1.out HM2.out hHeld.2.2.out.ts.room ?_
                intro v' w10 hown' hgrow
                have hown2 := hown'
                rw [HXX.out] at hown2
                obtain ⟨pa, pb, pc⟩ := DirX.push (l := (x, r, a)) HDb.out HWb.out hown2 hgrow
                obtain ⟨na, nc, hv'⟩ := isSlice_of hown'
                subst hv'
                have HP := hidM (And.intro pa (And.intro pb pc))
                clear pa pb pc hown' hown2
                refine hK.out _ _ ((hHeld.2.2.out.grow hgrow HDb.out).full HRC.out HCU.out) (fun hHeld => ?_)
                clear hK K hgrow
                change wpAnyH _ _ _ _ _ _ _ (⟨#[_, _, _, _, _, _, _, _, _, _, _, _, _, _, _, _, _, _, _, _, _, _, _, _, _, _, _, _, _, _, _, _, _, _, _, _, _, _, _, _, _, _, _, _, _, _, _, _, _, _, _, _, _, _, _, _, _, _, _, _, _, _, _, _, _, _, _, _, _, _, _, _, _, _, _, _], _⟩ : Act) _
                refine wpAnyH_take (i := 17) (v := ?_) rfl (by kernel_rfl) (by kernel_rfl) (by kernel_rfl) (fun _ _ _ h => h) (Or.inl ⟨by kernel_rfl, ?_⟩) (by assumption) ?_
                rotate_left
                · intro w hSw
                  clear hSw
                  go_simp
                  try with_reducible rfl
                change wpAnyH _ _ _ _ _ _ _ (⟨#[_, _, _, _, _, _, _, _, _, _, _, _, _, _, _, _, _, _, _, _, _, _, _, _, _, _, _, _, _, _, _, _, _, _, _, _, _, _, _, _, _, _, _, _, _, _, _, _, _, _, _, _, _, _, _, _, _, _, _, _, _, _, _, _, _, _, _, _, _, _, _, _, _, _, _, _], _⟩ : Act) _
                refine wpAnyH_take (i := 18) (v := ?_) rfl (by kernel_rfl) (by kernel_rfl) (by kernel_rfl) (fun _ _ _ h => h) (Or.inl ⟨by kernel_rfl, ?_⟩) (by assumption) ?_
                rotate_left
                · intro w hSw
                  clear hSw
                  go_simp
                  try with_reducible rfl
                change wpAnyH _ _ _ _ _ _ _ (⟨#[_, _, _, _, _, _, _, _, _, _, _, _, _, _, _, _, _, _, _, _, _, _, _, _, _, _, _, _, _, _, _, _, _, _, _, _, _, _, _, _, _, _, _, _, _, _, _, _, _, _, _, _, _, _, _, _, _, _, _, _, _, _, _, _, _, _, _, _, _, _, _, _, _, _, _, _], _⟩ : Act) _
                refine wpAnyH_ready (rs := [19]) (by kernel_rfl) (by simp) ?_
                refine AllReadyH.cons rfl (fun K hK => ?_) AllReadyH.nil
                obtain ⟨x0, x1, xf⟩ := dir_cells HP.out.1
                have xf0 := xf 0
                clear xf
                go_simp
                refine hK.out _ _ ((TS2.set HP.out.1 hHeld.2.2.out hgE _).full HRC.out HCU.out) (fun hHeld => ?_)
                clear hK K
                change wpAnyH _ _ _ _ _ _ _ (⟨#[_, _, _, _, _, _, _, _, _, _, _, _, _, _, _, _, _, _, _, _, _, _, _, _, _, _, _, _, _, _, _, _, _, _, _, _, _, _, _, _, _, _, _, _, _, _, _, _, _, _, _, _, _, _, _, _, _, _, _, _, _, _, _, _, _, _, _, _, _, _, _, _, _, _, _, _], _⟩ : Act) _
                refine wpAnyH_done (by kernel_rfl) ?_ _
                refine NoPanic.normal ?_
                go_wp2
                go_ret
                exact HFIN.out _ _ _ HP.out.2.1 hHeld.2.2.out.ts.below hHeld.2.2.out.ts.keep _ rfl
              · go_simp
                with_reducible refine (HCLN.out _ hHeld.2.2).mono ?_
                rintro _ w9 ⟨na9, nc9, rfl, hown9, hb9⟩
                have HD9 : Hid (DirX w9 E ls blk lv wvs) := DirX.below (w := W1.drew) ((HD1.out).heap rfl) hb9 (Nat.le_refl _)
                have HW9 : Hid (OwnW w9 0 (.slice na9 r.length nc9) r) := ownW_mono hown9 (Nat.zero_le _)
                refine hK.out _ _ ((hHeld.2.2.out.below2 hb9 (Nat.le_refl _)).full HRC.out HCU.out) (fun hHeld => ?_)
                clear hK K hown9 hb9
                change wpAnyH _ _ _ _ _ _ _ (⟨#[_, _, _, _, _, _, _, _, _, _, _, _, _, _, _, _, _, _, _, _, _, _, _, _, _, _, _, _, _, _, _, _, _, _, _, _, _, _, _, _, _, _, _, _, _, _, _, _, _, _, _, _, _, _, _, _, _, _, _, _, _, _, _, _, _, _, _, _, _, _, _, _, _, _, _, _], _⟩ : Act) _
                refine wpAnyH_take (i := 14) (v := ?_) rfl (by kernel_rfl) (by kernel_rfl) (by kernel_rfl) (fun _ _ _ h => h) (Or.inl ⟨by kernel_rfl, ?_⟩) (by assumption) ?_
                rotate_left
                · intro w hSw
                  clear hSw
                  go_simp
                  try with_reducible rfl
                change wpAnyH _ _ _ _ _ _ _ (⟨#[_, _, _, _, _, _, _, _, _, _, _, _, _, _, _, _, _, _, _, _, _, _, _, _, _, _, _, _, _, _, _, _, _, _, _, _, _, _, _, _, _, _, _, _, _, _, _, _, _, _, _, _, _, _, _, _, _, _, _, _, _, _, _, _, _, _, _, _, _, _, _, _, _, _, _, _], _⟩ : Act) _
                refine wpAnyH_ready (rs := [4, 15]) (by kernel_rfl) (by simp) ?_
                refine AllReadyH.cons rfl (fun K hK => ?_) (AllReadyH.cons rfl (fun K hK => ?_) (AllReadyH.nil))
                · have e0 := (dir_cells HD9.out.box).1
                  go_simp
                  refine hK.out _ _ hHeld (fun hHeld => ?_)
                  clear hK K e0
                  change wpAnyH _ _ _ _ _ _ _ (⟨#[_, _, _, _, _, _, _, _, _, _, _, _, _, _, _, _, _, _, _, _, _, _, _, _, _, _, _, _, _, _, _, _, _, _, _, _, _, _, _, _, _, _, _, _, _, _, _, _, _, _, _, _, _, _, _, _, _, _, _, _, _, _, _, _, _, _, _, _, _, _, _, _, _, _, _, _], _⟩ : Act) _
                  refine wpAnyH_ready (rs := [15]) (by kernel_rfl) (by simp) ?_
                  refine AllReadyH.cons rfl (fun K hK => ?_) AllReadyH.nil
                  go_simp
                  have HDb : Hid (DirX (w9.alloc (.cells #[.string X, .slice na9 r.length nc9, .int .i64 (a : Int)] 37)) E ls blk lv wvs) := DirX.below HD9.out ((Below.refl _ w9).alloc (Nat.le_refl _) _) (Nat.le_refl _)
                  have HWb : Hid (OwnW (w9.alloc (.cells #[.string X, .slice na9 r.length nc9, .int .i64 (a : Int)] 37)) 0 (.slice na9 r.length nc9) r) := ownW_below HW9.out ((Below.refl _ w9).alloc (Nat.le_refl _) _) (Nat.le_refl _)
                  refine hK.out _ _ ((hHeld.2.2.out.alloc _).full HRC.out HCU.out) (fun hHeld => ?_)
                  clear hK K
                  change wpAnyH _ _ _ _ _ _ _ (⟨#[_, _, _, _, _, _, _, _, _, _, _, _, _, _, _, _, _, _, _, _, _, _, _, _, _, _, _, _, _, _, _, _, _, _, _, _, _, _, _, _, _, _, _, _, _, _, _, _, _, _, _, _, _, _, _, _, _, _, _, _, _, _, _, _, _, _, _, _, _, _, _, _, _, _, _, _], _⟩ : Act) _
                  refine wpAnyH_ready (rs := [16]) (by kernel_rfl) (by simp) ?_
                  refine AllReadyH.cons rfl (fun K hK => ?_) AllReadyH.nil
                  refine step_append_own rfl _ _ 23 rfl (E + 1) 37 i0 (.agg #[.string .empty, .slice none 0 0, .int .i64 0]) 3 48 Tryd.underlying23 hi hz0 hz1 hz2 rfl (by decide) lv ls.length (flatL ls wvs) rfl HDb.out.own ⟨w9.heap.size, 0, none⟩ 1 1 [.string X, .slice na9 r.length nc9, .int .i64 (a : Int)] (by rfl) rfl (cellL_new _ _ _ _) (oneL _ _ _ _ _) HM1.out HM2.out hHeld.2.2.out.ts.room ?_
                  intro v' w10 hown' hgrow
                  have hown2 := hown'
                  rw [HXX.out] at hown2
                  obtain ⟨pa, pb, pc⟩ := DirX.push (l := (x, r, a)) HDb.out HWb.out hown2 hgrow
                  obtain ⟨na, nc, hv'⟩ := isSlice_of hown'
                  subst hv'
                  have HP := hidM (And.intro pa (And.intro pb pc))
                  clear pa pb pc hown' hown2
                  refine hK.out _ _ ((hHeld.2.2.out.grow hgrow HDb.out).full HRC.out HCU.out) (fun hHeld => ?_)
                  clear hK K hgrow
                  change wpAnyH _ _ _ _ _ _ _ (⟨#[_, _, _, _, _, _, _, _, _, _, _, _, _, _, _, _, _, _, _, _, _, _, _, _, _, _, _, _, _, _, _, _, _, _, _, _, _, _, _, _, _, _, _, _, _, _, _, _, _, _, _, _, _, _, _, _, _, _, _, _, _, _, _, _, _, _, _, _, _, _, _, _, _, _, _, _], _⟩ : Act) _
                  refine wpAnyH_take (i := 17) (v := ?_) rfl (by kernel_rfl) (by kernel_rfl) (by kernel_rfl) (fun _ _ _ h => h) (Or.inl ⟨by kernel_rfl, ?_⟩) (by assumption) ?_
                  rotate_left
                  · intro w hSw
                    clear hSw
                    go_simp
                    try with_reducible rfl
                  change wpAnyH _ _ _ _ _ _ _ (⟨#[_, _, _, _, _, _, _, _, _, _, _, _, _, _, _, _, _, _, _, _, _, _, _, _, _, _, _, _, _, _, _, _, _, _, _, _, _, _, _, _, _, _, _, _, _, _, _, _, _, _, _, _, _, _, _, _, _, _, _, _, _, _, _, _, _, _, _, _, _, _, _, _, _, _, _, _], _⟩ : Act) _
                  refine wpAnyH_take (i := 18) (v := ?_) rfl (by kernel_rfl) (by kernel_rfl) (by kernel_rfl) (fun _ _ _ h => h) (Or.inl ⟨by kernel_rfl, ?_⟩) (by assumption) ?_
                  rotate_left
                  · intro w hSw
                    clear hSw
                    go_simp
                    try with_reducible rfl
                  change wpAnyH _ _ _ _ _ _ _ (⟨#[_, _, _, _, _, _, _, _, _, _, _, _, _, _, _, _, _, _, _, _, _, _, _, _, _, _, _, _, _, _, _, _, _, _, _, _, _, _, _, _, _, _, _, _, _, _, _, _, _, _, _, _, _, _, _, _, _, _, _, _, _, _, _, _, _, _, _, _, _, _, _, _, _, _, _, _], _⟩ : Act) _
                  refine wpAnyH_ready (rs := [19]) (by kernel_rfl) (by simp) ?_
                  refine AllReadyH.cons rfl (fun K hK => ?_) AllReadyH.nil
                  obtain ⟨x0, x1, xf⟩ := dir_cells HP.out.1
                  have xf0 := xf 0
                  clear xf
                  go_simp
                  refine hK.out _ _ ((TS2.set HP.out.1 hHeld.2.2.out hgE _).full HRC.out HCU.out) (fun hHeld => ?_)
                  clear hK K
                  change wpAnyH _ _ _ _ _ _ _ (⟨#[_, _, _, _, _, _, _, _, _, _, _, _, _, _, _, _, _, _, _, _, _, _, _, _, _, _, _, _, _, _, _, _, _, _, _, _, _, _, _, _, _, _, _, _, _, _, _, _, _, _, _, _, _, _, _, _, _, _, _, _, _, _, _, _, _, _, _, _, _, _, _, _, _, _, _, _], _⟩ : Act) _
                  refine wpAnyH_done (by kernel_rfl) ?_ _
                  refine NoPanic.normal ?_
                  go_wp2
                  go_ret
                  exact HFIN.out _ _ _ HP.out.2.1 hHeld.2.2.out.ts.below hHeld.2.2.out.ts.keep _ rfl
                · go_simp
                  have HDb : Hid (DirX (w9.alloc (.cells #[.string X, .slice na9 r.length nc9, .int .i64 (a : Int)] 37)) E ls blk lv wvs) := DirX.below HD9.out ((Below.refl _ w9).alloc (Nat.le_refl _) _) (Nat.le_refl _)
                  have HWb : Hid (OwnW (w9.alloc (.cells #[.string X, .slice na9 r.length nc9, .int .i64 (a : Int)] 37)) 0 (.slice na9 r.length nc9) r) := ownW_below HW9.out ((Below.refl _ w9).alloc (Nat.le_refl _) _) (Nat.le_refl _)
                  refine hK.out _ _ ((hHeld.2.2.out.alloc _).full HRC.out HCU.out) (fun hHeld => ?_)
                  clear hK K
                  change wpAnyH _ _ _ _ _ _ _ (⟨#[_, _, _, _, _, _, _, _, _, _, _, _, _, _, _, _, _, _, _, _, _, _, _, _, _, _, _, _, _, _, _, _, _, _, _, _, _, _, _, _, _, _, _, _, _, _, _, _, _, _, _, _, _, _, _, _, _, _, _, _, _, _, _, _, _, _, _, _, _, _, _, _, _, _, _, _], _⟩ : Act) _
                  refine wpAnyH_ready (rs := [4]) (by kernel_rfl) (by simp) ?_
                  refine AllReadyH.cons rfl (fun K hK => ?_) AllReadyH.nil
                  have e0 := (dir_cells HDb.out.box).1
                  go_simp
                  refine hK.out _ _ hHeld (fun hHeld => ?_)
                  clear hK K e0
                  change wpAnyH _ _ _ _ _ _ _ (⟨#[_, _, _, _, _, _, _, _, _, _, _, _, _, _, _, _, _, _, _, _, _, _, _, _, _, _, _, _, _, _, _, _, _, _, _, _, _, _, _, _, _, _, _, _, _, _, _, _, _, _, _, _, _, _, _, _, _, _, _, _, _, _, _, _, _, _, _, _, _, _, _, _, _, _, _, _], _⟩ : Act) _
                  refine wpAnyH_ready (rs := [16]) (by kernel_rfl) (by simp) ?_
                  refine AllReadyH.cons rfl (fun K hK => ?_) AllReadyH.nil
                  refine step_append_own rfl _ _ 23 rfl (E + 1) 37 i0 (.agg #[.string .empty, .slice none 0 0, .int .i64 0]) 3 48 Tryd.underlying23 hi hz0 hz1 hz2 rfl (by decide) lv ls.length (flatL ls wvs) rfl HDb.out.own ⟨w9.heap.size, 0, none⟩ 1 1 [.string X, .slice na9 r.length nc9, .int .i64 (a : Int)] (by rfl) rfl (cellL_new _ _ _ _) (oneL _ _ _ _ _) HM1.out HM2.out hHeld.2.2.out.ts.room ?_
                  intro v' w10 hown' hgrow
                  have hown2 := hown'
                  rw [HXX.out] at hown2
                  obtain ⟨pa, pb, pc⟩ := DirX.push (l := (x, r, a)) HDb.out HWb.out hown2 hgrow
                  obtain ⟨na, nc, hv'⟩ := isSlice_of hown'
                  subst hv'
                  have HP := hidM (And.intro pa (And.intro pb pc))
                  clear pa pb pc hown' hown2
                  refine hK.out _ _ ((hHeld.2.2.out.grow hgrow HDb.out).full HRC.out HCU.out) (fun hHeld => ?_)
                  clear hK K hgrow
                  change wpAnyH _ _ _ _ _ _ _ (⟨#[_, _, _, _, _, _, _, _, _, _, _, _, _, _, _, _, _, _, _, _, _, _, _, _, _, _, _, _, _, _, _, _, _, _, _, _, _, _, _, _, _, _, _, _, _, _, _, _, _, _, _, _, _, _, _, _, _, _, _, _, _, _, _, _, _, _, _, _, _, _, _, _, _, _, _, _], _⟩ : Act) _
                  refine wpAnyH_take (i := 17) (v := ?_) rfl (by kernel_rfl) (by kernel_rfl) (by kernel_rfl) (fun _ _ _ h => h) (Or.inl ⟨by kernel_rfl, ?_⟩) (by assumption) ?_
                  rotate_left
                  · intro w hSw
                    clear hSw
                    go_simp
                    try with_reducible rfl
                  change wpAnyH _ _ _ _ _ _ _ (⟨#[_, _, _, _, _, _, _, _, _, _, _, _, _, _, _, _, _, _, _, _, _, _, _, _, _, _, _, _, _, _, _, _, _, _, _, _, _, _, _, _, _, _, _, _, _, _, _, _, _, _, _, _, _, _, _, _, _, _, _, _, _, _, _, _, _, _, _, _, _, _, _, _, _, _, _, _], _⟩ : Act) _
                  refine wpAnyH_take (i := 18) (v := ?_) rfl (by kernel_rfl) (by kernel_rfl) (by kernel_rfl) (fun _ _ _ h => h) (Or.inl ⟨by kernel_rfl, ?_⟩) (by assumption) ?_
                  rotate_left
                  · intro w hSw
                    clear hSw
                    go_simp
                    try with_reducible rfl
                  change wpAnyH _ _ _ _ _ _ _ (⟨#[_, _, _, _, _, _, _, _, _, _, _, _, _, _, _, _, _, _, _, _, _, _, _, _, _, _, _, _, _, _, _, _, _, _, _, _, _, _, _, _, _, _, _, _, _, _, _, _, _, _, _, _, _, _, _, _, _, _, _, _, _, _, _, _, _, _, _, _, _, _, _, _, _, _, _, _], _⟩ : Act) _
                  refine wpAnyH_ready (rs := [19]) (by kernel_rfl) (by simp) ?_
                  refine AllReadyH.cons rfl (fun K hK => ?_) AllReadyH.nil
                  obtain ⟨x0, x1, xf⟩ := dir_cells HP.out.1
                  have xf0 := xf 0
                  clear xf
                  go_simp
                  refine hK.out _ _ ((TS2.set HP.out.1 hHeld.2.2.out hgE _).full HRC.out HCU.out) (fun hHeld => ?_)
                  clear hK K
                  change wpAnyH _ _ _ _ _ _ _ (⟨#[_, _, _, _, _, _, _, _, _, _, _, _, _, _, _, _, _, _, _, _, _, _, _, _, _, _, _, _, _, _, _, _, _, _, _, _, _, _, _, _, _, _, _, _, _, _, _, _, _, _, _, _, _, _, _, _, _, _, _, _, _, _, _, _, _, _, _, _, _, _, _, _, _, _, _, _], _⟩ : Act) _
                  refine wpAnyH_done (by kernel_rfl) ?_ _
                  refine NoPanic.normal ?_
                  go_wp2
                  go_ret
                  exact HFIN.out _ _ _ HP.out.2.1 hHeld.2.2.out.ts.below hHeld.2.2.out.ts.keep _ rfl

      · have h3 : B.toList.isEmpty = false := by
          rw [HBL.out]
          cases blk with
          | nil => exact absurd rfl hb0
          | cons _ _ => rfl
        have HFIN : Hid (∀ V lv' wvs', DirX V E (ls ++ [(blk, x :: r, a)]) blk lv' wvs' → Below E w V → Keep49 w V → ∀ e, e = .returned (.bool true) → TakePost E ls blk (x :: r) 0 a w e V) := by
          rintro V lv' wvs' h1 h2 h5 e rfl
          unfold TakePost takeD
          simp [hb0]
          exact ⟨⟨lv', wvs', h1⟩, h2, h5⟩
        clear hb0
        obtain rfl : kI = 0 := HKI.out
        go_enter Tryd.func21, Tryd.ntmps21
        go_upto_block 0 with fail
        rw [HE1.out]

        go_upto_region 8 with fail
        refine wp_region_noPanic ?_
        refine wp_region_held_drew (S := (fun w' => w'.cell? ⟨E, 1, none⟩ = some (.string B) ∧ w'.cell? ⟨w.heap.size, 0, none⟩ = some (.slice wa wl wc) ∧ Hid (TS w E w.heap.size rc w'))) (by kernel_rfl) ?_ (fun hHeld => ?_)
        · exact ⟨d1, r0, HS1.out⟩
        refine wpAnyH_take (i := 0) (v := ?_) rfl (by kernel_rfl) (by kernel_rfl) (by kernel_rfl) (fun _ _ _ h => h) (Or.inl ⟨by kernel_rfl, ?_⟩) (by assumption) ?_
        rotate_left
        · intro w hSw
          clear hSw
          go_simp
          try with_reducible rfl
        change wpAnyH _ _ _ _ _ _ _ (⟨#[_, _, _, _, _, _, _, _, _, _, _, _, _, _, _, _, _, _, _, _, _, _, _, _, _, _, _, _, _, _, _, _, _, _, _, _, _, _, _, _, _, _, _, _, _, _, _, _, _, _, _, _, _, _, _, _, _, _, _, _, _, _, _, _, _, _, _, _, _, _, _, _, _, _, _, _], _⟩ : Act) _
        refine wpAnyH_take (i := 1) (v := ?_) rfl (by kernel_rfl) (by kernel_rfl) (by kernel_rfl) (fun _ _ _ h => h) (Or.inl ⟨by kernel_rfl, ?_⟩) (by assumption) ?_
        rotate_left
        · intro w hSw
          clear hSw
          go_simp
          try with_reducible rfl
        change wpAnyH _ _ _ _ _ _ _ (⟨#[_, _, _, _, _, _, _, _, _, _, _, _, _, _, _, _, _, _, _, _, _, _, _, _, _, _, _, _, _, _, _, _, _, _, _, _, _, _, _, _, _, _, _, _, _, _, _, _, _, _, _, _, _, _, _, _, _, _, _, _, _, _, _, _, _, _, _, _, _, _, _, _, _, _, _, _], _⟩ : Act) _
        refine wpAnyH_take (i := 2) (v := ?_) rfl (by kernel_rfl) (by kernel_rfl) (by kernel_rfl) (fun _ _ _ h => h) (Or.inl ⟨by kernel_rfl, ?_⟩) (by assumption) ?_
        rotate_left
        · intro w hSw
          clear hSw
          go_simp
          try with_reducible rfl
        change wpAnyH _ _ _ _ _ _ _ (⟨#[_, _, _, _, _, _, _, _, _, _, _, _, _, _, _, _, _, _, _, _, _, _, _, _, _, _, _, _, _, _, _, _, _, _, _, _, _, _, _, _, _, _, _, _, _, _, _, _, _, _, _, _, _, _, _, _, _, _, _, _, _, _, _, _, _, _, _, _, _, _, _, _, _, _, _, _], _⟩ : Act) _
        refine wpAnyH_take (i := 3) (v := ?_) rfl (by kernel_rfl) (by kernel_rfl) (by kernel_rfl) (fun _ _ _ h => h) (Or.inl ⟨by kernel_rfl, ?_⟩) (by assumption) ?_
        rotate_left
        · intro w hSw
          clear hSw
          go_simp
          try with_reducible rfl
        change wpAnyH _ _ _ _ _ _ _ (⟨#[_, _, _, _, _, _, _, _, _, _, _, _, _, _, _, _, _, _, _, _, _, _, _, _, _, _, _, _, _, _, _, _, _, _, _, _, _, _, _, _, _, _, _, _, _, _, _, _, _, _, _, _, _, _, _, _, _, _, _, _, _, _, _, _, _, _, _, _, _, _, _, _, _, _, _, _], _⟩ : Act) _
        refine wpAnyH_take (i := 5) (v := ?_) rfl (by kernel_rfl) (by kernel_rfl) (by kernel_rfl) (fun _ _ _ h => h) (Or.inl ⟨by kernel_rfl, ?_⟩) (by assumption) ?_
        rotate_left
        · intro w hSw
          clear hSw
          go_simp
          try with_reducible rfl
        change wpAnyH _ _ _ _ _ _ _ (⟨#[_, _, _, _, _, _, _, _, _, _, _, _, _, _, _, _, _, _, _, _, _, _, _, _, _, _, _, _, _, _, _, _, _, _, _, _, _, _, _, _, _, _, _, _, _, _, _, _, _, _, _, _, _, _, _, _, _, _, _, _, _, _, _, _, _, _, _, _, _, _, _, _, _, _, _, _], _⟩ : Act) _
        refine wpAnyH_take (i := 6) (v := ?_) rfl (by kernel_rfl) (by kernel_rfl) (by kernel_rfl) (fun _ _ _ h => h) (Or.inl ⟨by kernel_rfl, ?_⟩) (by assumption) ?_
        rotate_left
        · intro w hSw
          clear hSw
          go_simp
          try with_reducible rfl
        change wpAnyH _ _ _ _ _ _ _ (⟨#[_, _, _, _, _, _, _, _, _, _, _, _, _, _, _, _, _, _, _, _, _, _, _, _, _, _, _, _, _, _, _, _, _, _, _, _, _, _, _, _, _, _, _, _, _, _, _, _, _, _, _, _, _, _, _, _, _, _, _, _, _, _, _, _, _, _, _, _, _, _, _, _, _, _, _, _], _⟩ : Act) _
        refine wpAnyH_take (i := 7) (v := ?_) rfl (by kernel_rfl) (by kernel_rfl) (by kernel_rfl) (fun _ _ _ h => h) (Or.inl ⟨by kernel_rfl, ?_⟩) (by assumption) ?_
        rotate_left
        · intro w hSw
          clear hSw
          go_simp
          try with_reducible rfl
        change wpAnyH _ _ _ _ _ _ _ (⟨#[_, _, _, _, _, _, _, _, _, _, _, _, _, _, _, _, _, _, _, _, _, _, _, _, _, _, _, _, _, _, _, _, _, _, _, _, _, _, _, _, _, _, _, _, _, _, _, _, _, _, _, _, _, _, _, _, _, _, _, _, _, _, _, _, _, _, _, _, _, _, _, _, _, _, _, _], _⟩ : Act) _
        refine wpAnyH_take (i := 8) (v := ?_) rfl (by kernel_rfl) (by kernel_rfl) (by kernel_rfl) (fun _ _ _ h => h) (Or.inl ⟨by kernel_rfl, ?_⟩) (by assumption) ?_
        rotate_left
        · intro w hSw
          obtain ⟨c2, c3, _⟩ := hSw
          go_simp
          try with_reducible rfl
        change wpAnyH _ _ _ _ _ _ _ (⟨#[_, _, _, _, _, _, _, _, _, _, _, _, _, _, _, _, _, _, _, _, _, _, _, _, _, _, _, _, _, _, _, _, _, _, _, _, _, _, _, _, _, _, _, _, _, _, _, _, _, _, _, _, _, _, _, _, _, _, _, _, _, _, _, _, _, _, _, _, _, _, _, _, _, _, _, _], _⟩ : Act) _
        refine wpAnyH_take (i := 9) (v := ?_) rfl (by kernel_rfl) (by kernel_rfl) (by kernel_rfl) (fun _ _ _ h => h) (Or.inl ⟨by kernel_rfl, ?_⟩) (by assumption) ?_
        rotate_left
        · intro w hSw
          clear hSw
          go_simp
          try with_reducible rfl
        change wpAnyH _ _ _ _ _ _ _ (⟨#[_, _, _, _, _, _, _, _, _, _, _, _, _, _, _, _, _, _, _, _, _, _, _, _, _, _, _, _, _, _, _, _, _, _, _, _, _, _, _, _, _, _, _, _, _, _, _, _, _, _, _, _, _, _, _, _, _, _, _, _, _, _, _, _, _, _, _, _, _, _, _, _, _, _, _, _], _⟩ : Act) _
        refine wpAnyH_take (i := 10) (v := ?_) rfl (by kernel_rfl) (by kernel_rfl) (by kernel_rfl) (fun _ _ _ h => h) (Or.inl ⟨by kernel_rfl, ?_⟩) (by assumption) ?_
        rotate_left
        · intro w hSw
          obtain ⟨c2, c3, _⟩ := hSw
          go_simp
          try with_reducible rfl
        change wpAnyH _ _ _ _ _ _ _ (⟨#[_, _, _, _, _, _, _, _, _, _, _, _, _, _, _, _, _, _, _, _, _, _, _, _, _, _, _, _, _, _, _, _, _, _, _, _, _, _, _, _, _, _, _, _, _, _, _, _, _, _, _, _, _, _, _, _, _, _, _, _, _, _, _, _, _, _, _, _, _, _, _, _, _, _, _, _], _⟩ : Act) _
        refine wpAnyH_take (i := 11) (v := ?_) rfl (by kernel_rfl) (by kernel_rfl) (by kernel_rfl) (fun _ _ _ h => h) (Or.inl ⟨by kernel_rfl, ?_⟩) (by assumption) ?_
        rotate_left
        · intro w hSw
          clear hSw
          go_simp
          try with_reducible rfl
        change wpAnyH _ _ _ _ _ _ _ (⟨#[_, _, _, _, _, _, _, _, _, _, _, _, _, _, _, _, _, _, _, _, _, _, _, _, _, _, _, _, _, _, _, _, _, _, _, _, _, _, _, _, _, _, _, _, _, _, _, _, _, _, _, _, _, _, _, _, _, _, _, _, _, _, _, _, _, _, _, _, _, _, _, _, _, _, _, _], _⟩ : Act) _
        refine wpAnyH_take (i := 12) (v := ?_) rfl (by kernel_rfl) (by kernel_rfl) (by kernel_rfl) (fun _ _ _ h => h) (Or.inl ⟨by kernel_rfl, ?_⟩) (by assumption) ?_
        rotate_left
        · intro w hSw
          clear hSw
          go_simp
          try with_reducible rfl
        change wpAnyH _ _ _ _ _ _ _ (⟨#[_, _, _, _, _, _, _, _, _, _, _, _, _, _, _, _, _, _, _, _, _, _, _, _, _, _, _, _, _, _, _, _, _, _, _, _, _, _, _, _, _, _, _, _, _, _, _, _, _, _, _, _, _, _, _, _, _, _, _, _, _, _, _, _, _, _, _, _, _, _, _, _, _, _, _, _], _⟩ : Act) _
        refine wpAnyH_ready (rs := [4, 13]) (by kernel_rfl) (by simp) ?_
        refine AllReadyH.cons rfl (fun K hK => ?_) (AllReadyH.cons rfl (fun K hK => ?_) (AllReadyH.nil))
        · have e0 := (dir_cells HD1.out.box).1
          go_simp
          refine hK.out _ _ hHeld (fun hHeld => ?_)
          clear hK K e0
          change wpAnyH _ _ _ _ _ _ _ (⟨#[_, _, _, _, _, _, _, _, _, _, _, _, _, _, _, _, _, _, _, _, _, _, _, _, _, _, _, _, _, _, _, _, _, _, _, _, _, _, _, _, _, _, _, _, _, _, _, _, _, _, _, _, _, _, _, _, _, _, _, _, _, _, _, _, _, _, _, _, _, _, _, _, _, _, _, _], _⟩ : Act) _
          refine wpAnyH_ready (rs := [13]) (by kernel_rfl) (by simp) ?_
          refine AllReadyH.cons rfl (fun K hK => ?_) AllReadyH.nil
          go_simp
          have HD2 : Hid (DirX (W1.alloc (.cells #[.string B, .slice wa wl wc, .int .i64 (a : Int)] 37)).drew E ls blk lv wvs) := DirX.allocD (V := W1) HD1.out rfl _
          have HW2 : Hid (OwnW (W1.alloc (.cells #[.string B, .slice wa wl wc, .int .i64 (a : Int)] 37)).drew 0 (.slice wa wl wc) (x :: r)) := ownW_allocD (V := W1) HW1.out rfl _
          refine hK.out _ _ (S8_alloc hHeld _) (fun hHeld => ?_)
          clear hK K
          change wpAnyH _ _ _ _ _ _ _ (⟨#[_, _, _, _, _, _, _, _, _, _, _, _, _, _, _, _, _, _, _, _, _, _, _, _, _, _, _, _, _, _, _, _, _, _, _, _, _, _, _, _, _, _, _, _, _, _, _, _, _, _, _, _, _, _, _, _, _, _, _, _, _, _, _, _, _, _, _, _, _, _, _, _, _, _, _, _], _⟩ : Act) _
          refine wpAnyH_ready (rs := [14]) (by kernel_rfl) (by simp) ?_
          refine AllReadyH.cons rfl (fun K hK => ?_) AllReadyH.nil
          refine step_append_own rfl _ _ 23 rfl (E + 1) 37 i0 (.agg #[.string .empty, .slice none 0 0, .int .i64 0]) 3 48 Tryd.underlying23 hi hz0 hz1 hz2 rfl (by decide) lv ls.length (flatL ls wvs) rfl HD2.out.own ⟨W1.heap.size, 0, none⟩ 1 1 [.string B, .slice wa wl wc, .int .i64 (a : Int)] (by rfl) rfl (cellL_new _ _ _ _) (oneL _ _ _ _ _) HM1.out HM2.out hHeld.2.2.out.room ?_
          intro v' w10 hown' hgrow
          have hown2 := hown'
          rw [HBB.out] at hown2
          obtain ⟨pa, pb, pc⟩ := DirX.push (l := (blk, x :: r, a)) HD2.out HW2.out hown2 hgrow
          obtain ⟨na, nc, hv'⟩ := isSlice_of hown'
          subst hv'
          have HP := hidM (And.intro pa (And.intro pb pc))
          clear pa pb pc hown' hown2
          refine hK.out _ _ (S8_grow hHeld hgrow HD2.out) (fun hHeld => ?_)
          clear hK K hgrow
          change wpAnyH _ _ _ _ _ _ _ (⟨#[_, _, _, _, _, _, _, _, _, _, _, _, _, _, _, _, _, _, _, _, _, _, _, _, _, _, _, _, _, _, _, _, _, _, _, _, _, _, _, _, _, _, _, _, _, _, _, _, _, _, _, _, _, _, _, _, _, _, _, _, _, _, _, _, _, _, _, _, _, _, _, _, _, _, _, _], _⟩ : Act) _
          refine wpAnyH_take (i := 15) (v := ?_) rfl (by kernel_rfl) (by kernel_rfl) (by kernel_rfl) (fun _ _ _ h => h) (Or.inl ⟨by kernel_rfl, ?_⟩) (by assumption) ?_
          rotate_left
          · intro w hSw
            clear hSw
            go_simp
            try with_reducible rfl
          change wpAnyH _ _ _ _ _ _ _ (⟨#[_, _, _, _, _, _, _, _, _, _, _, _, _, _, _, _, _, _, _, _, _, _, _, _, _, _, _, _, _, _, _, _, _, _, _, _, _, _, _, _, _, _, _, _, _, _, _, _, _, _, _, _, _, _, _, _, _, _, _, _, _, _, _, _, _, _, _, _, _, _, _, _, _, _, _, _], _⟩ : Act) _
          refine wpAnyH_take (i := 16) (v := ?_) rfl (by kernel_rfl) (by kernel_rfl) (by kernel_rfl) (fun _ _ _ h => h) (Or.inl ⟨by kernel_rfl, ?_⟩) (by assumption) ?_
          rotate_left
          · intro w hSw
            clear hSw
            go_simp
            try with_reducible rfl
          change wpAnyH _ _ _ _ _ _ _ (⟨#[_, _, _, _, _, _, _, _, _, _, _, _, _, _, _, _, _, _, _, _, _, _, _, _, _, _, _, _, _, _, _, _, _, _, _, _, _, _, _, _, _, _, _, _, _, _, _, _, _, _, _, _, _, _, _, _, _, _, _, _, _, _, _, _, _, _, _, _, _, _, _, _, _, _, _, _], _⟩ : Act) _
          refine wpAnyH_ready (rs := [17]) (by kernel_rfl) (by simp) ?_
          refine AllReadyH.cons rfl (fun K hK => ?_) AllReadyH.nil
          obtain ⟨x0, x1, xf⟩ := dir_cells HP.out.1
          have xf0 := xf 0
          clear xf
          go_simp
          refine hK.out _ _ (S8_set HP.out.1 hHeld _) (fun hHeld => ?_)
          clear hK K
          change wpAnyH _ _ _ _ _ _ _ (⟨#[_, _, _, _, _, _, _, _, _, _, _, _, _, _, _, _, _, _, _, _, _, _, _, _, _, _, _, _, _, _, _, _, _, _, _, _, _, _, _, _, _, _, _, _, _, _, _, _, _, _, _, _, _, _, _, _, _, _, _, _, _, _, _, _, _, _, _, _, _, _, _, _, _, _, _, _], _⟩ : Act) _
          refine wpAnyH_done (by kernel_rfl) ?_ _
          refine NoPanic.normal ?_
          go_wp2
          go_ret
          exact HFIN.out _ _ _ HP.out.2.1 hHeld.2.2.out.below hHeld.2.2.out.keep _ rfl
        · go_simp
          have HD2 : Hid (DirX (W1.alloc (.cells #[.string B, .slice wa wl wc, .int .i64 (a : Int)] 37)).drew E ls blk lv wvs) := DirX.allocD (V := W1) HD1.out rfl _
          have HW2 : Hid (OwnW (W1.alloc (.cells #[.string B, .slice wa wl wc, .int .i64 (a : Int)] 37)).drew 0 (.slice wa wl wc) (x :: r)) := ownW_allocD (V := W1) HW1.out rfl _
          refine hK.out _ _ (S8_alloc hHeld _) (fun hHeld => ?_)
          clear hK K
          change wpAnyH _ _ _ _ _ _ _ (⟨#[_, _, _, _, _, _, _, _, _, _, _, _, _, _, _, _, _, _, _, _, _, _, _, _, _, _, _, _, _, _, _, _, _, _, _, _, _, _, _, _, _, _, _, _, _, _, _, _, _, _, _, _, _, _, _, _, _, _, _, _, _, _, _, _, _, _, _, _, _, _, _, _, _, _, _, _], _⟩ : Act) _
          refine wpAnyH_ready (rs := [4]) (by kernel_rfl) (by simp) ?_
          refine AllReadyH.cons rfl (fun K hK => ?_) AllReadyH.nil
          have e0 := (dir_cells HD2.out.box).1
          go_simp
          refine hK.out _ _ hHeld (fun hHeld => ?_)
          clear hK K e0
          change wpAnyH _ _ _ _ _ _ _ (⟨#[_, _, _, _, _, _, _, _, _, _, _, _, _, _, _, _, _, _, _, _, _, _, _, _, _, _, _, _, _, _, _, _, _, _, _, _, _, _, _, _, _, _, _, _, _, _, _, _, _, _, _, _, _, _, _, _, _, _, _, _, _, _, _, _, _, _, _, _, _, _, _, _, _, _, _, _], _⟩ : Act) _
          refine wpAnyH_ready (rs := [14]) (by kernel_rfl) (by simp) ?_
          refine AllReadyH.cons rfl (fun K hK => ?_) AllReadyH.nil
          refine step_append_own rfl _ _ 23 rfl (E + 1) 37 i0 (.agg #[.string .empty, .slice none 0 0, .int .i64 0]) 3 48 Tryd.underlying23 hi hz0 hz1 hz2 rfl (by decide) lv ls.length (flatL ls wvs) rfl HD2.out.own ⟨W1.heap.size, 0, none⟩ 1 1 [.string B, .slice wa wl wc, .int .i64 (a : Int)] (by rfl) rfl (cellL_new _ _ _ _) (oneL _ _ _ _ _) HM1.out HM2.out hHeld.2.2.out.room ?_
          intro v' w10 hown' hgrow
          have hown2 := hown'
          rw [HBB.out] at hown2
          obtain ⟨pa, pb, pc⟩ := DirX.push (l := (blk, x :: r, a)) HD2.out HW2.out hown2 hgrow
          obtain ⟨na, nc, hv'⟩ := isSlice_of hown'
          subst hv'
          have HP := hidM (And.intro pa (And.intro pb pc))
          clear pa pb pc hown' hown2
          refine hK.out _ _ (S8_grow hHeld hgrow HD2.out) (fun hHeld => ?_)
          clear hK K hgrow
          change wpAnyH _ _ _ _ _ _ _ (⟨#[_, _, _, _, _, _, _, _, _, _, _, _, _, _, _, _, _, _, _, _, _, _, _, _, _, _, _, _, _, _, _, _, _, _, _, _, _, _, _, _, _, _, _, _, _, _, _, _, _, _, _, _, _, _, _, _, _, _, _, _, _, _, _, _, _, _, _, _, _, _, _, _, _, _, _, _], _⟩ : Act) _
          refine wpAnyH_take (i := 15) (v := ?_) rfl (by kernel_rfl) (by kernel_rfl) (by kernel_rfl) (fun _ _ _ h => h) (Or.inl ⟨by kernel_rfl, ?_⟩) (by assumption) ?_
          rotate_left
          · intro w hSw
            clear hSw
            go_simp
            try with_reducible rfl
          change wpAnyH _ _ _ _ _ _ _ (⟨#[_, _, _, _, _, _, _, _, _, _, _, _, _, _, _, _, _, _, _, _, _, _, _, _, _, _, _, _, _, _, _, _, _, _, _, _, _, _, _, _, _, _, _, _, _, _, _, _, _, _, _, _, _, _, _, _, _, _, _, _, _, _, _, _, _, _, _, _, _, _, _, _, _, _, _, _], _⟩ : Act) _
          refine wpAnyH_take (i := 16) (v := ?_) rfl (by kernel_rfl) (by kernel_rfl) (by kernel_rfl) (fun _ _ _ h => h) (Or.inl ⟨by kernel_rfl, ?_⟩) (by assumption) ?_
          rotate_left
          · intro w hSw
            clear hSw
            go_simp
            try with_reducible rfl
          change wpAnyH _ _ _ _ _ _ _ (⟨#[_, _, _, _, _, _, _, _, _, _, _, _, _, _, _, _, _, _, _, _, _, _, _, _, _, _, _, _, _, _, _, _, _, _, _, _, _, _, _, _, _, _, _, _, _, _, _, _, _, _, _, _, _, _, _, _, _, _, _, _, _, _, _, _, _, _, _, _, _, _, _, _, _, _, _, _], _⟩ : Act) _
          refine wpAnyH_ready (rs := [17]) (by kernel_rfl) (by simp) ?_
          refine AllReadyH.cons rfl (fun K hK => ?_) AllReadyH.nil
          obtain ⟨x0, x1, xf⟩ := dir_cells HP.out.1
          have xf0 := xf 0
          clear xf
          go_simp
          refine hK.out _ _ (S8_set HP.out.1 hHeld _) (fun hHeld => ?_)
          clear hK K
          change wpAnyH _ _ _ _ _ _ _ (⟨#[_, _, _, _, _, _, _, _, _, _, _, _, _, _, _, _, _, _, _, _, _, _, _, _, _, _, _, _, _, _, _, _, _, _, _, _, _, _, _, _, _, _, _, _, _, _, _, _, _, _, _, _, _, _, _, _, _, _, _, _, _, _, _, _, _, _, _, _, _, _, _, _, _, _, _, _], _⟩ : Act) _
          refine wpAnyH_done (by kernel_rfl) ?_ _
          refine NoPanic.normal ?_
          go_wp2
          go_ret
          exact HFIN.out _ _ _ HP.out.2.1 hHeld.2.2.out.below hHeld.2.2.out.keep _ rfl

  · by_cases hc : blk = [] ∧ ws.length = 1
    · obtain ⟨hb0, hl⟩ := hc
      obtain ⟨x, rfl⟩ := List.length_eq_one_iff.1 hl
      have HOP := hidM (open_yes E lv _ B x W1 HX1.out HW1.out (by rw [HBL.out]; exact hb0))
      have HP : Hid (∀ e V, e = .returned (.bool (decide (x ≠ []))) → V = W1.setCell ⟨E, 1, none⟩ (strV x) → TakePost E ls blk [x] 3 a w e V) := by
        rintro e V rfl rfl
        unfold TakePost takeD
        have hbl : Below E w (W1.setCell ⟨E, 1, none⟩ (strV x)) := Below.setCell (p := ⟨E, 1, none⟩) HBE.out (Nat.le_refl _) _
        by_cases hx : x = []
        · simp [hx]; rw [← hx]; exact hbl
        · simp [hx, hb0]
          exact ⟨⟨lv, wvs, HD1.out.blk x⟩, hbl, HKP.out.trans (Keep49.set HX1.out _ _)⟩
      obtain rfl : wl = 1 := HWL.out
      clear hl
      generalize decide (x ≠ []) = rr at HOP HP
      obtain rfl : kI = 3 := HKI.out
      go_enter Tryd.func21, Tryd.ntmps21
      go_upto_block 0 with fail
      rw [HE1.out]

      go_wp2_with fail
      refine HOP.out.mono ?_
      rintro _ w2 ⟨rfl, h2⟩
      have HW2 := hidM h2
      clear h2
      go_wp2
      go_ret
      exact HP.out _ _ rfl HW2.out
    · have HOP := hidM (open_no E lv _ B ws W1 HX1.out HW1.out (by rw [HBL.out]; rcases Classical.not_and_iff_not_or_not.1 hc with h | h <;> simp [h]))
      have HP : Hid (∀ e V, e = .returned (.bool false) → V = W1 → TakePost E ls blk ws 3 a w e V) := by
        rintro e V rfl rfl
        have ht : takeD blk ws 3 a = none := by
          unfold takeD
          simp only [if_true]
          split
          · rename_i x
            rw [if_neg]
            rintro ⟨h1, _⟩
            exact hc ⟨h1, rfl⟩
          · rfl
        unfold TakePost
        rw [ht]
        exact ⟨rfl, HBE.out⟩
      obtain rfl : kI = 3 := HKI.out
      go_enter Tryd.func21, Tryd.ntmps21
      go_upto_block 0 with fail
      rw [HE1.out]

      go_wp2_with fail
      refine HOP.out.mono ?_
      rintro _ w2 ⟨rfl, h2⟩
      have HW2 := hidM h2
      clear h2
      go_wp2
      go_ret
      exact HP.out _ _ rfl HW2.out
  · by_cases hc : blk ≠ [] ∧ ws = []
    · obtain ⟨hb0, rfl⟩ := hc
      have HOP := hidM (shut_yes E lv _ B W1 HX1.out HW1.out (by rw [HBL.out]; exact hb0))
      have HP : Hid (∀ e V, e = .returned (.bool true) → V = W1.setCell ⟨E, 1, none⟩ (.string ⟨#[]⟩) → TakePost E ls blk [] 4 a w e V) := by
        rintro e V rfl rfl
        unfold TakePost takeD
        have hbl : Below E w (W1.setCell ⟨E, 1, none⟩ (.string ⟨#[]⟩)) := Below.setCell (p := ⟨E, 1, none⟩) HBE.out (Nat.le_refl _) _
        simp [hb0]
        exact ⟨⟨lv, wvs, HD1.out.blk []⟩, hbl, HKP.out.trans (Keep49.set HX1.out _ _)⟩
      obtain rfl : wl = 0 := HWL.out
      obtain rfl : kI = 4 := HKI.out
      go_enter Tryd.func21, Tryd.ntmps21
      go_upto_block 0 with fail
      rw [HE1.out]

      go_wp2_with fail
      refine HOP.out.mono ?_
      rintro _ w2 ⟨rfl, h2⟩
      have HW2 := hidM h2
      clear h2
      go_wp2
      go_ret
      exact HP.out _ _ rfl HW2.out
    · have HOP := hidM (shut_no E lv _ B ws W1 HX1.out HW1.out (by
        rw [HBL.out]
        by_cases h : blk = []
        · exact .inl h
        · refine .inr ?_
          intro h2
          exact hc ⟨h, List.eq_nil_of_length_eq_zero h2⟩))
      have HP : Hid (∀ e V, e = .returned (.bool false) → V = W1 → TakePost E ls blk ws 4 a w e V) := by
        rintro e V rfl rfl
        have ht : takeD blk ws 4 a = none := by
          unfold takeD
          rw [if_neg (by decide), if_pos rfl, if_neg hc]
        unfold TakePost
        rw [ht]
        exact ⟨rfl, HBE.out⟩
      obtain rfl : kI = 4 := HKI.out
      go_enter Tryd.func21, Tryd.ntmps21
      go_upto_block 0 with fail
      rw [HE1.out]

      go_wp2_with fail
      refine HOP.out.mono ?_
      rintro _ w2 ⟨rfl, h2⟩
      have HW2 := hidM h2
      clear h2
      go_wp2
      go_ret
      exact HP.out _ _ rfl HW2.out
end Go.Proofs.YtgkjmmfpbcgmgaaDoor
