/-
  Taken over from another program: LexE.
  Taken over from another program: LexF.
  Taken over from another program: MfN.
  Taken over from another program: PthD.
  Taken over from another program: PthG.
  Taken over from another program: PthH.
  Taken over from another program: PlnM.
  Taken over from another program: MfO.
  Taken over from another program: MfP.
-/
import Derived.Test.YtmhjdahmmdfbcaaGreatDoorJMLexD
import Derived.Deep.RegionHeld
namespace Go.Proofs.YtmhjdahmmdfbcaaGreatDoor.M
open Go.RowKit
theorem step_append_own {P : Program} {ops : Array Oper} {o : Oper} {a : Act} {w : World} {K : Act → World → Prop} {Q : Exit → Act → World → Prop} {E : Prop}
    (hg : o.guard = none) (s x : Operand) (t : TypeId) (hop : o.op = Op.call { callee := Callee.builtin Builtin.append, args := #[s, x], argTypes := #[t, t] })
    (base : Nat) (e : TypeId) (i : TypeInfo) (z : Value) (size bytes : Nat) (h1 : P.underlying t = some (.slice e)) (h2 : P.info? e = some i) (h3 : i.zero = some z) (h4 : i.size = size) (h5 : i.bytes = bytes) (h6 : z.cells.size = size) (h7 : 0 < size)
    (v : Value) (n : Nat) (xs : List Value) (hs : a.eval s = v) (hown : w.ownsRow base e size v n xs)
    (ad : Addr) (m c : Nat) (news : List Value) (hx : a.eval x = .slice (some ad) m c) (hn : news.length = m * size) (hc : ∀ j u, news[j]? = some u → w.cell? (ad.add j) = some u) (h1c : ∀ u ∈ news, u.oneCell' = true)
    (b1 : n + m ≤ maxLen) (b2 : (n + m) * bytes ≤ 140737488355328) (b3 : base ≤ w.heap.size)
    (hK : ∀ v' w', w'.ownsRow base e size v' (n + m) (xs ++ news) → w.grownBy w' v.ownBlock → K (a.put o.dst v') w') :
    if Region.wanted o (yielded ops a.tmps) = true then Oper.wp P o a w K Q else E := by
  have hw : Region.wanted o (yielded ops a.tmps) = true := by simp [Region.wanted, hg]
  rw [if_pos hw]
  obtain ⟨v', w', hrun, r1, r2, _⟩ := run_append_own (P := P) w base t o.type e i z size bytes h1 h2 h3 h4 h5 h6 h7 v n xs hown ad m c news hn hc h1c b1 b2 b3
  unfold Oper.wp
  simp [execOp, hop, resolve, invoke, builtin, hs, hx, hrun, Result.andThen]
  exact hK v' w' r1 r2
/-- directives in a row: verb, words, line -/
def flatL (ls : List Ln) (wvs : List Value) : List Value := (ls.zip wvs).flatMap fun x => [strV x.1.1, x.2, .int .i64 (x.1.2.2 : Int)]
theorem flatL_app (ls : List Ln) (wvs : List Value) (l : Ln) (wv : Value) (h : wvs.length = ls.length) : flatL (ls ++ [l]) (wvs ++ [wv]) = flatL ls wvs ++ [strV l.1, wv, .int .i64 (l.2.2 : Int)] := by
  unfold flatL
  rw [List.zip_append h.symm]
  simp
/-- the directives, as they lie -/
structure DirX (w : World) (E : Nat) (ls : List Ln) (blk : List UInt8) (lv : Value) (wvs : List Value) : Prop where
  box : w.heap[E]? = some (dirB lv ⟨blk.toArray⟩)
  own : w.ownsRow (E + 1) 54 3 lv ls.length (flatL ls wvs)
  len : wvs.length = ls.length
  words : ∀ i, i < ls.length → OwnW w 0 (wvs.getD i undef) (ls.getD i ([], [], 0)).2.1
theorem ownW_heap {w W : World} {B : Nat} {v : Value} {P : List (List UInt8)} (h : OwnW w B v P) (hb : ∀ (g : Nat) (cur : Array Value), w.heap[g]? = some (Obj.cells cur 9 (0, 0)) → W.heap[g]? = w.heap[g]?) : OwnW W B v P := by
  obtain ⟨hl, h2⟩ := h
  refine ⟨hl, ?_⟩
  rcases h2 with h2 | ⟨g, cap, cur, rfl, hB, hg, hr⟩
  · exact .inl h2
  · exact .inr ⟨g, cap, cur, rfl, hB, (hb g cur hg).trans hg, hr⟩
theorem own_blocks {w W : World} {B : Nat} {e : TypeId} {z : Nat} {v : Value} {n : Nat} {xs : List Value} (h : w.ownsRow B e z v n xs) (hb : ∀ g : Nat, B ≤ g → g < w.heap.size → W.heap[g]? = w.heap[g]?) : W.ownsRow B e z v n xs := by
  obtain ⟨hl, h2⟩ := h
  refine ⟨hl, ?_⟩
  rcases h2 with h2 | ⟨g, cap, cur, rfl, hB, hg, hr⟩
  · exact .inl h2
  · exact .inr ⟨g, cap, cur, rfl, hB, (hb g hB (Array.getElem?_eq_some_iff.1 hg).1).trans hg, hr⟩
theorem lt_of_some {w : World} {g : Nat} {o : Obj} (h : w.heap[g]? = some o) : g < w.heap.size := (Array.getElem?_eq_some_iff.1 h).1
theorem DirX.below {w w' : World} {E B : Nat} {ls : List Ln} {blk : List UInt8} {lv : Value} {wvs : List Value} (h : DirX w E ls blk lv wvs) (hb : Below B w w') (hB : w.heap.size ≤ B) : DirX w' E ls blk lv wvs :=
  ⟨(hb.block E (by have := lt_of_some h.box; omega)).trans h.box, own_blocks h.own fun g _ hg => hb.block g (by omega), h.len, fun i hi => ownW_heap (h.words i hi) fun g _ hg => hb.block g (by have := lt_of_some hg; omega)⟩
theorem DirX.heap {w w' : World} {E : Nat} {ls : List Ln} {blk : List UInt8} {lv : Value} {wvs : List Value} (h : DirX w E ls blk lv wvs) (hb : w'.heap = w.heap) : DirX w' E ls blk lv wvs :=
  ⟨by rw [hb]; exact h.box, own_blocks h.own fun g _ _ => by rw [hb], h.len, fun i hi => ownW_heap (h.words i hi) fun g _ _ => by rw [hb]⟩
theorem DirX.but {w w' : World} {b E p : Nat} {s : ByteArray} {ls : List Ln} {blk : List UInt8} {lv : Value} {wvs : List Value} (h : DirX w E ls blk lv wvs) (hB : RBox w b s p) (hb : But b w.heap.size w w') (hE : b < E) : DirX w' E ls blk lv wvs :=
  ⟨(hb.block E (lt_of_some h.box) (by omega)).trans h.box, own_blocks h.own fun g h1 h2 => hb.block g h2 (by omega), h.len, fun i hi => ownW_heap (h.words i hi) fun g _ hg => hb.block g (lt_of_some hg) (by rintro rfl; unfold RBox at hB; rw [hB] at hg; simp at hg)⟩
theorem DirX.blk {w : World} {E : Nat} {ls : List Ln} {blk : List UInt8} {lv : Value} {wvs : List Value} (h : DirX w E ls blk lv wvs) (x : List UInt8) : DirX (w.setCell ⟨E, 1, none⟩ (strV x)) E ls x lv wvs := by
  refine ⟨?_, own_blocks h.own fun g h1 _ => Below.heap_setCell w _ _ g (by simp; omega), h.len, fun i hi => ownW_heap (h.words i hi) fun g cur hg => Below.heap_setCell w _ _ g ?_⟩
  · rw [heap_setCell_same _ _ _ _ 84 _ h.box]; rfl
  · simp only [ne_eq]
    rintro rfl
    rw [h.box] at hg
    simp [dirB] at hg
/-- behind an append: the box as it was, and with the directives that grew -/
theorem DirX.push {w w5 : World} {E : Nat} {ls : List Ln} {blk : List UInt8} {lv lv' : Value} {wvs : List Value} (h : DirX w E ls blk lv wvs) {l : Ln} {wv : Value} (hw : OwnW w 0 wv l.2.1)
    (h3 : w5.ownsRow (E + 1) 54 3 lv' (ls.length + 1) (flatL ls wvs ++ [strV l.1, wv, .int .i64 (l.2.2 : Int)])) (h4 : w.grownBy w5 lv.ownBlock) :
    w5.heap[E]? = some (dirB lv ⟨blk.toArray⟩) ∧ DirX (w5.setCell ⟨E, 0, none⟩ lv') E (ls ++ [l]) blk lv' (wvs ++ [wv]) ∧ Below E w (w5.setCell ⟨E, 0, none⟩ lv') := by
  have hb : ∀ g : Nat, g < w.heap.size → (∀ k, lv.ownBlock = some k → g ≠ k) → w5.heap[g]? = w.heap[g]? := fun g h1 h2 => h4.block g h1 (by intro e; exact h2 g e.symm rfl)
  have hE : w5.heap[E]? = w.heap[E]? := hb E (lt_of_some h.box) (fun k hk => by have := (World.ownsRow.lt h.own k hk).1; omega)
  have hW : ∀ (g : Nat) (cur : Array Value), w.heap[g]? = some (Obj.cells cur 9 (0, 0)) → (w5.setCell ⟨E, 0, none⟩ lv').heap[g]? = w.heap[g]? := by
    intro g cur hg
    rw [Below.heap_setCell w5 _ _ g (by
      simp only [ne_eq]
      rintro rfl
      rw [h.box] at hg
      simp [dirB] at hg)]
    refine hb g (lt_of_some hg) (fun k hk => ?_)
    rintro rfl
    rcases h.own.2 with ⟨h1, _⟩ | ⟨g', cap, cur', h1, hB, hg', _⟩
    · rw [h1] at hk; simp [Value.ownBlock] at hk
    · rw [h1] at hk
      simp [Value.ownBlock] at hk
      subst hk
      rw [hg'] at hg
      simp at hg
  refine ⟨hE.trans h.box, ⟨?_, ?_, by simp [h.len], ?_⟩, ?_⟩
  · rw [heap_setCell_same _ _ _ _ 84 _ (hE.trans h.box)]; rfl
  · rw [List.length_append, List.length_singleton, flatL_app _ _ _ _ h.len]
    exact own_blocks h3 fun g h1 _ => Below.heap_setCell w5 _ _ g (by simp; omega)
  · intro i hi
    by_cases h1 : i < ls.length
    · have e1 : (wvs ++ [wv]).getD i undef = wvs.getD i undef := by simp [List.getD_eq_getElem?_getD, List.getElem?_append, h.len, h1]
      have e2 : (ls ++ [l]).getD i ([], [], 0) = ls.getD i ([], [], 0) := by simp [List.getD_eq_getElem?_getD, List.getElem?_append, h1]
      rw [e1, e2]
      exact ownW_heap (h.words i h1) hW
    · have e0 : i = ls.length := by simp at hi; omega
      have e1 : (wvs ++ [wv]).getD i undef = wv := by simp [List.getD_eq_getElem?_getD, h.len, e0]
      have e2 : (ls ++ [l]).getD i ([], [], 0) = l := by simp [List.getD_eq_getElem?_getD, e0]
      rw [e1, e2]
      exact ownW_heap hw hW
  · refine ⟨h4.os, h4.tape, h4.output, by have := h4.size; simp [World.setCell]; exact this, fun g hg => ?_⟩
    rw [Below.heap_setCell w5 _ _ g (by simp; omega)]
    exact hb g (by have := lt_of_some h.box; omega) (fun k hk => by have := (World.ownsRow.lt h.own k hk).1; omega)
def Dir (w : World) (E : Nat) (ls : List Ln) (blk : List UInt8) : Prop := ∃ lv wvs, DirX w E ls blk lv wvs
/-- lines' boxes stand -/
def Keep49 (w V : World) : Prop := ∀ (g : Nat) (c : Array Value), w.heap[g]? = some (Obj.cells c 87 (0, 0)) → V.heap[g]? = some (Obj.cells c 87 (0, 0))
theorem Keep49.trans {u v w : World} (h : Keep49 u v) (k : Keep49 v w) : Keep49 u w := fun g c hg => k g c (h g c hg)
theorem Keep49.below {v w : World} {B : Nat} (hb : Below B v w) (hB : v.heap.size ≤ B) : Keep49 v w := fun g _ hg => (hb.block g (by have := lt_of_some hg; omega)).trans hg
theorem Keep49.heap {v w : World} (hb : w.heap = v.heap) : Keep49 v w := fun g _ hg => by rw [hb]; exact hg
theorem Keep49.set {w : World} {E : Nat} {lv : Value} {B : ByteArray} (h : w.heap[E]? = some (dirB lv B)) (o : Nat) (x : Value) : Keep49 w (w.setCell ⟨E, o, none⟩ x) := fun g c hg => by
  rw [Below.heap_setCell w _ _ g (by
    simp only [ne_eq]
    rintro rfl
    rw [h] at hg
    simp [dirB] at hg)]
  exact hg
theorem Keep49.grow {w W : World} {E : Nat} {ls : List Ln} {blk : List UInt8} {lv : Value} {wvs : List Value} (hg : w.grownBy W lv.ownBlock) (hD : DirX w E ls blk lv wvs) : Keep49 w W := fun k c hk => by
  rw [hg.block k (lt_of_some hk) (fun e => by
    rcases hD.own.2 with ⟨h1, _⟩ | ⟨g', cap, cur', h1, hB, hg', _⟩
    · rw [h1] at e; simp [Value.ownBlock] at e
    · rw [h1] at e
      simp [Value.ownBlock] at e
      subst e
      rw [hg'] at hk
      simp at hk)]
  exact hk
def TakePost (E : Nat) (ls : List Ln) (blk : List UInt8) (ws : List (List UInt8)) (k a : Nat) (w : World) (e : Ending) (w' : World) : Prop :=
  match takeD blk ws k a with
  | none => e = .returned (.bool false) ∧ Below E w w'
  | some (blk', x) => e = .returned (.bool true) ∧ Dir w' E (ls ++ x) blk' ∧ Below E w w' ∧ Keep49 w w'
theorem info37x : (Tryz.prog.info? 54).map (fun i => (i.zero, i.size, i.bytes)) = some (some (.agg #[.string .empty, .slice none 0 0, .int .i64 0]), 3, 48) := by kernel_rfl
theorem zero37 (w : World) : (zeroValue 54).run Tryz.prog w = .ok (.agg #[.string ⟨#[]⟩, .slice none 0 0, .int .i64 0]) w := by kernel_rfl
theorem cellL_new (w : World) (a b c : Value) : ∀ j u, [a, b, c][j]? = some u → (w.alloc (.cells #[a, b, c] 54)).cell? ((⟨w.heap.size, 0, none⟩ : Addr).add j) = some u := by
  intro j u hj
  match j, hj with
  | 0, hj => simp at hj; subst hj; simp [Addr.add]
  | 1, hj => simp at hj; subst hj; simp [Addr.add]
  | 2, hj => simp at hj; subst hj; simp [Addr.add]
theorem oneL (x : ByteArray) (n : Option Addr) (l c : Nat) (a : Int) : ∀ u ∈ ([.string x, .slice n l c, .int .i64 a] : List Value), u.oneCell' = true := by
  intro u hu
  simp at hu
  rcases hu with rfl | rfl | rfl <;> rfl
theorem isSlice_of {w : World} {B : Nat} {e : TypeId} {z n : Nat} {v : Value} {xs : List Value} (h : w.ownsRow B e z v n xs) : ∃ a c, v = .slice a n c := by
  rcases h.2 with ⟨rfl, hn⟩ | ⟨g, cap, cur, rfl, _⟩
  · exact ⟨none, 0, by rw [hn]⟩
  · exact ⟨_,_, rfl⟩
theorem DirX.allocD {V V1 : World} {E : Nat} {ls : List Ln} {blk : List UInt8} {lv : Value} {wvs : List Value} (h : DirX V1 E ls blk lv wvs) (hh : V.heap = V1.heap) (o : Obj) : DirX (V.alloc o).drew E ls blk lv wvs :=
  ((h.heap (w' := V) hh).below ((Below.refl _ V).alloc (Nat.le_refl _) o) (Nat.le_refl _)).heap rfl
theorem ownW_allocD {V V1 : World} {v : Value} {P : List (List UInt8)} (h : OwnW V1 0 v P) (hh : V.heap = V1.heap) (o : Obj) : OwnW (V.alloc o).drew 0 v P := by
  have h1 : OwnW V 0 v P := ownW_heap h fun g _ _ => by rw [hh]
  have h2 : OwnW (V.alloc o) 0 v P := ownW_below h1 ((Below.refl _ V).alloc (Nat.le_refl _) o) (Nat.le_refl _)
  exact ownW_heap h2 fun g _ _ => rfl
/-- within a line's adding: the line's box stands, and nothing below the directives' has turned -/
structure TS (w : World) (E R : Nat) (c : Array Value) (V : World) : Prop where
  below : Below E w V
  lt : E < R
  row : V.heap[R]? = some (.cells c 87 (0, 0))
  keep : Keep49 w V
theorem TS.room {w V : World} {E R : Nat} {c : Array Value} (h : TS w E R c V) : E + 1 ≤ V.heap.size := by have := lt_of_some h.row; have := h.lt; omega
section
variable {w W V : World} {E R : Nat} {B : ByteArray} {wv : Value} {c : Array Value}
theorem S8_alloc (h : V.cell? ⟨E, 1, none⟩ = some (.string B) ∧ V.cell? ⟨R, 0, none⟩ = some wv ∧ Hid (TS w E R c V)) (o : Obj) :
    (V.alloc o).cell? ⟨E, 1, none⟩ = some (.string B) ∧ (V.alloc o).cell? ⟨R, 0, none⟩ = some wv ∧ Hid (TS w E R c (V.alloc o)) := by
  obtain ⟨h1, h2, h3⟩ := h
  have h4 := h3.out
  exact ⟨by rw [World.cell?_alloc_some _ _ _ (by rw [h1]; rfl)]; exact h1, by rw [World.cell?_alloc_some _ _ _ (by rw [h2]; rfl)]; exact h2, h4.below.alloc (by have := h4.room; omega) o, h4.lt, (heap_alloc_old V o (lt_of_some h4.row)).trans h4.row, h4.keep.trans (Keep49.below ((Below.refl _ V).alloc (Nat.le_refl _) o) (Nat.le_refl _))⟩
theorem S8_grow {ls : List Ln} {blk : List UInt8} {lv : Value} {wvs : List Value} (h : V.cell? ⟨E, 1, none⟩ = some (.string B) ∧ V.cell? ⟨R, 0, none⟩ = some wv ∧ Hid (TS w E R c V)) (hg : V.grownBy W lv.ownBlock) (hD : DirX V E ls blk lv wvs) :
    W.cell? ⟨E, 1, none⟩ = some (.string B) ∧ W.cell? ⟨R, 0, none⟩ = some wv ∧ Hid (TS w E R c W) := by
  obtain ⟨h1, h2, h3⟩ := h
  obtain ⟨h4, h6, h7, h8⟩ := h3.out
  have h5 := lt_of_some h7
  have hE : W.heap[E]? = V.heap[E]? := hg.block E (by omega) (fun e => by have := (World.ownsRow.lt hD.own E e.symm).1; omega)
  have hR : W.heap[R]? = V.heap[R]? := hg.block R h5 (fun e => by
    rcases hD.own.2 with ⟨h1, _⟩ | ⟨g', cap, cur', h1, hB, hg', _⟩
    · rw [h1] at e; simp [Value.ownBlock] at e
    · rw [h1] at e
      simp [Value.ownBlock] at e
      subst e
      rw [hg'] at h7
      simp at h7)
  exact ⟨(World.cell?_of_block (w := V) (a := ⟨E, 1, none⟩) hE).trans h1, (World.cell?_of_block (w := V) (a := ⟨R, 0, none⟩) hR).trans h2, h4.grown hg (by omega) (fun k hk => by have := (World.ownsRow.lt hD.own k hk).1; omega), h6, hR.trans h7, h8.trans (Keep49.grow hg hD)⟩
theorem S8_set {lv : Value} {D : ByteArray} (hX : V.heap[E]? = some (dirB lv D)) (h : V.cell? ⟨E, 1, none⟩ = some (.string B) ∧ V.cell? ⟨R, 0, none⟩ = some wv ∧ Hid (TS w E R c V)) (x : Value) :
    (V.setCell ⟨E, 0, none⟩ x).cell? ⟨E, 1, none⟩ = some (.string B) ∧ (V.setCell ⟨E, 0, none⟩ x).cell? ⟨R, 0, none⟩ = some wv ∧ Hid (TS w E R c (V.setCell ⟨E, 0, none⟩ x)) := by
  obtain ⟨h1, h2, h3⟩ := h
  obtain ⟨h4, h6, h7, h8⟩ := h3.out
  have hR : (V.setCell ⟨E, 0, none⟩ x).heap[R]? = V.heap[R]? := Below.heap_setCell V _ _ R (by simp; omega)
  have hE1 : (V.setCell ⟨E, 0, none⟩ x).cell? ⟨E, 1, none⟩ = V.cell? ⟨E, 1, none⟩ := World.cell?_setCell_other _ _ _ _ (by simp)
  exact ⟨hE1.trans h1, (World.cell?_of_block (w := V) (a := ⟨R, 0, none⟩) hR).trans h2, h4.trans ⟨rfl, rfl, rfl, by simp [World.setCell], fun g hg => Below.heap_setCell V _ _ g (by simp; omega)⟩, h6, hR.trans h7, h8.trans (Keep49.set hX _ _)⟩
end
theorem clone_none (ad : Addr) (c : Nat) (V : World) : Calls Tryz.prog 86 #[.slice (some ad) 0 c] V fun e w' => ∃ na nc, e = .returned (.slice na 0 nc) ∧ OwnW w' V.heap.size (.slice na 0 nc) [] ∧ Below V.heap.size V w' := by
  refine (Tryz.slices_Clone_string_zero ad c V).mono ?_
  rintro e w' ⟨v', rfl, h1, _, h2⟩
  obtain ⟨na, nc, rfl⟩ := isSlice_of h1
  exact ⟨na, nc, rfl, h1, h2⟩
theorem clone_tail (g c1 : Nat) (x : List UInt8) (r : List (List UInt8)) (cur : Array Value) (V : World) (hg : V.heap[g]? = some (.cells cur 9 (0, 0))) (hcu : ∀ j (hj : j < (x :: r).length), cur[j]? = some (strV (x :: r)[j])) (h6 : r.length ≤ 1000000) :
    Calls Tryz.prog 86 #[.slice (some ⟨g, 1, none⟩) r.length c1] V fun e w' => ∃ na nc, e = .returned (.slice na r.length nc) ∧ OwnW w' V.heap.size (.slice na r.length nc) r ∧ Below V.heap.size V w' := by
  refine (Tryz.slices_Clone_string g 1 r.length c1 (r.map fun y => (⟨y.toArray⟩ : ByteArray)) V (by simp) (by omega) ?_).mono ?_
  · intro j hj
    simp at hj
    rw [cell_of_row V g _ _ 9 (0, 0) hg]
    have h1 := hcu (1 + j) (by simp; omega)
    rw [h1]
    simp only [strV, List.getD_eq_getElem?_getD, List.getElem?_map]
    rw [List.getElem?_eq_getElem hj]
    simp [Nat.add_comm 1 j]
  · rintro e w' ⟨v', rfl, h1, _, h2⟩
    obtain ⟨na, nc, rfl⟩ := isSlice_of h1
    refine ⟨na, nc, rfl, ?_, h2⟩
    have e1 : ((r.map fun y => (⟨y.toArray⟩ : ByteArray)).take r.length).map Value.string = r.map strV := by
      rw [List.take_of_length_le (by simp), List.map_map]
      rfl
    rw [e1] at h1
    exact h1
/-- .. and the line's words stand -/
structure TS2 (w : World) (E R g : Nat) (c cur : Array Value) (V : World) : Prop where
  ts : TS w E R c V
  wrd : V.heap[g]? = some (.cells cur 9 (0, 0))
section
variable {w W V : World} {E R g : Nat} {c cur : Array Value}
theorem TS2.full {wv : Value} {X : ByteArray} (h : TS2 w E R g c cur V) (h1 : c[0]? = some wv) (h2 : cur[0]? = some (.string X)) :
    V.cell? ⟨R, 0, none⟩ = some wv ∧ V.cell? ⟨g, 0, none⟩ = some (.string X) ∧ Hid (TS2 w E R g c cur V) :=
  ⟨by rw [cell_of_row V R _ _ 87 (0, 0) h.ts.row]; exact h1, by rw [cell_of_row V g _ _ 9 (0, 0) h.wrd]; exact h2, h⟩
theorem TS2.below2 {B : Nat} (h : TS2 w E R g c cur V) (hb : Below B V W) (hB : V.heap.size ≤ B) : TS2 w E R g c cur W :=
  ⟨⟨h.ts.below.trans (hb.mono (by have := h.ts.room; omega)), h.ts.lt, (hb.block R (by have := lt_of_some h.ts.row; omega)).trans h.ts.row, h.ts.keep.trans (Keep49.below hb hB)⟩, (hb.block g (by have := lt_of_some h.wrd; omega)).trans h.wrd⟩
theorem TS2.alloc (h : TS2 w E R g c cur V) (o : Obj) : TS2 w E R g c cur (V.alloc o) := h.below2 ((Below.refl _ V).alloc (Nat.le_refl _) o) (Nat.le_refl _)
theorem TS2.grow {ls : List Ln} {blk : List UInt8} {lv : Value} {wvs : List Value} (h : TS2 w E R g c cur V) (hg : V.grownBy W lv.ownBlock) (hD : DirX V E ls blk lv wvs) : TS2 w E R g c cur W := by
  have key : ∀ (k : Nat) (ob : Array Value) (ty : TypeId), ty ≠ 54 → V.heap[k]? = some (Obj.cells ob ty (0, 0)) → W.heap[k]? = V.heap[k]? := by
    intro k ob ty hty hk
    refine hg.block k (lt_of_some hk) (fun e => ?_)
    rcases hD.own.2 with ⟨h1, _⟩ | ⟨g', cap, cur', h1, hB, hg', _⟩
    · rw [h1] at e; simp [Value.ownBlock] at e
    · rw [h1] at e
      simp [Value.ownBlock] at e
      subst e
      rw [hg'] at hk
      simp at hk
      exact hty hk.2.symm
  exact ⟨⟨h.ts.below.grown hg (by have := h.ts.room; omega) (fun k hk => by have := (World.ownsRow.lt hD.own k hk).1; omega), h.ts.lt, (key R _ 87 (by decide) h.ts.row).trans h.ts.row, h.ts.keep.trans (Keep49.grow hg hD)⟩, (key g _ 9 (by decide) h.wrd).trans h.wrd⟩
theorem TS2.set {lv : Value} {D : ByteArray} (hX : V.heap[E]? = some (dirB lv D)) (h : TS2 w E R g c cur V) (hE : g ≠ E) (x : Value) : TS2 w E R g c cur (V.setCell ⟨E, 0, none⟩ x) :=
  ⟨⟨h.ts.below.trans ⟨rfl, rfl, rfl, by simp [World.setCell], fun k hk => Below.heap_setCell V _ _ k (by simp; omega)⟩, h.ts.lt, (Below.heap_setCell V _ _ R (by have := h.ts.lt; simp; omega)).trans h.ts.row, h.ts.keep.trans (Keep49.set hX _ _)⟩, (Below.heap_setCell V _ _ g (by simpa using hE)).trans h.wrd⟩
end
set_option maxHeartbeats 8000000 in
set_option maxRecDepth 100000 in
theorem dtake_any (E : Nat) (ls : List Ln) (blk : List UInt8) (lv : Value) (wvs : List Value) (wv : Value) (ws : List (List UInt8)) (k : Nat) (last : Bool) (a : Nat) (w : World) (hD : DirX w E ls blk lv wvs) (hW : OwnW w 0 wv ws)
    (hk : k = 0 ∨ k = 3 ∨ k = 4) (hn : ls.length ≤ 1000000) (hw6 : ws.length ≤ 1000000) :
    Calls Tryz.prog 57 #[.pointer (some ⟨E, 0, none⟩), .agg #[wv, .int .i64 (k : Int), .bool last], .int .i64 (a : Int)] w fun e w' => TakePost E ls blk ws k a w e w' := by
  obtain ⟨i0, hi, hz0, hz1, hz2⟩ := info_parts info37x
  obtain ⟨wa, wc, hv⟩ := hW.isSlice
  obtain ⟨wl, hwl⟩ : ∃ wl, wl = ws.length := ⟨_, rfl⟩
  rw [← hwl] at hv
  subst hv
  have HWL := hidM hwl
  clear hwl
  have hEl := lt_of_some hD.box
  have HB1 : Hid (Below w.heap.size w (w.alloc (.cells #[.slice wa wl wc, .int .i64 (k : Int), .bool last] 87))) := (Below.refl _ w).alloc (Nat.le_refl _) _
  have HD1 := hidM (hD.below HB1.out (Nat.le_refl _))
  have HW1 := hidM (ownW_below hW HB1.out (Nat.le_refl _))
  have HR1 : Hid ((w.alloc (.cells #[.slice wa wl wc, .int .i64 (k : Int), .bool last] 87)).heap[w.heap.size]? = some (rowB (.slice wa wl wc) k last)) := heap_alloc_new w _
  obtain ⟨r0, r1, r2, _⟩ := row_cells HR1.out
  obtain ⟨d0, d1, df⟩ := dir_cells HD1.out.box
  obtain ⟨B, hB⟩ : ∃ B : ByteArray, B = ⟨blk.toArray⟩ := ⟨_, rfl⟩
  have hBL : B.toList = blk := by rw [hB, Lib.toList_data]
  rw [← hB] at d1
  have HBB := hidM hB
  have HBL := hidM hBL
  have HX1 := hidM HD1.out.box
  rw [← hB] at HX1
  have hz37 := zero37
  clear hD hW hB hBL df
  generalize hW1 : w.alloc (.cells #[.slice wa wl wc, .int .i64 (k : Int), .bool last] 87) = W1 at *
  obtain ⟨kI, hkI⟩ : ∃ kI : Int, kI = (k : Int) := ⟨_, rfl⟩
  rw [← hkI] at r1 hW1 ⊢
  have HKI := hidM hkI
  have HE1 := hidM hW1
  have HBE : Hid (Below E w W1) := HB1.out.mono (by omega)
  have HKP : Hid (Keep49 w W1) := Keep49.below HB1.out (Nat.le_refl _)
  clear hW1 hkI
  rcases hk with rfl | rfl | rfl
  · cases ws with
    | nil =>
      have HP : Hid (∀ e V, e = .returned (.bool true) → V = W1 → TakePost E ls blk [] 0 a w e V) := by
        rintro e V rfl rfl
        exact ⟨rfl, ⟨lv, wvs, by simpa using HD1.out⟩, HBE.out, HKP.out⟩
      obtain rfl : wl = 0 := HWL.out
      obtain rfl : kI = 0 := HKI.out
      go_enter Tryz.func57, Tryz.ntmps57
      go_upto_block 0 with fail
      rw [HE1.out]
      go_wp2
      go_ret
      exact HP.out _ _ rfl rfl
    | cons x r =>
      have hwz : ((wl : Int) == 0) = false := by rw [HWL.out]; simp; omega
      have HM1 : Hid (ls.length + 1 ≤ maxLen) := by unfold Hid maxLen; omega
      have HM2 : Hid ((ls.length + 1) * 48 ≤ 140737488355328) := by unfold Hid; omega
      obtain ⟨rc, hrc⟩ : ∃ rc : Array Value, rc = #[.slice wa wl wc, .int .i64 ((0 : Nat) : Int), .bool last] := ⟨_, rfl⟩
      have HRD := hidM hrc
      have HS1 : Hid (TS w E w.heap.size rc W1.drew) := ⟨⟨HBE.out.os, HBE.out.tape, HBE.out.output, HBE.out.size, HBE.out.block⟩, hEl, by rw [hrc]; exact HR1.out, HKP.out⟩
      have HD1 := hidM (HD1.out.heap (w' := W1.drew) rfl)
      have HW1 : Hid (OwnW W1.drew 0 (.slice wa wl wc) (x :: r)) := ownW_heap HW1.out fun _ _ _ => rfl
      clear hrc
      by_cases hb0 : blk = []
      · have h3 : B.toList.isEmpty = true := by rw [HBL.out, hb0]; rfl
        have hW2 := HW1.out.2
        rcases hW2 with ⟨_, h0⟩ | ⟨g, cap, cur, hsl, _, hg, hnc, hcm, hcs, htk⟩
        · simp at h0
        · simp only [Value.slice.injEq] at hsl
          obtain ⟨h1, -, h3⟩ := hsl
          subst h1
          subst h3
          have hcu : ∀ j (hj : j < (x :: r).length), cur[j]? = some (strV (x :: r)[j]) := by
            intro j hj
            have h1 : (cur.toList.take ((x :: r).length * 1))[j]? = some (strV (x :: r)[j]) := by rw [htk]; simp only [List.getElem?_map, List.getElem?_eq_getElem hj, Option.map_some]
            rw [List.getElem?_take] at h1
            split at h1
            · rw [Array.getElem?_toList] at h1; exact h1
            · cases h1
          obtain ⟨X, hX⟩ : ∃ X : ByteArray, X = ⟨x.toArray⟩ := ⟨_, rfl⟩
          have HXX := hidM hX
          have HCU : Hid (cur[0]? = some (.string X)) := by unfold Hid; rw [hX]; exact hcu 0 (by simp)
          have HRC : Hid (rc[0]? = some (.slice (some ⟨g, 0, none⟩) wl wc)) := by unfold Hid; rw [HRD.out]; rfl
          have hgE : g ≠ E := by
            rintro rfl
            have := HD1.out.box
            rw [hg] at this
            simp [dirB] at this
          have hgE2 := hgE.symm
          have c0 : W1.cell? ⟨g, 0, none⟩ = some (.string X) := by rw [cell_of_row W1 g _ _ 9 (0, 0) hg]; exact HCU.out
          have HCUR := hidM hcu
          have hXL : X.toList.isEmpty = x.isEmpty := by rw [hX, Lib.toList_data]
          have HS2 : Hid (TS2 w E w.heap.size g rc cur W1.drew) := ⟨HS1.out, hg⟩
          have HWR : Hid (wl = r.length + 1) := HWL.out
          have hnc2 : wl ≤ wc := by rw [HWR.out]; exact hnc
          have hwp : 1 ≤ wl := by rw [HWR.out]; omega
          clear hcu hcs htk hX hnc
          by_cases hx0 : x = []
          · subst hx0
            have hXE : X.toList.isEmpty = true := hXL
            have HP : Hid (∀ e V, e = .returned (.bool false) → V = W1 → TakePost E ls blk ([] :: r) 0 a w e V) := by
              rintro e V rfl rfl
              unfold TakePost takeD
              simp [hb0]
              exact HBE.out
            clear hXL hb0
            obtain rfl : kI = 0 := HKI.out
            go_enter Tryz.func57, Tryz.ntmps57
            go_upto_block 0 with fail
            rw [HE1.out]

            go_wp2
            go_ret
            exact HP.out _ _ rfl rfl
          · have hXE : X.toList.isEmpty = false := by
              rw [hXL]
              cases x with
              | nil => exact absurd rfl hx0
              | cons _ _ => rfl
            have HFIN : Hid (∀ V lv' wvs', DirX V E (ls ++ [(x, r, a)]) blk lv' wvs' → Below E w V → Keep49 w V → ∀ e, e = .returned (.bool true) → TakePost E ls blk (x :: r) 0 a w e V) := by
              rintro V lv' wvs' h1 h2 h5 e rfl
              unfold TakePost takeD
              simp [hb0, hx0]
              rw [hb0] at h1
              exact ⟨⟨lv', wvs', h1⟩, h2, h5⟩
            clear hXL hb0 hx0
            by_cases hw1 : wc = 1
            · subst hw1
              obtain rfl : wl = 1 := by omega
              obtain rfl : r = [] := List.eq_nil_of_length_eq_zero (by have := HWR.out; omega)
              have HCLN : Hid (∀ V, Hid (TS2 w E w.heap.size g rc cur V) → Calls Tryz.prog 86 #[.slice (some ⟨g, 0, none⟩) 0 0] V fun e w' => ∃ na nc, e = .returned (.slice na ([] : List (List UInt8)).length nc) ∧ OwnW w' V.heap.size (.slice na ([] : List (List UInt8)).length nc) [] ∧ Below V.heap.size V w') := fun V _ => clone_none _ _ V
              simp only [List.length_nil] at HCLN
              obtain rfl : kI = 0 := HKI.out
              go_enter Tryz.func57, Tryz.ntmps57
              go_upto_block 0 with fail
              rw [HE1.out]

              go_upto_region 12 with fail
              refine wp_region_noPanic ?_
              refine wp_region_held_drew (S := (fun w' => w'.cell? ⟨w.heap.size, 0, none⟩ = some (.slice (some ⟨g, 0, none⟩) 1 1) ∧ w'.cell? ⟨g, 0, none⟩ = some (.string X) ∧ Hid (TS2 w E w.heap.size g rc cur w'))) (by kernel_rfl) ?_ (fun hHeld => ?_)
              · exact HS2.out.full HRC.out HCU.out
              refine wpAnyH_take (i := 0) (v := ?_) rfl (by kernel_rfl) (by kernel_rfl) (by kernel_rfl) (fun _ _ _ h => h) (Or.inl ⟨by kernel_rfl, ?_⟩) (by assumption) ?_
              rotate_left
              · intro w hSw
                clear hSw
                go_simp
                try with_reducible rfl
              change wpAnyH _ _ _ _ _ _ _ (⟨#[_,_,_,_,_,_,_,_,_,_,_,_,_,_,_,_,_,_,_,_,_,_,_,_,_,_,_,_,_,_,_,_,_,_,_,_,_,_,_,_,_,_,_,_,_,_,_,_,_,_,_,_,_,_,_,_,_,_,_,_,_,_,_,_,_,_,_,_,_,_,_,_,_,_,_,_], _⟩ : Act) _
              refine wpAnyH_take (i := 1) (v := ?_) rfl (by kernel_rfl) (by kernel_rfl) (by kernel_rfl) (fun _ _ _ h => h) (Or.inl ⟨by kernel_rfl, ?_⟩) (by assumption) ?_
              rotate_left
              · intro w hSw
                clear hSw
                go_simp
                try with_reducible rfl
              change wpAnyH _ _ _ _ _ _ _ (⟨#[_,_,_,_,_,_,_,_,_,_,_,_,_,_,_,_,_,_,_,_,_,_,_,_,_,_,_,_,_,_,_,_,_,_,_,_,_,_,_,_,_,_,_,_,_,_,_,_,_,_,_,_,_,_,_,_,_,_,_,_,_,_,_,_,_,_,_,_,_,_,_,_,_,_,_,_], _⟩ : Act) _
              refine wpAnyH_take (i := 2) (v := ?_) rfl (by kernel_rfl) (by kernel_rfl) (by kernel_rfl) (fun _ _ _ h => h) (Or.inl ⟨by kernel_rfl, ?_⟩) (by assumption) ?_
              rotate_left
              · intro w hSw
                clear hSw
                go_simp
                try with_reducible rfl
              change wpAnyH _ _ _ _ _ _ _ (⟨#[_,_,_,_,_,_,_,_,_,_,_,_,_,_,_,_,_,_,_,_,_,_,_,_,_,_,_,_,_,_,_,_,_,_,_,_,_,_,_,_,_,_,_,_,_,_,_,_,_,_,_,_,_,_,_,_,_,_,_,_,_,_,_,_,_,_,_,_,_,_,_,_,_,_,_,_], _⟩ : Act) _
              refine wpAnyH_take (i := 3) (v := ?_) rfl (by kernel_rfl) (by kernel_rfl) (by kernel_rfl) (fun _ _ _ h => h) (Or.inl ⟨by kernel_rfl, ?_⟩) (by assumption) ?_
              rotate_left
              · intro w hSw
                clear hSw
                go_simp
                try with_reducible rfl
              change wpAnyH _ _ _ _ _ _ _ (⟨#[_,_,_,_,_,_,_,_,_,_,_,_,_,_,_,_,_,_,_,_,_,_,_,_,_,_,_,_,_,_,_,_,_,_,_,_,_,_,_,_,_,_,_,_,_,_,_,_,_,_,_,_,_,_,_,_,_,_,_,_,_,_,_,_,_,_,_,_,_,_,_,_,_,_,_,_], _⟩ : Act) _
              refine wpAnyH_take (i := 5) (v := ?_) rfl (by kernel_rfl) (by kernel_rfl) (by kernel_rfl) (fun _ _ _ h => h) (Or.inl ⟨by kernel_rfl, ?_⟩) (by assumption) ?_
              rotate_left
              · intro w hSw
                clear hSw
                go_simp
                try with_reducible rfl
              change wpAnyH _ _ _ _ _ _ _ (⟨#[_,_,_,_,_,_,_,_,_,_,_,_,_,_,_,_,_,_,_,_,_,_,_,_,_,_,_,_,_,_,_,_,_,_,_,_,_,_,_,_,_,_,_,_,_,_,_,_,_,_,_,_,_,_,_,_,_,_,_,_,_,_,_,_,_,_,_,_,_,_,_,_,_,_,_,_], _⟩ : Act) _
              refine wpAnyH_take (i := 6) (v := ?_) rfl (by kernel_rfl) (by kernel_rfl) (by kernel_rfl) (fun _ _ _ h => h) (Or.inl ⟨by kernel_rfl, ?_⟩) (by assumption) ?_
              rotate_left
              · intro w hSw
                obtain ⟨c2, c3, _⟩ := hSw
                go_simp
                try with_reducible rfl
              change wpAnyH _ _ _ _ _ _ _ (⟨#[_,_,_,_,_,_,_,_,_,_,_,_,_,_,_,_,_,_,_,_,_,_,_,_,_,_,_,_,_,_,_,_,_,_,_,_,_,_,_,_,_,_,_,_,_,_,_,_,_,_,_,_,_,_,_,_,_,_,_,_,_,_,_,_,_,_,_,_,_,_,_,_,_,_,_,_], _⟩ : Act) _
              refine wpAnyH_take (i := 7) (v := ?_) rfl (by kernel_rfl) (by kernel_rfl) (by kernel_rfl) (fun _ _ _ h => h) (Or.inl ⟨by kernel_rfl, ?_⟩) (by assumption) ?_
              rotate_left
              · intro w hSw
                clear hSw
                go_simp
                try with_reducible rfl
              change wpAnyH _ _ _ _ _ _ _ (⟨#[_,_,_,_,_,_,_,_,_,_,_,_,_,_,_,_,_,_,_,_,_,_,_,_,_,_,_,_,_,_,_,_,_,_,_,_,_,_,_,_,_,_,_,_,_,_,_,_,_,_,_,_,_,_,_,_,_,_,_,_,_,_,_,_,_,_,_,_,_,_,_,_,_,_,_,_], _⟩ : Act) _
              refine wpAnyH_take (i := 8) (v := ?_) rfl (by kernel_rfl) (by kernel_rfl) (by kernel_rfl) (fun _ _ _ h => h) (Or.inl ⟨by kernel_rfl, ?_⟩) (by assumption) ?_
              rotate_left
              · intro w hSw
                obtain ⟨c2, c3, _⟩ := hSw
                go_simp
                try with_reducible rfl
              change wpAnyH _ _ _ _ _ _ _ (⟨#[_,_,_,_,_,_,_,_,_,_,_,_,_,_,_,_,_,_,_,_,_,_,_,_,_,_,_,_,_,_,_,_,_,_,_,_,_,_,_,_,_,_,_,_,_,_,_,_,_,_,_,_,_,_,_,_,_,_,_,_,_,_,_,_,_,_,_,_,_,_,_,_,_,_,_,_], _⟩ : Act) _
              refine wpAnyH_take (i := 9) (v := ?_) rfl (by kernel_rfl) (by kernel_rfl) (by kernel_rfl) (fun _ _ _ h => h) (Or.inl ⟨by kernel_rfl, ?_⟩) (by assumption) ?_
              rotate_left
              · intro w hSw
                clear hSw
                go_simp
                try with_reducible rfl
              change wpAnyH _ _ _ _ _ _ _ (⟨#[_,_,_,_,_,_,_,_,_,_,_,_,_,_,_,_,_,_,_,_,_,_,_,_,_,_,_,_,_,_,_,_,_,_,_,_,_,_,_,_,_,_,_,_,_,_,_,_,_,_,_,_,_,_,_,_,_,_,_,_,_,_,_,_,_,_,_,_,_,_,_,_,_,_,_,_], _⟩ : Act) _
              refine wpAnyH_take (i := 10) (v := ?_) rfl (by kernel_rfl) (by kernel_rfl) (by kernel_rfl) (fun _ _ _ h => h) (Or.inl ⟨by kernel_rfl, ?_⟩) (by assumption) ?_
              rotate_left
              · intro w hSw
                obtain ⟨c2, c3, _⟩ := hSw
                go_simp
                try with_reducible rfl
              change wpAnyH _ _ _ _ _ _ _ (⟨#[_,_,_,_,_,_,_,_,_,_,_,_,_,_,_,_,_,_,_,_,_,_,_,_,_,_,_,_,_,_,_,_,_,_,_,_,_,_,_,_,_,_,_,_,_,_,_,_,_,_,_,_,_,_,_,_,_,_,_,_,_,_,_,_,_,_,_,_,_,_,_,_,_,_,_,_], _⟩ : Act) _
              refine wpAnyH_take (i := 11) (v := ?_) rfl (by kernel_rfl) (by kernel_rfl) (by kernel_rfl) (fun _ _ _ h => h) (Or.inl ⟨by kernel_rfl, ?_⟩) (by assumption) ?_
              rotate_left
              · intro w hSw
                clear hSw
                go_simp
                try with_reducible rfl
              change wpAnyH _ _ _ _ _ _ _ (⟨#[_,_,_,_,_,_,_,_,_,_,_,_,_,_,_,_,_,_,_,_,_,_,_,_,_,_,_,_,_,_,_,_,_,_,_,_,_,_,_,_,_,_,_,_,_,_,_,_,_,_,_,_,_,_,_,_,_,_,_,_,_,_,_,_,_,_,_,_,_,_,_,_,_,_,_,_], _⟩ : Act) _
              refine wpAnyH_take (i := 13) (v := ?_) rfl (by kernel_rfl) (by kernel_rfl) (by kernel_rfl) (fun _ _ _ h => h) (Or.inl ⟨by kernel_rfl, ?_⟩) (by assumption) ?_
              rotate_left
              · intro w hSw
                clear hSw
                go_simp
                try with_reducible rfl
              change wpAnyH _ _ _ _ _ _ _ (⟨#[_,_,_,_,_,_,_,_,_,_,_,_,_,_,_,_,_,_,_,_,_,_,_,_,_,_,_,_,_,_,_,_,_,_,_,_,_,_,_,_,_,_,_,_,_,_,_,_,_,_,_,_,_,_,_,_,_,_,_,_,_,_,_,_,_,_,_,_,_,_,_,_,_,_,_,_], _⟩ : Act) _
              refine wpAnyH_ready (rs := [4, 12]) (by kernel_rfl) (by simp) ?_
              refine AllReadyH.cons rfl (fun K hK => ?_) (AllReadyH.cons rfl (fun K hK => ?_) (AllReadyH.nil))
              · have e0 := (dir_cells HD1.out.box).1
                go_simp
                refine hK.out _ _ hHeld (fun hHeld => ?_)
                clear hK K e0
                change wpAnyH _ _ _ _ _ _ _ (⟨#[_,_,_,_,_,_,_,_,_,_,_,_,_,_,_,_,_,_,_,_,_,_,_,_,_,_,_,_,_,_,_,_,_,_,_,_,_,_,_,_,_,_,_,_,_,_,_,_,_,_,_,_,_,_,_,_,_,_,_,_,_,_,_,_,_,_,_,_,_,_,_,_,_,_,_,_], _⟩ : Act) _
                refine wpAnyH_ready (rs := [12]) (by kernel_rfl) (by simp) ?_
                refine AllReadyH.cons rfl (fun K hK => ?_) AllReadyH.nil
                go_simp
                with_reducible refine (HCLN.out _ hHeld.2.2).mono ?_
                rintro _ w9 ⟨na9, nc9, rfl, hown9, hb9⟩
                have HD9 : Hid (DirX w9 E ls blk lv wvs) := DirX.below (w := W1.drew) ((HD1.out).heap rfl) hb9 (Nat.le_refl _)
                have HW9 : Hid (OwnW w9 0 (.slice na9 0 nc9) []) := ownW_mono hown9 (Nat.zero_le _)
                refine hK.out _ _ ((hHeld.2.2.out.below2 hb9 (Nat.le_refl _)).full HRC.out HCU.out) (fun hHeld => ?_)
                clear hK K hown9 hb9
                change wpAnyH _ _ _ _ _ _ _ (⟨#[_,_,_,_,_,_,_,_,_,_,_,_,_,_,_,_,_,_,_,_,_,_,_,_,_,_,_,_,_,_,_,_,_,_,_,_,_,_,_,_,_,_,_,_,_,_,_,_,_,_,_,_,_,_,_,_,_,_,_,_,_,_,_,_,_,_,_,_,_,_,_,_,_,_,_,_], _⟩ : Act) _
                refine wpAnyH_take (i := 14) (v := ?_) rfl (by kernel_rfl) (by kernel_rfl) (by kernel_rfl) (fun _ _ _ h => h) (Or.inl ⟨by kernel_rfl, ?_⟩) (by assumption) ?_
                rotate_left
                · intro w hSw
                  clear hSw
                  go_simp
                  try with_reducible rfl
                change wpAnyH _ _ _ _ _ _ _ (⟨#[_,_,_,_,_,_,_,_,_,_,_,_,_,_,_,_,_,_,_,_,_,_,_,_,_,_,_,_,_,_,_,_,_,_,_,_,_,_,_,_,_,_,_,_,_,_,_,_,_,_,_,_,_,_,_,_,_,_,_,_,_,_,_,_,_,_,_,_,_,_,_,_,_,_,_,_], _⟩ : Act) _
                refine wpAnyH_ready (rs := [15]) (by kernel_rfl) (by simp) ?_
                refine AllReadyH.cons rfl (fun K hK => ?_) AllReadyH.nil
                go_simp
                have HDb : Hid (DirX (w9.alloc (.cells #[.string X, .slice na9 0 nc9, .int .i64 (a : Int)] 54)) E ls blk lv wvs) := DirX.below HD9.out ((Below.refl _ w9).alloc (Nat.le_refl _) _) (Nat.le_refl _)
                have HWb : Hid (OwnW (w9.alloc (.cells #[.string X, .slice na9 0 nc9, .int .i64 (a : Int)] 54)) 0 (.slice na9 0 nc9) []) := ownW_below HW9.out ((Below.refl _ w9).alloc (Nat.le_refl _) _) (Nat.le_refl _)
                refine hK.out _ _ ((hHeld.2.2.out.alloc _).full HRC.out HCU.out) (fun hHeld => ?_)
                clear hK K
                change wpAnyH _ _ _ _ _ _ _ (⟨#[_,_,_,_,_,_,_,_,_,_,_,_,_,_,_,_,_,_,_,_,_,_,_,_,_,_,_,_,_,_,_,_,_,_,_,_,_,_,_,_,_,_,_,_,_,_,_,_,_,_,_,_,_,_,_,_,_,_,_,_,_,_,_,_,_,_,_,_,_,_,_,_,_,_,_,_], _⟩ : Act) _
                refine wpAnyH_ready (rs := [16]) (by kernel_rfl) (by simp) ?_
                refine AllReadyH.cons rfl (fun K hK => ?_) AllReadyH.nil
                refine step_append_own rfl _ _ 48 rfl (E + 1) 54 i0 (.agg #[.string .empty, .slice none 0 0, .int .i64 0]) 3 48 Tryz.underlying48 hi hz0 hz1 hz2 rfl (by decide) lv ls.length (flatL ls wvs) rfl HDb.out.own ⟨w9.heap.size, 0, none⟩ 1 1 [.string X, .slice na9 0 nc9, .int .i64 (a : Int)] (by rfl) rfl (cellL_new _ _ _ _) (oneL _ _ _ _ _) HM1.out HM2.out hHeld.2.2.out.ts.room ?_
                intro v' w10 hown' hgrow
                have hown2 := hown'
                rw [HXX.out] at hown2
                obtain ⟨pa, pb, pc⟩ := DirX.push (l := (x, [], a)) HDb.out HWb.out hown2 hgrow
                obtain ⟨na, nc, hv'⟩ := isSlice_of hown'
                subst hv'
                have HP := hidM (And.intro pa (And.intro pb pc))
                clear pa pb pc hown' hown2
                refine hK.out _ _ ((hHeld.2.2.out.grow hgrow HDb.out).full HRC.out HCU.out) (fun hHeld => ?_)
                clear hK K hgrow
                change wpAnyH _ _ _ _ _ _ _ (⟨#[_,_,_,_,_,_,_,_,_,_,_,_,_,_,_,_,_,_,_,_,_,_,_,_,_,_,_,_,_,_,_,_,_,_,_,_,_,_,_,_,_,_,_,_,_,_,_,_,_,_,_,_,_,_,_,_,_,_,_,_,_,_,_,_,_,_,_,_,_,_,_,_,_,_,_,_], _⟩ : Act) _
                refine wpAnyH_take (i := 17) (v := ?_) rfl (by kernel_rfl) (by kernel_rfl) (by kernel_rfl) (fun _ _ _ h => h) (Or.inl ⟨by kernel_rfl, ?_⟩) (by assumption) ?_
                rotate_left
                · intro w hSw
                  clear hSw
                  go_simp
                  try with_reducible rfl
                change wpAnyH _ _ _ _ _ _ _ (⟨#[_,_,_,_,_,_,_,_,_,_,_,_,_,_,_,_,_,_,_,_,_,_,_,_,_,_,_,_,_,_,_,_,_,_,_,_,_,_,_,_,_,_,_,_,_,_,_,_,_,_,_,_,_,_,_,_,_,_,_,_,_,_,_,_,_,_,_,_,_,_,_,_,_,_,_,_], _⟩ : Act) _
                refine wpAnyH_take (i := 18) (v := ?_) rfl (by kernel_rfl) (by kernel_rfl) (by kernel_rfl) (fun _ _ _ h => h) (Or.inl ⟨by kernel_rfl, ?_⟩) (by assumption) ?_
                rotate_left
                · intro w hSw
                  clear hSw
                  go_simp
                  try with_reducible rfl
                change wpAnyH _ _ _ _ _ _ _ (⟨#[_,_,_,_,_,_,_,_,_,_,_,_,_,_,_,_,_,_,_,_,_,_,_,_,_,_,_,_,_,_,_,_,_,_,_,_,_,_,_,_,_,_,_,_,_,_,_,_,_,_,_,_,_,_,_,_,_,_,_,_,_,_,_,_,_,_,_,_,_,_,_,_,_,_,_,_], _⟩ : Act) _
                refine wpAnyH_ready (rs := [19]) (by kernel_rfl) (by simp) ?_
                refine AllReadyH.cons rfl (fun K hK => ?_) AllReadyH.nil
                obtain ⟨x0, x1, xf⟩ := dir_cells HP.out.1
                have xf0 := xf 0
                clear xf
                go_simp
                refine hK.out _ _ ((TS2.set HP.out.1 hHeld.2.2.out hgE _).full HRC.out HCU.out) (fun hHeld => ?_)
                clear hK K
                change wpAnyH _ _ _ _ _ _ _ (⟨#[_,_,_,_,_,_,_,_,_,_,_,_,_,_,_,_,_,_,_,_,_,_,_,_,_,_,_,_,_,_,_,_,_,_,_,_,_,_,_,_,_,_,_,_,_,_,_,_,_,_,_,_,_,_,_,_,_,_,_,_,_,_,_,_,_,_,_,_,_,_,_,_,_,_,_,_], _⟩ : Act) _
                refine wpAnyH_done (by kernel_rfl) ?_ _
                refine NoPanic.normal ?_
                go_wp2
                go_ret
                exact HFIN.out _ _ _ HP.out.2.1 hHeld.2.2.out.ts.below hHeld.2.2.out.ts.keep _ rfl
              · go_simp
                with_reducible refine (HCLN.out _ hHeld.2.2).mono ?_
                rintro _ w9 ⟨na9, nc9, rfl, hown9, hb9⟩
                have HD9 : Hid (DirX w9 E ls blk lv wvs) := DirX.below (w := W1.drew) ((HD1.out).heap rfl) hb9 (Nat.le_refl _)
                have HW9 : Hid (OwnW w9 0 (.slice na9 0 nc9) []) := ownW_mono hown9 (Nat.zero_le _)
                refine hK.out _ _ ((hHeld.2.2.out.below2 hb9 (Nat.le_refl _)).full HRC.out HCU.out) (fun hHeld => ?_)
                clear hK K hown9 hb9
                change wpAnyH _ _ _ _ _ _ _ (⟨#[_,_,_,_,_,_,_,_,_,_,_,_,_,_,_,_,_,_,_,_,_,_,_,_,_,_,_,_,_,_,_,_,_,_,_,_,_,_,_,_,_,_,_,_,_,_,_,_,_,_,_,_,_,_,_,_,_,_,_,_,_,_,_,_,_,_,_,_,_,_,_,_,_,_,_,_], _⟩ : Act) _
                refine wpAnyH_take (i := 14) (v := ?_) rfl (by kernel_rfl) (by kernel_rfl) (by kernel_rfl) (fun _ _ _ h => h) (Or.inl ⟨by kernel_rfl, ?_⟩) (by assumption) ?_
                rotate_left
                · intro w hSw
                  clear hSw
                  go_simp
                  try with_reducible rfl
                change wpAnyH _ _ _ _ _ _ _ (⟨#[_,_,_,_,_,_,_,_,_,_,_,_,_,_,_,_,_,_,_,_,_,_,_,_,_,_,_,_,_,_,_,_,_,_,_,_,_,_,_,_,_,_,_,_,_,_,_,_,_,_,_,_,_,_,_,_,_,_,_,_,_,_,_,_,_,_,_,_,_,_,_,_,_,_,_,_], _⟩ : Act) _
                refine wpAnyH_ready (rs := [4, 15]) (by kernel_rfl) (by simp) ?_
                refine AllReadyH.cons rfl (fun K hK => ?_) (AllReadyH.cons rfl (fun K hK => ?_) (AllReadyH.nil))
                · have e0 := (dir_cells HD9.out.box).1
                  go_simp
                  refine hK.out _ _ hHeld (fun hHeld => ?_)
                  clear hK K e0
                  change wpAnyH _ _ _ _ _ _ _ (⟨#[_,_,_,_,_,_,_,_,_,_,_,_,_,_,_,_,_,_,_,_,_,_,_,_,_,_,_,_,_,_,_,_,_,_,_,_,_,_,_,_,_,_,_,_,_,_,_,_,_,_,_,_,_,_,_,_,_,_,_,_,_,_,_,_,_,_,_,_,_,_,_,_,_,_,_,_], _⟩ : Act) _
                  refine wpAnyH_ready (rs := [15]) (by kernel_rfl) (by simp) ?_
                  refine AllReadyH.cons rfl (fun K hK => ?_) AllReadyH.nil
                  go_simp
                  have HDb : Hid (DirX (w9.alloc (.cells #[.string X, .slice na9 0 nc9, .int .i64 (a : Int)] 54)) E ls blk lv wvs) := DirX.below HD9.out ((Below.refl _ w9).alloc (Nat.le_refl _) _) (Nat.le_refl _)
                  have HWb : Hid (OwnW (w9.alloc (.cells #[.string X, .slice na9 0 nc9, .int .i64 (a : Int)] 54)) 0 (.slice na9 0 nc9) []) := ownW_below HW9.out ((Below.refl _ w9).alloc (Nat.le_refl _) _) (Nat.le_refl _)
                  refine hK.out _ _ ((hHeld.2.2.out.alloc _).full HRC.out HCU.out) (fun hHeld => ?_)
                  clear hK K
                  change wpAnyH _ _ _ _ _ _ _ (⟨#[_,_,_,_,_,_,_,_,_,_,_,_,_,_,_,_,_,_,_,_,_,_,_,_,_,_,_,_,_,_,_,_,_,_,_,_,_,_,_,_,_,_,_,_,_,_,_,_,_,_,_,_,_,_,_,_,_,_,_,_,_,_,_,_,_,_,_,_,_,_,_,_,_,_,_,_], _⟩ : Act) _
                  refine wpAnyH_ready (rs := [16]) (by kernel_rfl) (by simp) ?_
                  refine AllReadyH.cons rfl (fun K hK => ?_) AllReadyH.nil
                  refine step_append_own rfl _ _ 48 rfl (E + 1) 54 i0 (.agg #[.string .empty, .slice none 0 0, .int .i64 0]) 3 48 Tryz.underlying48 hi hz0 hz1 hz2 rfl (by decide) lv ls.length (flatL ls wvs) rfl HDb.out.own ⟨w9.heap.size, 0, none⟩ 1 1 [.string X, .slice na9 0 nc9, .int .i64 (a : Int)] (by rfl) rfl (cellL_new _ _ _ _) (oneL _ _ _ _ _) HM1.out HM2.out hHeld.2.2.out.ts.room ?_
                  intro v' w10 hown' hgrow
                  have hown2 := hown'
                  rw [HXX.out] at hown2
                  obtain ⟨pa, pb, pc⟩ := DirX.push (l := (x, [], a)) HDb.out HWb.out hown2 hgrow
                  obtain ⟨na, nc, hv'⟩ := isSlice_of hown'
                  subst hv'
                  have HP := hidM (And.intro pa (And.intro pb pc))
                  clear pa pb pc hown' hown2
                  refine hK.out _ _ ((hHeld.2.2.out.grow hgrow HDb.out).full HRC.out HCU.out) (fun hHeld => ?_)
                  clear hK K hgrow
                  change wpAnyH _ _ _ _ _ _ _ (⟨#[_,_,_,_,_,_,_,_,_,_,_,_,_,_,_,_,_,_,_,_,_,_,_,_,_,_,_,_,_,_,_,_,_,_,_,_,_,_,_,_,_,_,_,_,_,_,_,_,_,_,_,_,_,_,_,_,_,_,_,_,_,_,_,_,_,_,_,_,_,_,_,_,_,_,_,_], _⟩ : Act) _
                  refine wpAnyH_take (i := 17) (v := ?_) rfl (by kernel_rfl) (by kernel_rfl) (by kernel_rfl) (fun _ _ _ h => h) (Or.inl ⟨by kernel_rfl, ?_⟩) (by assumption) ?_
                  rotate_left
                  · intro w hSw
                    clear hSw
                    go_simp
                    try with_reducible rfl
                  change wpAnyH _ _ _ _ _ _ _ (⟨#[_,_,_,_,_,_,_,_,_,_,_,_,_,_,_,_,_,_,_,_,_,_,_,_,_,_,_,_,_,_,_,_,_,_,_,_,_,_,_,_,_,_,_,_,_,_,_,_,_,_,_,_,_,_,_,_,_,_,_,_,_,_,_,_,_,_,_,_,_,_,_,_,_,_,_,_], _⟩ : Act) _
                  refine wpAnyH_take (i := 18) (v := ?_) rfl (by kernel_rfl) (by kernel_rfl) (by kernel_rfl) (fun _ _ _ h => h) (Or.inl ⟨by kernel_rfl, ?_⟩) (by assumption) ?_
                  rotate_left
                  · intro w hSw
                    clear hSw
                    go_simp
                    try with_reducible rfl
                  change wpAnyH _ _ _ _ _ _ _ (⟨#[_,_,_,_,_,_,_,_,_,_,_,_,_,_,_,_,_,_,_,_,_,_,_,_,_,_,_,_,_,_,_,_,_,_,_,_,_,_,_,_,_,_,_,_,_,_,_,_,_,_,_,_,_,_,_,_,_,_,_,_,_,_,_,_,_,_,_,_,_,_,_,_,_,_,_,_], _⟩ : Act) _
                  refine wpAnyH_ready (rs := [19]) (by kernel_rfl) (by simp) ?_
                  refine AllReadyH.cons rfl (fun K hK => ?_) AllReadyH.nil
                  obtain ⟨x0, x1, xf⟩ := dir_cells HP.out.1
                  have xf0 := xf 0
                  clear xf
                  go_simp
                  refine hK.out _ _ ((TS2.set HP.out.1 hHeld.2.2.out hgE _).full HRC.out HCU.out) (fun hHeld => ?_)
                  clear hK K
                  change wpAnyH _ _ _ _ _ _ _ (⟨#[_,_,_,_,_,_,_,_,_,_,_,_,_,_,_,_,_,_,_,_,_,_,_,_,_,_,_,_,_,_,_,_,_,_,_,_,_,_,_,_,_,_,_,_,_,_,_,_,_,_,_,_,_,_,_,_,_,_,_,_,_,_,_,_,_,_,_,_,_,_,_,_,_,_,_,_], _⟩ : Act) _
                  refine wpAnyH_done (by kernel_rfl) ?_ _
                  refine NoPanic.normal ?_
                  go_wp2
                  go_ret
                  exact HFIN.out _ _ _ HP.out.2.1 hHeld.2.2.out.ts.below hHeld.2.2.out.ts.keep _ rfl
                · go_simp
                  have HDb : Hid (DirX (w9.alloc (.cells #[.string X, .slice na9 0 nc9, .int .i64 (a : Int)] 54)) E ls blk lv wvs) := DirX.below HD9.out ((Below.refl _ w9).alloc (Nat.le_refl _) _) (Nat.le_refl _)
                  have HWb : Hid (OwnW (w9.alloc (.cells #[.string X, .slice na9 0 nc9, .int .i64 (a : Int)] 54)) 0 (.slice na9 0 nc9) []) := ownW_below HW9.out ((Below.refl _ w9).alloc (Nat.le_refl _) _) (Nat.le_refl _)
                  refine hK.out _ _ ((hHeld.2.2.out.alloc _).full HRC.out HCU.out) (fun hHeld => ?_)
                  clear hK K
                  change wpAnyH _ _ _ _ _ _ _ (⟨#[_,_,_,_,_,_,_,_,_,_,_,_,_,_,_,_,_,_,_,_,_,_,_,_,_,_,_,_,_,_,_,_,_,_,_,_,_,_,_,_,_,_,_,_,_,_,_,_,_,_,_,_,_,_,_,_,_,_,_,_,_,_,_,_,_,_,_,_,_,_,_,_,_,_,_,_], _⟩ : Act) _
                  refine wpAnyH_ready (rs := [4]) (by kernel_rfl) (by simp) ?_
                  refine AllReadyH.cons rfl (fun K hK => ?_) AllReadyH.nil
                  have e0 := (dir_cells HDb.out.box).1
                  go_simp
                  refine hK.out _ _ hHeld (fun hHeld => ?_)
                  clear hK K e0
                  change wpAnyH _ _ _ _ _ _ _ (⟨#[_,_,_,_,_,_,_,_,_,_,_,_,_,_,_,_,_,_,_,_,_,_,_,_,_,_,_,_,_,_,_,_,_,_,_,_,_,_,_,_,_,_,_,_,_,_,_,_,_,_,_,_,_,_,_,_,_,_,_,_,_,_,_,_,_,_,_,_,_,_,_,_,_,_,_,_], _⟩ : Act) _
                  refine wpAnyH_ready (rs := [16]) (by kernel_rfl) (by simp) ?_
                  refine AllReadyH.cons rfl (fun K hK => ?_) AllReadyH.nil
                  refine step_append_own rfl _ _ 48 rfl (E + 1) 54 i0 (.agg #[.string .empty, .slice none 0 0, .int .i64 0]) 3 48 Tryz.underlying48 hi hz0 hz1 hz2 rfl (by decide) lv ls.length (flatL ls wvs) rfl HDb.out.own ⟨w9.heap.size, 0, none⟩ 1 1 [.string X, .slice na9 0 nc9, .int .i64 (a : Int)] (by rfl) rfl (cellL_new _ _ _ _) (oneL _ _ _ _ _) HM1.out HM2.out hHeld.2.2.out.ts.room ?_
                  intro v' w10 hown' hgrow
                  have hown2 := hown'
                  rw [HXX.out] at hown2
                  obtain ⟨pa, pb, pc⟩ := DirX.push (l := (x, [], a)) HDb.out HWb.out hown2 hgrow
                  obtain ⟨na, nc, hv'⟩ := isSlice_of hown'
                  subst hv'
                  have HP := hidM (And.intro pa (And.intro pb pc))
                  clear pa pb pc hown' hown2
                  refine hK.out _ _ ((hHeld.2.2.out.grow hgrow HDb.out).full HRC.out HCU.out) (fun hHeld => ?_)
                  clear hK K hgrow
                  change wpAnyH _ _ _ _ _ _ _ (⟨#[_,_,_,_,_,_,_,_,_,_,_,_,_,_,_,_,_,_,_,_,_,_,_,_,_,_,_,_,_,_,_,_,_,_,_,_,_,_,_,_,_,_,_,_,_,_,_,_,_,_,_,_,_,_,_,_,_,_,_,_,_,_,_,_,_,_,_,_,_,_,_,_,_,_,_,_], _⟩ : Act) _
                  refine wpAnyH_take (i := 17) (v := ?_) rfl (by kernel_rfl) (by kernel_rfl) (by kernel_rfl) (fun _ _ _ h => h) (Or.inl ⟨by kernel_rfl, ?_⟩) (by assumption) ?_
                  rotate_left
                  · intro w hSw
                    clear hSw
                    go_simp
                    try with_reducible rfl
                  change wpAnyH _ _ _ _ _ _ _ (⟨#[_,_,_,_,_,_,_,_,_,_,_,_,_,_,_,_,_,_,_,_,_,_,_,_,_,_,_,_,_,_,_,_,_,_,_,_,_,_,_,_,_,_,_,_,_,_,_,_,_,_,_,_,_,_,_,_,_,_,_,_,_,_,_,_,_,_,_,_,_,_,_,_,_,_,_,_], _⟩ : Act) _
                  refine wpAnyH_take (i := 18) (v := ?_) rfl (by kernel_rfl) (by kernel_rfl) (by kernel_rfl) (fun _ _ _ h => h) (Or.inl ⟨by kernel_rfl, ?_⟩) (by assumption) ?_
                  rotate_left
                  · intro w hSw
                    clear hSw
                    go_simp
                    try with_reducible rfl
                  change wpAnyH _ _ _ _ _ _ _ (⟨#[_,_,_,_,_,_,_,_,_,_,_,_,_,_,_,_,_,_,_,_,_,_,_,_,_,_,_,_,_,_,_,_,_,_,_,_,_,_,_,_,_,_,_,_,_,_,_,_,_,_,_,_,_,_,_,_,_,_,_,_,_,_,_,_,_,_,_,_,_,_,_,_,_,_,_,_], _⟩ : Act) _
                  refine wpAnyH_ready (rs := [19]) (by kernel_rfl) (by simp) ?_
                  refine AllReadyH.cons rfl (fun K hK => ?_) AllReadyH.nil
                  obtain ⟨x0, x1, xf⟩ := dir_cells HP.out.1
                  have xf0 := xf 0
                  clear xf
                  go_simp
                  refine hK.out _ _ ((TS2.set HP.out.1 hHeld.2.2.out hgE _).full HRC.out HCU.out) (fun hHeld => ?_)
                  clear hK K
                  change wpAnyH _ _ _ _ _ _ _ (⟨#[_,_,_,_,_,_,_,_,_,_,_,_,_,_,_,_,_,_,_,_,_,_,_,_,_,_,_,_,_,_,_,_,_,_,_,_,_,_,_,_,_,_,_,_,_,_,_,_,_,_,_,_,_,_,_,_,_,_,_,_,_,_,_,_,_,_,_,_,_,_,_,_,_,_,_,_], _⟩ : Act) _
                  refine wpAnyH_done (by kernel_rfl) ?_ _
                  refine NoPanic.normal ?_
                  go_wp2
                  go_ret
                  exact HFIN.out _ _ _ HP.out.2.1 hHeld.2.2.out.ts.below hHeld.2.2.out.ts.keep _ rfl

            · have HCLN : Hid (∀ V, Hid (TS2 w E w.heap.size g rc cur V) → Calls Tryz.prog 86 #[.slice (some ⟨g, 1, none⟩) r.length (wc - 1)] V fun e w' => ∃ na nc, e = .returned (.slice na r.length nc) ∧ OwnW w' V.heap.size (.slice na r.length nc) r ∧ Below V.heap.size V w') :=
                fun V hV => clone_tail g (wc - 1) x r cur V hV.out.wrd HCUR.out (by simp at hw6; omega)
              have hm1 : wl - 1 = r.length := by rw [HWR.out]; rfl
              have hw0 : 0 < wl := by omega
              have hw2 : (1 : Int) ≤ (wl : Int) := by omega
              clear hw6
              obtain rfl : kI = 0 := HKI.out
              go_enter Tryz.func57, Tryz.ntmps57
              go_upto_block 0 with fail
              rw [HE1.out]

              go_upto_region 12 with fail
              refine wp_region_noPanic ?_
              refine wp_region_held_drew (S := (fun w' => w'.cell? ⟨w.heap.size, 0, none⟩ = some (.slice (some ⟨g, 0, none⟩) wl wc) ∧ w'.cell? ⟨g, 0, none⟩ = some (.string X) ∧ Hid (TS2 w E w.heap.size g rc cur w'))) (by kernel_rfl) ?_ (fun hHeld => ?_)
              · exact HS2.out.full HRC.out HCU.out
              refine wpAnyH_take (i := 0) (v := ?_) rfl (by kernel_rfl) (by kernel_rfl) (by kernel_rfl) (fun _ _ _ h => h) (Or.inl ⟨by kernel_rfl, ?_⟩) (by assumption) ?_
              rotate_left
              · intro w hSw
                clear hSw
                go_simp
                try with_reducible rfl
              change wpAnyH _ _ _ _ _ _ _ (⟨#[_,_,_,_,_,_,_,_,_,_,_,_,_,_,_,_,_,_,_,_,_,_,_,_,_,_,_,_,_,_,_,_,_,_,_,_,_,_,_,_,_,_,_,_,_,_,_,_,_,_,_,_,_,_,_,_,_,_,_,_,_,_,_,_,_,_,_,_,_,_,_,_,_,_,_,_], _⟩ : Act) _
              refine wpAnyH_take (i := 1) (v := ?_) rfl (by kernel_rfl) (by kernel_rfl) (by kernel_rfl) (fun _ _ _ h => h) (Or.inl ⟨by kernel_rfl, ?_⟩) (by assumption) ?_
              rotate_left
              · intro w hSw
                clear hSw
                go_simp
                try with_reducible rfl
              change wpAnyH _ _ _ _ _ _ _ (⟨#[_,_,_,_,_,_,_,_,_,_,_,_,_,_,_,_,_,_,_,_,_,_,_,_,_,_,_,_,_,_,_,_,_,_,_,_,_,_,_,_,_,_,_,_,_,_,_,_,_,_,_,_,_,_,_,_,_,_,_,_,_,_,_,_,_,_,_,_,_,_,_,_,_,_,_,_], _⟩ : Act) _
              refine wpAnyH_take (i := 2) (v := ?_) rfl (by kernel_rfl) (by kernel_rfl) (by kernel_rfl) (fun _ _ _ h => h) (Or.inl ⟨by kernel_rfl, ?_⟩) (by assumption) ?_
              rotate_left
              · intro w hSw
                clear hSw
                go_simp
                try with_reducible rfl
              change wpAnyH _ _ _ _ _ _ _ (⟨#[_,_,_,_,_,_,_,_,_,_,_,_,_,_,_,_,_,_,_,_,_,_,_,_,_,_,_,_,_,_,_,_,_,_,_,_,_,_,_,_,_,_,_,_,_,_,_,_,_,_,_,_,_,_,_,_,_,_,_,_,_,_,_,_,_,_,_,_,_,_,_,_,_,_,_,_], _⟩ : Act) _
              refine wpAnyH_take (i := 3) (v := ?_) rfl (by kernel_rfl) (by kernel_rfl) (by kernel_rfl) (fun _ _ _ h => h) (Or.inl ⟨by kernel_rfl, ?_⟩) (by assumption) ?_
              rotate_left
              · intro w hSw
                clear hSw
                go_simp
                try with_reducible rfl
              change wpAnyH _ _ _ _ _ _ _ (⟨#[_,_,_,_,_,_,_,_,_,_,_,_,_,_,_,_,_,_,_,_,_,_,_,_,_,_,_,_,_,_,_,_,_,_,_,_,_,_,_,_,_,_,_,_,_,_,_,_,_,_,_,_,_,_,_,_,_,_,_,_,_,_,_,_,_,_,_,_,_,_,_,_,_,_,_,_], _⟩ : Act) _
              refine wpAnyH_take (i := 5) (v := ?_) rfl (by kernel_rfl) (by kernel_rfl) (by kernel_rfl) (fun _ _ _ h => h) (Or.inl ⟨by kernel_rfl, ?_⟩) (by assumption) ?_
              rotate_left
              · intro w hSw
                clear hSw
                go_simp
                try with_reducible rfl
              change wpAnyH _ _ _ _ _ _ _ (⟨#[_,_,_,_,_,_,_,_,_,_,_,_,_,_,_,_,_,_,_,_,_,_,_,_,_,_,_,_,_,_,_,_,_,_,_,_,_,_,_,_,_,_,_,_,_,_,_,_,_,_,_,_,_,_,_,_,_,_,_,_,_,_,_,_,_,_,_,_,_,_,_,_,_,_,_,_], _⟩ : Act) _
              refine wpAnyH_take (i := 6) (v := ?_) rfl (by kernel_rfl) (by kernel_rfl) (by kernel_rfl) (fun _ _ _ h => h) (Or.inl ⟨by kernel_rfl, ?_⟩) (by assumption) ?_
              rotate_left
              · intro w hSw
                obtain ⟨c2, c3, _⟩ := hSw
                go_simp
                try with_reducible rfl
              change wpAnyH _ _ _ _ _ _ _ (⟨#[_,_,_,_,_,_,_,_,_,_,_,_,_,_,_,_,_,_,_,_,_,_,_,_,_,_,_,_,_,_,_,_,_,_,_,_,_,_,_,_,_,_,_,_,_,_,_,_,_,_,_,_,_,_,_,_,_,_,_,_,_,_,_,_,_,_,_,_,_,_,_,_,_,_,_,_], _⟩ : Act) _
              refine wpAnyH_take (i := 7) (v := ?_) rfl (by kernel_rfl) (by kernel_rfl) (by kernel_rfl) (fun _ _ _ h => h) (Or.inl ⟨by kernel_rfl, ?_⟩) (by assumption) ?_
              rotate_left
              · intro w hSw
                clear hSw
                go_simp
                try with_reducible rfl
              change wpAnyH _ _ _ _ _ _ _ (⟨#[_,_,_,_,_,_,_,_,_,_,_,_,_,_,_,_,_,_,_,_,_,_,_,_,_,_,_,_,_,_,_,_,_,_,_,_,_,_,_,_,_,_,_,_,_,_,_,_,_,_,_,_,_,_,_,_,_,_,_,_,_,_,_,_,_,_,_,_,_,_,_,_,_,_,_,_], _⟩ : Act) _
              refine wpAnyH_take (i := 8) (v := ?_) rfl (by kernel_rfl) (by kernel_rfl) (by kernel_rfl) (fun _ _ _ h => h) (Or.inl ⟨by kernel_rfl, ?_⟩) (by assumption) ?_
              rotate_left
              · intro w hSw
                obtain ⟨c2, c3, _⟩ := hSw
                go_simp
                try with_reducible rfl
              change wpAnyH _ _ _ _ _ _ _ (⟨#[_,_,_,_,_,_,_,_,_,_,_,_,_,_,_,_,_,_,_,_,_,_,_,_,_,_,_,_,_,_,_,_,_,_,_,_,_,_,_,_,_,_,_,_,_,_,_,_,_,_,_,_,_,_,_,_,_,_,_,_,_,_,_,_,_,_,_,_,_,_,_,_,_,_,_,_], _⟩ : Act) _
              refine wpAnyH_take (i := 9) (v := ?_) rfl (by kernel_rfl) (by kernel_rfl) (by kernel_rfl) (fun _ _ _ h => h) (Or.inl ⟨by kernel_rfl, ?_⟩) (by assumption) ?_
              rotate_left
              · intro w hSw
                clear hSw
                go_simp
                try with_reducible rfl
              change wpAnyH _ _ _ _ _ _ _ (⟨#[_,_,_,_,_,_,_,_,_,_,_,_,_,_,_,_,_,_,_,_,_,_,_,_,_,_,_,_,_,_,_,_,_,_,_,_,_,_,_,_,_,_,_,_,_,_,_,_,_,_,_,_,_,_,_,_,_,_,_,_,_,_,_,_,_,_,_,_,_,_,_,_,_,_,_,_], _⟩ : Act) _
              refine wpAnyH_take (i := 10) (v := ?_) rfl (by kernel_rfl) (by kernel_rfl) (by kernel_rfl) (fun _ _ _ h => h) (Or.inl ⟨by kernel_rfl, ?_⟩) (by assumption) ?_
              rotate_left
              · intro w hSw
                obtain ⟨c2, c3, _⟩ := hSw
                go_simp
                try with_reducible rfl
              change wpAnyH _ _ _ _ _ _ _ (⟨#[_,_,_,_,_,_,_,_,_,_,_,_,_,_,_,_,_,_,_,_,_,_,_,_,_,_,_,_,_,_,_,_,_,_,_,_,_,_,_,_,_,_,_,_,_,_,_,_,_,_,_,_,_,_,_,_,_,_,_,_,_,_,_,_,_,_,_,_,_,_,_,_,_,_,_,_], _⟩ : Act) _
              refine wpAnyH_take (i := 11) (v := ?_) rfl (by kernel_rfl) (by kernel_rfl) (by kernel_rfl) (fun _ _ _ h => h) (Or.inl ⟨by kernel_rfl, ?_⟩) (by assumption) ?_
              rotate_left
              · intro w hSw
                clear hSw
                go_simp
                try with_reducible rfl
              change wpAnyH _ _ _ _ _ _ _ (⟨#[_,_,_,_,_,_,_,_,_,_,_,_,_,_,_,_,_,_,_,_,_,_,_,_,_,_,_,_,_,_,_,_,_,_,_,_,_,_,_,_,_,_,_,_,_,_,_,_,_,_,_,_,_,_,_,_,_,_,_,_,_,_,_,_,_,_,_,_,_,_,_,_,_,_,_,_], _⟩ : Act) _
              refine wpAnyH_take (i := 13) (v := ?_) rfl (by kernel_rfl) (by kernel_rfl) (by kernel_rfl) (fun _ _ _ h => h) (Or.inl ⟨by kernel_rfl, ?_⟩) (by assumption) ?_
              rotate_left
              · intro w hSw
                clear hSw
                go_simp
                try with_reducible rfl
              change wpAnyH _ _ _ _ _ _ _ (⟨#[_,_,_,_,_,_,_,_,_,_,_,_,_,_,_,_,_,_,_,_,_,_,_,_,_,_,_,_,_,_,_,_,_,_,_,_,_,_,_,_,_,_,_,_,_,_,_,_,_,_,_,_,_,_,_,_,_,_,_,_,_,_,_,_,_,_,_,_,_,_,_,_,_,_,_,_], _⟩ : Act) _
              refine wpAnyH_ready (rs := [4, 12]) (by kernel_rfl) (by simp) ?_
              refine AllReadyH.cons rfl (fun K hK => ?_) (AllReadyH.cons rfl (fun K hK => ?_) (AllReadyH.nil))
              · have e0 := (dir_cells HD1.out.box).1
                go_simp
                refine hK.out _ _ hHeld (fun hHeld => ?_)
                clear hK K e0
                change wpAnyH _ _ _ _ _ _ _ (⟨#[_,_,_,_,_,_,_,_,_,_,_,_,_,_,_,_,_,_,_,_,_,_,_,_,_,_,_,_,_,_,_,_,_,_,_,_,_,_,_,_,_,_,_,_,_,_,_,_,_,_,_,_,_,_,_,_,_,_,_,_,_,_,_,_,_,_,_,_,_,_,_,_,_,_,_,_], _⟩ : Act) _
                refine wpAnyH_ready (rs := [12]) (by kernel_rfl) (by simp) ?_
                refine AllReadyH.cons rfl (fun K hK => ?_) AllReadyH.nil
                go_simp
                with_reducible refine (HCLN.out _ hHeld.2.2).mono ?_
                rintro _ w9 ⟨na9, nc9, rfl, hown9, hb9⟩
                have HD9 : Hid (DirX w9 E ls blk lv wvs) := DirX.below (w := W1.drew) ((HD1.out).heap rfl) hb9 (Nat.le_refl _)
                have HW9 : Hid (OwnW w9 0 (.slice na9 r.length nc9) r) := ownW_mono hown9 (Nat.zero_le _)
                refine hK.out _ _ ((hHeld.2.2.out.below2 hb9 (Nat.le_refl _)).full HRC.out HCU.out) (fun hHeld => ?_)
                clear hK K hown9 hb9
                change wpAnyH _ _ _ _ _ _ _ (⟨#[_,_,_,_,_,_,_,_,_,_,_,_,_,_,_,_,_,_,_,_,_,_,_,_,_,_,_,_,_,_,_,_,_,_,_,_,_,_,_,_,_,_,_,_,_,_,_,_,_,_,_,_,_,_,_,_,_,_,_,_,_,_,_,_,_,_,_,_,_,_,_,_,_,_,_,_], _⟩ : Act) _
                refine wpAnyH_take (i := 14) (v := ?_) rfl (by kernel_rfl) (by kernel_rfl) (by kernel_rfl) (fun _ _ _ h => h) (Or.inl ⟨by kernel_rfl, ?_⟩) (by assumption) ?_
                rotate_left
                · intro w hSw
                  clear hSw
                  go_simp
                  try with_reducible rfl
                change wpAnyH _ _ _ _ _ _ _ (⟨#[_,_,_,_,_,_,_,_,_,_,_,_,_,_,_,_,_,_,_,_,_,_,_,_,_,_,_,_,_,_,_,_,_,_,_,_,_,_,_,_,_,_,_,_,_,_,_,_,_,_,_,_,_,_,_,_,_,_,_,_,_,_,_,_,_,_,_,_,_,_,_,_,_,_,_,_], _⟩ : Act) _
                refine wpAnyH_ready (rs := [15]) (by kernel_rfl) (by simp) ?_
                refine AllReadyH.cons rfl (fun K hK => ?_) AllReadyH.nil
                go_simp
                have HDb : Hid (DirX (w9.alloc (.cells #[.string X, .slice na9 r.length nc9, .int .i64 (a : Int)] 54)) E ls blk lv wvs) := DirX.below HD9.out ((Below.refl _ w9).alloc (Nat.le_refl _) _) (Nat.le_refl _)
                have HWb : Hid (OwnW (w9.alloc (.cells #[.string X, .slice na9 r.length nc9, .int .i64 (a : Int)] 54)) 0 (.slice na9 r.length nc9) r) := ownW_below HW9.out ((Below.refl _ w9).alloc (Nat.le_refl _) _) (Nat.le_refl _)
                refine hK.out _ _ ((hHeld.2.2.out.alloc _).full HRC.out HCU.out) (fun hHeld => ?_)
                clear hK K
                change wpAnyH _ _ _ _ _ _ _ (⟨#[_,_,_,_,_,_,_,_,_,_,_,_,_,_,_,_,_,_,_,_,_,_,_,_,_,_,_,_,_,_,_,_,_,_,_,_,_,_,_,_,_,_,_,_,_,_,_,_,_,_,_,_,_,_,_,_,_,_,_,_,_,_,_,_,_,_,_,_,_,_,_,_,_,_,_,_], _⟩ : Act) _
                refine wpAnyH_ready (rs := [16]) (by kernel_rfl) (by simp) ?_
                refine AllReadyH.cons rfl (fun K hK => ?_) AllReadyH.nil
                refine step_append_own rfl _ _ 48 rfl (E + 1) 54 i0 (.agg #[.string .empty, .slice none 0 0, .int .i64 0]) 3 48 Tryz.underlying48 hi hz0 hz1 hz2 rfl (by decide) lv ls.length (flatL ls wvs) rfl HDb.out.own ⟨w9.heap.size, 0, none⟩ 1 1 [.string X, .slice na9 r.length nc9, .int .i64 (a : Int)] (by rfl) rfl (cellL_new _ _ _ _) (oneL _ _ _ _ _) HM1.out HM2.out hHeld.2.2.out.ts.room ?_
                intro v' w10 hown' hgrow
                have hown2 := hown'
                rw [HXX.out] at hown2
                obtain ⟨pa, pb, pc⟩ := DirX.push (l := (x, r, a)) HDb.out HWb.out hown2 hgrow
                obtain ⟨na, nc, hv'⟩ := isSlice_of hown'
                subst hv'
                have HP := hidM (And.intro pa (And.intro pb pc))
                clear pa pb pc hown' hown2
                refine hK.out _ _ ((hHeld.2.2.out.grow hgrow HDb.out).full HRC.out HCU.out) (fun hHeld => ?_)
                clear hK K hgrow
                change wpAnyH _ _ _ _ _ _ _ (⟨#[_,_,_,_,_,_,_,_,_,_,_,_,_,_,_,_,_,_,_,_,_,_,_,_,_,_,_,_,_,_,_,_,_,_,_,_,_,_,_,_,_,_,_,_,_,_,_,_,_,_,_,_,_,_,_,_,_,_,_,_,_,_,_,_,_,_,_,_,_,_,_,_,_,_,_,_], _⟩ : Act) _
                refine wpAnyH_take (i := 17) (v := ?_) rfl (by kernel_rfl) (by kernel_rfl) (by kernel_rfl) (fun _ _ _ h => h) (Or.inl ⟨by kernel_rfl, ?_⟩) (by assumption) ?_
                rotate_left
                · intro w hSw
                  clear hSw
                  go_simp
                  try with_reducible rfl
                change wpAnyH _ _ _ _ _ _ _ (⟨#[_,_,_,_,_,_,_,_,_,_,_,_,_,_,_,_,_,_,_,_,_,_,_,_,_,_,_,_,_,_,_,_,_,_,_,_,_,_,_,_,_,_,_,_,_,_,_,_,_,_,_,_,_,_,_,_,_,_,_,_,_,_,_,_,_,_,_,_,_,_,_,_,_,_,_,_], _⟩ : Act) _
                refine wpAnyH_take (i := 18) (v := ?_) rfl (by kernel_rfl) (by kernel_rfl) (by kernel_rfl) (fun _ _ _ h => h) (Or.inl ⟨by kernel_rfl, ?_⟩) (by assumption) ?_
                rotate_left
                · intro w hSw
                  clear hSw
                  go_simp
                  try with_reducible rfl
                change wpAnyH _ _ _ _ _ _ _ (⟨#[_,_,_,_,_,_,_,_,_,_,_,_,_,_,_,_,_,_,_,_,_,_,_,_,_,_,_,_,_,_,_,_,_,_,_,_,_,_,_,_,_,_,_,_,_,_,_,_,_,_,_,_,_,_,_,_,_,_,_,_,_,_,_,_,_,_,_,_,_,_,_,_,_,_,_,_], _⟩ : Act) _
                refine wpAnyH_ready (rs := [19]) (by kernel_rfl) (by simp) ?_
                refine AllReadyH.cons rfl (fun K hK => ?_) AllReadyH.nil
                obtain ⟨x0, x1, xf⟩ := dir_cells HP.out.1
                have xf0 := xf 0
                clear xf
                go_simp
                refine hK.out _ _ ((TS2.set HP.out.1 hHeld.2.2.out hgE _).full HRC.out HCU.out) (fun hHeld => ?_)
                clear hK K
                change wpAnyH _ _ _ _ _ _ _ (⟨#[_,_,_,_,_,_,_,_,_,_,_,_,_,_,_,_,_,_,_,_,_,_,_,_,_,_,_,_,_,_,_,_,_,_,_,_,_,_,_,_,_,_,_,_,_,_,_,_,_,_,_,_,_,_,_,_,_,_,_,_,_,_,_,_,_,_,_,_,_,_,_,_,_,_,_,_], _⟩ : Act) _
                refine wpAnyH_done (by kernel_rfl) ?_ _
                refine NoPanic.normal ?_
                go_wp2
                go_ret
                exact HFIN.out _ _ _ HP.out.2.1 hHeld.2.2.out.ts.below hHeld.2.2.out.ts.keep _ rfl
              · go_simp
                with_reducible refine (HCLN.out _ hHeld.2.2).mono ?_
                rintro _ w9 ⟨na9, nc9, rfl, hown9, hb9⟩
                have HD9 : Hid (DirX w9 E ls blk lv wvs) := DirX.below (w := W1.drew) ((HD1.out).heap rfl) hb9 (Nat.le_refl _)
                have HW9 : Hid (OwnW w9 0 (.slice na9 r.length nc9) r) := ownW_mono hown9 (Nat.zero_le _)
                refine hK.out _ _ ((hHeld.2.2.out.below2 hb9 (Nat.le_refl _)).full HRC.out HCU.out) (fun hHeld => ?_)
                clear hK K hown9 hb9
                change wpAnyH _ _ _ _ _ _ _ (⟨#[_,_,_,_,_,_,_,_,_,_,_,_,_,_,_,_,_,_,_,_,_,_,_,_,_,_,_,_,_,_,_,_,_,_,_,_,_,_,_,_,_,_,_,_,_,_,_,_,_,_,_,_,_,_,_,_,_,_,_,_,_,_,_,_,_,_,_,_,_,_,_,_,_,_,_,_], _⟩ : Act) _
                refine wpAnyH_take (i := 14) (v := ?_) rfl (by kernel_rfl) (by kernel_rfl) (by kernel_rfl) (fun _ _ _ h => h) (Or.inl ⟨by kernel_rfl, ?_⟩) (by assumption) ?_
                rotate_left
                · intro w hSw
                  clear hSw
                  go_simp
                  try with_reducible rfl
                change wpAnyH _ _ _ _ _ _ _ (⟨#[_,_,_,_,_,_,_,_,_,_,_,_,_,_,_,_,_,_,_,_,_,_,_,_,_,_,_,_,_,_,_,_,_,_,_,_,_,_,_,_,_,_,_,_,_,_,_,_,_,_,_,_,_,_,_,_,_,_,_,_,_,_,_,_,_,_,_,_,_,_,_,_,_,_,_,_], _⟩ : Act) _
                refine wpAnyH_ready (rs := [4, 15]) (by kernel_rfl) (by simp) ?_
                refine AllReadyH.cons rfl (fun K hK => ?_) (AllReadyH.cons rfl (fun K hK => ?_) (AllReadyH.nil))
                · have e0 := (dir_cells HD9.out.box).1
                  go_simp
                  refine hK.out _ _ hHeld (fun hHeld => ?_)
                  clear hK K e0
                  change wpAnyH _ _ _ _ _ _ _ (⟨#[_,_,_,_,_,_,_,_,_,_,_,_,_,_,_,_,_,_,_,_,_,_,_,_,_,_,_,_,_,_,_,_,_,_,_,_,_,_,_,_,_,_,_,_,_,_,_,_,_,_,_,_,_,_,_,_,_,_,_,_,_,_,_,_,_,_,_,_,_,_,_,_,_,_,_,_], _⟩ : Act) _
                  refine wpAnyH_ready (rs := [15]) (by kernel_rfl) (by simp) ?_
                  refine AllReadyH.cons rfl (fun K hK => ?_) AllReadyH.nil
                  go_simp
                  have HDb : Hid (DirX (w9.alloc (.cells #[.string X, .slice na9 r.length nc9, .int .i64 (a : Int)] 54)) E ls blk lv wvs) := DirX.below HD9.out ((Below.refl _ w9).alloc (Nat.le_refl _) _) (Nat.le_refl _)
                  have HWb : Hid (OwnW (w9.alloc (.cells #[.string X, .slice na9 r.length nc9, .int .i64 (a : Int)] 54)) 0 (.slice na9 r.length nc9) r) := ownW_below HW9.out ((Below.refl _ w9).alloc (Nat.le_refl _) _) (Nat.le_refl _)
                  refine hK.out _ _ ((hHeld.2.2.out.alloc _).full HRC.out HCU.out) (fun hHeld => ?_)
                  clear hK K
                  change wpAnyH _ _ _ _ _ _ _ (⟨#[_,_,_,_,_,_,_,_,_,_,_,_,_,_,_,_,_,_,_,_,_,_,_,_,_,_,_,_,_,_,_,_,_,_,_,_,_,_,_,_,_,_,_,_,_,_,_,_,_,_,_,_,_,_,_,_,_,_,_,_,_,_,_,_,_,_,_,_,_,_,_,_,_,_,_,_], _⟩ : Act) _
                  refine wpAnyH_ready (rs := [16]) (by kernel_rfl) (by simp) ?_
                  refine AllReadyH.cons rfl (fun K hK => ?_) AllReadyH.nil
                  refine step_append_own rfl _ _ 48 rfl (E + 1) 54 i0 (.agg #[.string .empty, .slice none 0 0, .int .i64 0]) 3 48 Tryz.underlying48 hi hz0 hz1 hz2 rfl (by decide) lv ls.length (flatL ls wvs) rfl HDb.out.own ⟨w9.heap.size, 0, none⟩ 1 1 [.string X, .slice na9 r.length nc9, .int .i64 (a : Int)] (by rfl) rfl (cellL_new _ _ _ _) (oneL _ _ _ _ _) HM1.out HM2.out hHeld.2.2.out.ts.room ?_
                  intro v' w10 hown' hgrow
                  have hown2 := hown'
                  rw [HXX.out] at hown2
                  obtain ⟨pa, pb, pc⟩ := DirX.push (l := (x, r, a)) HDb.out HWb.out hown2 hgrow
                  obtain ⟨na, nc, hv'⟩ := isSlice_of hown'
                  subst hv'
                  have HP := hidM (And.intro pa (And.intro pb pc))
                  clear pa pb pc hown' hown2
                  refine hK.out _ _ ((hHeld.2.2.out.grow hgrow HDb.out).full HRC.out HCU.out) (fun hHeld => ?_)
                  clear hK K hgrow
                  change wpAnyH _ _ _ _ _ _ _ (⟨#[_,_,_,_,_,_,_,_,_,_,_,_,_,_,_,_,_,_,_,_,_,_,_,_,_,_,_,_,_,_,_,_,_,_,_,_,_,_,_,_,_,_,_,_,_,_,_,_,_,_,_,_,_,_,_,_,_,_,_,_,_,_,_,_,_,_,_,_,_,_,_,_,_,_,_,_], _⟩ : Act) _
                  refine wpAnyH_take (i := 17) (v := ?_) rfl (by kernel_rfl) (by kernel_rfl) (by kernel_rfl) (fun _ _ _ h => h) (Or.inl ⟨by kernel_rfl, ?_⟩) (by assumption) ?_
                  rotate_left
                  · intro w hSw
                    clear hSw
                    go_simp
                    try with_reducible rfl
                  change wpAnyH _ _ _ _ _ _ _ (⟨#[_,_,_,_,_,_,_,_,_,_,_,_,_,_,_,_,_,_,_,_,_,_,_,_,_,_,_,_,_,_,_,_,_,_,_,_,_,_,_,_,_,_,_,_,_,_,_,_,_,_,_,_,_,_,_,_,_,_,_,_,_,_,_,_,_,_,_,_,_,_,_,_,_,_,_,_], _⟩ : Act) _
                  refine wpAnyH_take (i := 18) (v := ?_) rfl (by kernel_rfl) (by kernel_rfl) (by kernel_rfl) (fun _ _ _ h => h) (Or.inl ⟨by kernel_rfl, ?_⟩) (by assumption) ?_
                  rotate_left
                  · intro w hSw
                    clear hSw
                    go_simp
                    try with_reducible rfl
                  change wpAnyH _ _ _ _ _ _ _ (⟨#[_,_,_,_,_,_,_,_,_,_,_,_,_,_,_,_,_,_,_,_,_,_,_,_,_,_,_,_,_,_,_,_,_,_,_,_,_,_,_,_,_,_,_,_,_,_,_,_,_,_,_,_,_,_,_,_,_,_,_,_,_,_,_,_,_,_,_,_,_,_,_,_,_,_,_,_], _⟩ : Act) _
                  refine wpAnyH_ready (rs := [19]) (by kernel_rfl) (by simp) ?_
                  refine AllReadyH.cons rfl (fun K hK => ?_) AllReadyH.nil
                  obtain ⟨x0, x1, xf⟩ := dir_cells HP.out.1
                  have xf0 := xf 0
                  clear xf
                  go_simp
                  refine hK.out _ _ ((TS2.set HP.out.1 hHeld.2.2.out hgE _).full HRC.out HCU.out) (fun hHeld => ?_)
                  clear hK K
                  change wpAnyH _ _ _ _ _ _ _ (⟨#[_,_,_,_,_,_,_,_,_,_,_,_,_,_,_,_,_,_,_,_,_,_,_,_,_,_,_,_,_,_,_,_,_,_,_,_,_,_,_,_,_,_,_,_,_,_,_,_,_,_,_,_,_,_,_,_,_,_,_,_,_,_,_,_,_,_,_,_,_,_,_,_,_,_,_,_], _⟩ : Act) _
                  refine wpAnyH_done (by kernel_rfl) ?_ _
                  refine NoPanic.normal ?_
                  go_wp2
                  go_ret
                  exact HFIN.out _ _ _ HP.out.2.1 hHeld.2.2.out.ts.below hHeld.2.2.out.ts.keep _ rfl
                · go_simp
                  have HDb : Hid (DirX (w9.alloc (.cells #[.string X, .slice na9 r.length nc9, .int .i64 (a : Int)] 54)) E ls blk lv wvs) := DirX.below HD9.out ((Below.refl _ w9).alloc (Nat.le_refl _) _) (Nat.le_refl _)
                  have HWb : Hid (OwnW (w9.alloc (.cells #[.string X, .slice na9 r.length nc9, .int .i64 (a : Int)] 54)) 0 (.slice na9 r.length nc9) r) := ownW_below HW9.out ((Below.refl _ w9).alloc (Nat.le_refl _) _) (Nat.le_refl _)
                  refine hK.out _ _ ((hHeld.2.2.out.alloc _).full HRC.out HCU.out) (fun hHeld => ?_)
                  clear hK K
                  change wpAnyH _ _ _ _ _ _ _ (⟨#[_,_,_,_,_,_,_,_,_,_,_,_,_,_,_,_,_,_,_,_,_,_,_,_,_,_,_,_,_,_,_,_,_,_,_,_,_,_,_,_,_,_,_,_,_,_,_,_,_,_,_,_,_,_,_,_,_,_,_,_,_,_,_,_,_,_,_,_,_,_,_,_,_,_,_,_], _⟩ : Act) _
                  refine wpAnyH_ready (rs := [4]) (by kernel_rfl) (by simp) ?_
                  refine AllReadyH.cons rfl (fun K hK => ?_) AllReadyH.nil
                  have e0 := (dir_cells HDb.out.box).1
                  go_simp
                  refine hK.out _ _ hHeld (fun hHeld => ?_)
                  clear hK K e0
                  change wpAnyH _ _ _ _ _ _ _ (⟨#[_,_,_,_,_,_,_,_,_,_,_,_,_,_,_,_,_,_,_,_,_,_,_,_,_,_,_,_,_,_,_,_,_,_,_,_,_,_,_,_,_,_,_,_,_,_,_,_,_,_,_,_,_,_,_,_,_,_,_,_,_,_,_,_,_,_,_,_,_,_,_,_,_,_,_,_], _⟩ : Act) _
                  refine wpAnyH_ready (rs := [16]) (by kernel_rfl) (by simp) ?_
                  refine AllReadyH.cons rfl (fun K hK => ?_) AllReadyH.nil
                  refine step_append_own rfl _ _ 48 rfl (E + 1) 54 i0 (.agg #[.string .empty, .slice none 0 0, .int .i64 0]) 3 48 Tryz.underlying48 hi hz0 hz1 hz2 rfl (by decide) lv ls.length (flatL ls wvs) rfl HDb.out.own ⟨w9.heap.size, 0, none⟩ 1 1 [.string X, .slice na9 r.length nc9, .int .i64 (a : Int)] (by rfl) rfl (cellL_new _ _ _ _) (oneL _ _ _ _ _) HM1.out HM2.out hHeld.2.2.out.ts.room ?_
                  intro v' w10 hown' hgrow
                  have hown2 := hown'
                  rw [HXX.out] at hown2
                  obtain ⟨pa, pb, pc⟩ := DirX.push (l := (x, r, a)) HDb.out HWb.out hown2 hgrow
                  obtain ⟨na, nc, hv'⟩ := isSlice_of hown'
                  subst hv'
                  have HP := hidM (And.intro pa (And.intro pb pc))
                  clear pa pb pc hown' hown2
                  refine hK.out _ _ ((hHeld.2.2.out.grow hgrow HDb.out).full HRC.out HCU.out) (fun hHeld => ?_)
                  clear hK K hgrow
                  change wpAnyH _ _ _ _ _ _ _ (⟨#[_,_,_,_,_,_,_,_,_,_,_,_,_,_,_,_,_,_,_,_,_,_,_,_,_,_,_,_,_,_,_,_,_,_,_,_,_,_,_,_,_,_,_,_,_,_,_,_,_,_,_,_,_,_,_,_,_,_,_,_,_,_,_,_,_,_,_,_,_,_,_,_,_,_,_,_], _⟩ : Act) _
                  refine wpAnyH_take (i := 17) (v := ?_) rfl (by kernel_rfl) (by kernel_rfl) (by kernel_rfl) (fun _ _ _ h => h) (Or.inl ⟨by kernel_rfl, ?_⟩) (by assumption) ?_
                  rotate_left
                  · intro w hSw
                    clear hSw
                    go_simp
                    try with_reducible rfl
                  change wpAnyH _ _ _ _ _ _ _ (⟨#[_,_,_,_,_,_,_,_,_,_,_,_,_,_,_,_,_,_,_,_,_,_,_,_,_,_,_,_,_,_,_,_,_,_,_,_,_,_,_,_,_,_,_,_,_,_,_,_,_,_,_,_,_,_,_,_,_,_,_,_,_,_,_,_,_,_,_,_,_,_,_,_,_,_,_,_], _⟩ : Act) _
                  refine wpAnyH_take (i := 18) (v := ?_) rfl (by kernel_rfl) (by kernel_rfl) (by kernel_rfl) (fun _ _ _ h => h) (Or.inl ⟨by kernel_rfl, ?_⟩) (by assumption) ?_
                  rotate_left
                  · intro w hSw
                    clear hSw
                    go_simp
                    try with_reducible rfl
                  change wpAnyH _ _ _ _ _ _ _ (⟨#[_,_,_,_,_,_,_,_,_,_,_,_,_,_,_,_,_,_,_,_,_,_,_,_,_,_,_,_,_,_,_,_,_,_,_,_,_,_,_,_,_,_,_,_,_,_,_,_,_,_,_,_,_,_,_,_,_,_,_,_,_,_,_,_,_,_,_,_,_,_,_,_,_,_,_,_], _⟩ : Act) _
                  refine wpAnyH_ready (rs := [19]) (by kernel_rfl) (by simp) ?_
                  refine AllReadyH.cons rfl (fun K hK => ?_) AllReadyH.nil
                  obtain ⟨x0, x1, xf⟩ := dir_cells HP.out.1
                  have xf0 := xf 0
                  clear xf
                  go_simp
                  refine hK.out _ _ ((TS2.set HP.out.1 hHeld.2.2.out hgE _).full HRC.out HCU.out) (fun hHeld => ?_)
                  clear hK K
                  change wpAnyH _ _ _ _ _ _ _ (⟨#[_,_,_,_,_,_,_,_,_,_,_,_,_,_,_,_,_,_,_,_,_,_,_,_,_,_,_,_,_,_,_,_,_,_,_,_,_,_,_,_,_,_,_,_,_,_,_,_,_,_,_,_,_,_,_,_,_,_,_,_,_,_,_,_,_,_,_,_,_,_,_,_,_,_,_,_], _⟩ : Act) _
                  refine wpAnyH_done (by kernel_rfl) ?_ _
                  refine NoPanic.normal ?_
                  go_wp2
                  go_ret
                  exact HFIN.out _ _ _ HP.out.2.1 hHeld.2.2.out.ts.below hHeld.2.2.out.ts.keep _ rfl

      · have h3 : B.toList.isEmpty = false := by
          rw [HBL.out]
          cases blk with
          | nil => exact absurd rfl hb0
          | cons _ _ => rfl
        have HFIN : Hid (∀ V lv' wvs', DirX V E (ls ++ [(blk, x :: r, a)]) blk lv' wvs' → Below E w V → Keep49 w V → ∀ e, e = .returned (.bool true) → TakePost E ls blk (x :: r) 0 a w e V) := by
          rintro V lv' wvs' h1 h2 h5 e rfl
          unfold TakePost takeD
          simp [hb0]
          exact ⟨⟨lv', wvs', h1⟩, h2, h5⟩
        clear hb0
        obtain rfl : kI = 0 := HKI.out
        go_enter Tryz.func57, Tryz.ntmps57
        go_upto_block 0 with fail
        rw [HE1.out]

        go_upto_region 8 with fail
        refine wp_region_noPanic ?_
        refine wp_region_held_drew (S := (fun w' => w'.cell? ⟨E, 1, none⟩ = some (.string B) ∧ w'.cell? ⟨w.heap.size, 0, none⟩ = some (.slice wa wl wc) ∧ Hid (TS w E w.heap.size rc w'))) (by kernel_rfl) ?_ (fun hHeld => ?_)
        · exact ⟨d1, r0, HS1.out⟩
        refine wpAnyH_take (i := 0) (v := ?_) rfl (by kernel_rfl) (by kernel_rfl) (by kernel_rfl) (fun _ _ _ h => h) (Or.inl ⟨by kernel_rfl, ?_⟩) (by assumption) ?_
        rotate_left
        · intro w hSw
          clear hSw
          go_simp
          try with_reducible rfl
        change wpAnyH _ _ _ _ _ _ _ (⟨#[_,_,_,_,_,_,_,_,_,_,_,_,_,_,_,_,_,_,_,_,_,_,_,_,_,_,_,_,_,_,_,_,_,_,_,_,_,_,_,_,_,_,_,_,_,_,_,_,_,_,_,_,_,_,_,_,_,_,_,_,_,_,_,_,_,_,_,_,_,_,_,_,_,_,_,_], _⟩ : Act) _
        refine wpAnyH_take (i := 1) (v := ?_) rfl (by kernel_rfl) (by kernel_rfl) (by kernel_rfl) (fun _ _ _ h => h) (Or.inl ⟨by kernel_rfl, ?_⟩) (by assumption) ?_
        rotate_left
        · intro w hSw
          clear hSw
          go_simp
          try with_reducible rfl
        change wpAnyH _ _ _ _ _ _ _ (⟨#[_,_,_,_,_,_,_,_,_,_,_,_,_,_,_,_,_,_,_,_,_,_,_,_,_,_,_,_,_,_,_,_,_,_,_,_,_,_,_,_,_,_,_,_,_,_,_,_,_,_,_,_,_,_,_,_,_,_,_,_,_,_,_,_,_,_,_,_,_,_,_,_,_,_,_,_], _⟩ : Act) _
        refine wpAnyH_take (i := 2) (v := ?_) rfl (by kernel_rfl) (by kernel_rfl) (by kernel_rfl) (fun _ _ _ h => h) (Or.inl ⟨by kernel_rfl, ?_⟩) (by assumption) ?_
        rotate_left
        · intro w hSw
          clear hSw
          go_simp
          try with_reducible rfl
        change wpAnyH _ _ _ _ _ _ _ (⟨#[_,_,_,_,_,_,_,_,_,_,_,_,_,_,_,_,_,_,_,_,_,_,_,_,_,_,_,_,_,_,_,_,_,_,_,_,_,_,_,_,_,_,_,_,_,_,_,_,_,_,_,_,_,_,_,_,_,_,_,_,_,_,_,_,_,_,_,_,_,_,_,_,_,_,_,_], _⟩ : Act) _
        refine wpAnyH_take (i := 3) (v := ?_) rfl (by kernel_rfl) (by kernel_rfl) (by kernel_rfl) (fun _ _ _ h => h) (Or.inl ⟨by kernel_rfl, ?_⟩) (by assumption) ?_
        rotate_left
        · intro w hSw
          clear hSw
          go_simp
          try with_reducible rfl
        change wpAnyH _ _ _ _ _ _ _ (⟨#[_,_,_,_,_,_,_,_,_,_,_,_,_,_,_,_,_,_,_,_,_,_,_,_,_,_,_,_,_,_,_,_,_,_,_,_,_,_,_,_,_,_,_,_,_,_,_,_,_,_,_,_,_,_,_,_,_,_,_,_,_,_,_,_,_,_,_,_,_,_,_,_,_,_,_,_], _⟩ : Act) _
        refine wpAnyH_take (i := 5) (v := ?_) rfl (by kernel_rfl) (by kernel_rfl) (by kernel_rfl) (fun _ _ _ h => h) (Or.inl ⟨by kernel_rfl, ?_⟩) (by assumption) ?_
        rotate_left
        · intro w hSw
          clear hSw
          go_simp
          try with_reducible rfl
        change wpAnyH _ _ _ _ _ _ _ (⟨#[_,_,_,_,_,_,_,_,_,_,_,_,_,_,_,_,_,_,_,_,_,_,_,_,_,_,_,_,_,_,_,_,_,_,_,_,_,_,_,_,_,_,_,_,_,_,_,_,_,_,_,_,_,_,_,_,_,_,_,_,_,_,_,_,_,_,_,_,_,_,_,_,_,_,_,_], _⟩ : Act) _
        refine wpAnyH_take (i := 6) (v := ?_) rfl (by kernel_rfl) (by kernel_rfl) (by kernel_rfl) (fun _ _ _ h => h) (Or.inl ⟨by kernel_rfl, ?_⟩) (by assumption) ?_
        rotate_left
        · intro w hSw
          clear hSw
          go_simp
          try with_reducible rfl
        change wpAnyH _ _ _ _ _ _ _ (⟨#[_,_,_,_,_,_,_,_,_,_,_,_,_,_,_,_,_,_,_,_,_,_,_,_,_,_,_,_,_,_,_,_,_,_,_,_,_,_,_,_,_,_,_,_,_,_,_,_,_,_,_,_,_,_,_,_,_,_,_,_,_,_,_,_,_,_,_,_,_,_,_,_,_,_,_,_], _⟩ : Act) _
        refine wpAnyH_take (i := 7) (v := ?_) rfl (by kernel_rfl) (by kernel_rfl) (by kernel_rfl) (fun _ _ _ h => h) (Or.inl ⟨by kernel_rfl, ?_⟩) (by assumption) ?_
        rotate_left
        · intro w hSw
          clear hSw
          go_simp
          try with_reducible rfl
        change wpAnyH _ _ _ _ _ _ _ (⟨#[_,_,_,_,_,_,_,_,_,_,_,_,_,_,_,_,_,_,_,_,_,_,_,_,_,_,_,_,_,_,_,_,_,_,_,_,_,_,_,_,_,_,_,_,_,_,_,_,_,_,_,_,_,_,_,_,_,_,_,_,_,_,_,_,_,_,_,_,_,_,_,_,_,_,_,_], _⟩ : Act) _
        refine wpAnyH_take (i := 8) (v := ?_) rfl (by kernel_rfl) (by kernel_rfl) (by kernel_rfl) (fun _ _ _ h => h) (Or.inl ⟨by kernel_rfl, ?_⟩) (by assumption) ?_
        rotate_left
        · intro w hSw
          obtain ⟨c2, c3, _⟩ := hSw
          go_simp
          try with_reducible rfl
        change wpAnyH _ _ _ _ _ _ _ (⟨#[_,_,_,_,_,_,_,_,_,_,_,_,_,_,_,_,_,_,_,_,_,_,_,_,_,_,_,_,_,_,_,_,_,_,_,_,_,_,_,_,_,_,_,_,_,_,_,_,_,_,_,_,_,_,_,_,_,_,_,_,_,_,_,_,_,_,_,_,_,_,_,_,_,_,_,_], _⟩ : Act) _
        refine wpAnyH_take (i := 9) (v := ?_) rfl (by kernel_rfl) (by kernel_rfl) (by kernel_rfl) (fun _ _ _ h => h) (Or.inl ⟨by kernel_rfl, ?_⟩) (by assumption) ?_
        rotate_left
        · intro w hSw
          clear hSw
          go_simp
          try with_reducible rfl
        change wpAnyH _ _ _ _ _ _ _ (⟨#[_,_,_,_,_,_,_,_,_,_,_,_,_,_,_,_,_,_,_,_,_,_,_,_,_,_,_,_,_,_,_,_,_,_,_,_,_,_,_,_,_,_,_,_,_,_,_,_,_,_,_,_,_,_,_,_,_,_,_,_,_,_,_,_,_,_,_,_,_,_,_,_,_,_,_,_], _⟩ : Act) _
        refine wpAnyH_take (i := 10) (v := ?_) rfl (by kernel_rfl) (by kernel_rfl) (by kernel_rfl) (fun _ _ _ h => h) (Or.inl ⟨by kernel_rfl, ?_⟩) (by assumption) ?_
        rotate_left
        · intro w hSw
          obtain ⟨c2, c3, _⟩ := hSw
          go_simp
          try with_reducible rfl
        change wpAnyH _ _ _ _ _ _ _ (⟨#[_,_,_,_,_,_,_,_,_,_,_,_,_,_,_,_,_,_,_,_,_,_,_,_,_,_,_,_,_,_,_,_,_,_,_,_,_,_,_,_,_,_,_,_,_,_,_,_,_,_,_,_,_,_,_,_,_,_,_,_,_,_,_,_,_,_,_,_,_,_,_,_,_,_,_,_], _⟩ : Act) _
        refine wpAnyH_take (i := 11) (v := ?_) rfl (by kernel_rfl) (by kernel_rfl) (by kernel_rfl) (fun _ _ _ h => h) (Or.inl ⟨by kernel_rfl, ?_⟩) (by assumption) ?_
        rotate_left
        · intro w hSw
          clear hSw
          go_simp
          try with_reducible rfl
        change wpAnyH _ _ _ _ _ _ _ (⟨#[_,_,_,_,_,_,_,_,_,_,_,_,_,_,_,_,_,_,_,_,_,_,_,_,_,_,_,_,_,_,_,_,_,_,_,_,_,_,_,_,_,_,_,_,_,_,_,_,_,_,_,_,_,_,_,_,_,_,_,_,_,_,_,_,_,_,_,_,_,_,_,_,_,_,_,_], _⟩ : Act) _
        refine wpAnyH_take (i := 12) (v := ?_) rfl (by kernel_rfl) (by kernel_rfl) (by kernel_rfl) (fun _ _ _ h => h) (Or.inl ⟨by kernel_rfl, ?_⟩) (by assumption) ?_
        rotate_left
        · intro w hSw
          clear hSw
          go_simp
          try with_reducible rfl
        change wpAnyH _ _ _ _ _ _ _ (⟨#[_,_,_,_,_,_,_,_,_,_,_,_,_,_,_,_,_,_,_,_,_,_,_,_,_,_,_,_,_,_,_,_,_,_,_,_,_,_,_,_,_,_,_,_,_,_,_,_,_,_,_,_,_,_,_,_,_,_,_,_,_,_,_,_,_,_,_,_,_,_,_,_,_,_,_,_], _⟩ : Act) _
        refine wpAnyH_ready (rs := [4, 13]) (by kernel_rfl) (by simp) ?_
        refine AllReadyH.cons rfl (fun K hK => ?_) (AllReadyH.cons rfl (fun K hK => ?_) (AllReadyH.nil))
        · have e0 := (dir_cells HD1.out.box).1
          go_simp
          refine hK.out _ _ hHeld (fun hHeld => ?_)
          clear hK K e0
          change wpAnyH _ _ _ _ _ _ _ (⟨#[_,_,_,_,_,_,_,_,_,_,_,_,_,_,_,_,_,_,_,_,_,_,_,_,_,_,_,_,_,_,_,_,_,_,_,_,_,_,_,_,_,_,_,_,_,_,_,_,_,_,_,_,_,_,_,_,_,_,_,_,_,_,_,_,_,_,_,_,_,_,_,_,_,_,_,_], _⟩ : Act) _
          refine wpAnyH_ready (rs := [13]) (by kernel_rfl) (by simp) ?_
          refine AllReadyH.cons rfl (fun K hK => ?_) AllReadyH.nil
          go_simp
          have HD2 : Hid (DirX (W1.alloc (.cells #[.string B, .slice wa wl wc, .int .i64 (a : Int)] 54)).drew E ls blk lv wvs) := DirX.allocD (V := W1) HD1.out rfl _
          have HW2 : Hid (OwnW (W1.alloc (.cells #[.string B, .slice wa wl wc, .int .i64 (a : Int)] 54)).drew 0 (.slice wa wl wc) (x :: r)) := ownW_allocD (V := W1) HW1.out rfl _
          refine hK.out _ _ (S8_alloc hHeld _) (fun hHeld => ?_)
          clear hK K
          change wpAnyH _ _ _ _ _ _ _ (⟨#[_,_,_,_,_,_,_,_,_,_,_,_,_,_,_,_,_,_,_,_,_,_,_,_,_,_,_,_,_,_,_,_,_,_,_,_,_,_,_,_,_,_,_,_,_,_,_,_,_,_,_,_,_,_,_,_,_,_,_,_,_,_,_,_,_,_,_,_,_,_,_,_,_,_,_,_], _⟩ : Act) _
          refine wpAnyH_ready (rs := [14]) (by kernel_rfl) (by simp) ?_
          refine AllReadyH.cons rfl (fun K hK => ?_) AllReadyH.nil
          refine step_append_own rfl _ _ 48 rfl (E + 1) 54 i0 (.agg #[.string .empty, .slice none 0 0, .int .i64 0]) 3 48 Tryz.underlying48 hi hz0 hz1 hz2 rfl (by decide) lv ls.length (flatL ls wvs) rfl HD2.out.own ⟨W1.heap.size, 0, none⟩ 1 1 [.string B, .slice wa wl wc, .int .i64 (a : Int)] (by rfl) rfl (cellL_new _ _ _ _) (oneL _ _ _ _ _) HM1.out HM2.out hHeld.2.2.out.room ?_
          intro v' w10 hown' hgrow
          have hown2 := hown'
          rw [HBB.out] at hown2
          obtain ⟨pa, pb, pc⟩ := DirX.push (l := (blk, x :: r, a)) HD2.out HW2.out hown2 hgrow
          obtain ⟨na, nc, hv'⟩ := isSlice_of hown'
          subst hv'
          have HP := hidM (And.intro pa (And.intro pb pc))
          clear pa pb pc hown' hown2
          refine hK.out _ _ (S8_grow hHeld hgrow HD2.out) (fun hHeld => ?_)
          clear hK K hgrow
          change wpAnyH _ _ _ _ _ _ _ (⟨#[_,_,_,_,_,_,_,_,_,_,_,_,_,_,_,_,_,_,_,_,_,_,_,_,_,_,_,_,_,_,_,_,_,_,_,_,_,_,_,_,_,_,_,_,_,_,_,_,_,_,_,_,_,_,_,_,_,_,_,_,_,_,_,_,_,_,_,_,_,_,_,_,_,_,_,_], _⟩ : Act) _
          refine wpAnyH_take (i := 15) (v := ?_) rfl (by kernel_rfl) (by kernel_rfl) (by kernel_rfl) (fun _ _ _ h => h) (Or.inl ⟨by kernel_rfl, ?_⟩) (by assumption) ?_
          rotate_left
          · intro w hSw
            clear hSw
            go_simp
            try with_reducible rfl
          change wpAnyH _ _ _ _ _ _ _ (⟨#[_,_,_,_,_,_,_,_,_,_,_,_,_,_,_,_,_,_,_,_,_,_,_,_,_,_,_,_,_,_,_,_,_,_,_,_,_,_,_,_,_,_,_,_,_,_,_,_,_,_,_,_,_,_,_,_,_,_,_,_,_,_,_,_,_,_,_,_,_,_,_,_,_,_,_,_], _⟩ : Act) _
          refine wpAnyH_take (i := 16) (v := ?_) rfl (by kernel_rfl) (by kernel_rfl) (by kernel_rfl) (fun _ _ _ h => h) (Or.inl ⟨by kernel_rfl, ?_⟩) (by assumption) ?_
          rotate_left
          · intro w hSw
            clear hSw
            go_simp
            try with_reducible rfl
          change wpAnyH _ _ _ _ _ _ _ (⟨#[_,_,_,_,_,_,_,_,_,_,_,_,_,_,_,_,_,_,_,_,_,_,_,_,_,_,_,_,_,_,_,_,_,_,_,_,_,_,_,_,_,_,_,_,_,_,_,_,_,_,_,_,_,_,_,_,_,_,_,_,_,_,_,_,_,_,_,_,_,_,_,_,_,_,_,_], _⟩ : Act) _
          refine wpAnyH_ready (rs := [17]) (by kernel_rfl) (by simp) ?_
          refine AllReadyH.cons rfl (fun K hK => ?_) AllReadyH.nil
          obtain ⟨x0, x1, xf⟩ := dir_cells HP.out.1
          have xf0 := xf 0
          clear xf
          go_simp
          refine hK.out _ _ (S8_set HP.out.1 hHeld _) (fun hHeld => ?_)
          clear hK K
          change wpAnyH _ _ _ _ _ _ _ (⟨#[_,_,_,_,_,_,_,_,_,_,_,_,_,_,_,_,_,_,_,_,_,_,_,_,_,_,_,_,_,_,_,_,_,_,_,_,_,_,_,_,_,_,_,_,_,_,_,_,_,_,_,_,_,_,_,_,_,_,_,_,_,_,_,_,_,_,_,_,_,_,_,_,_,_,_,_], _⟩ : Act) _
          refine wpAnyH_done (by kernel_rfl) ?_ _
          refine NoPanic.normal ?_
          go_wp2
          go_ret
          exact HFIN.out _ _ _ HP.out.2.1 hHeld.2.2.out.below hHeld.2.2.out.keep _ rfl
        · go_simp
          have HD2 : Hid (DirX (W1.alloc (.cells #[.string B, .slice wa wl wc, .int .i64 (a : Int)] 54)).drew E ls blk lv wvs) := DirX.allocD (V := W1) HD1.out rfl _
          have HW2 : Hid (OwnW (W1.alloc (.cells #[.string B, .slice wa wl wc, .int .i64 (a : Int)] 54)).drew 0 (.slice wa wl wc) (x :: r)) := ownW_allocD (V := W1) HW1.out rfl _
          refine hK.out _ _ (S8_alloc hHeld _) (fun hHeld => ?_)
          clear hK K
          change wpAnyH _ _ _ _ _ _ _ (⟨#[_,_,_,_,_,_,_,_,_,_,_,_,_,_,_,_,_,_,_,_,_,_,_,_,_,_,_,_,_,_,_,_,_,_,_,_,_,_,_,_,_,_,_,_,_,_,_,_,_,_,_,_,_,_,_,_,_,_,_,_,_,_,_,_,_,_,_,_,_,_,_,_,_,_,_,_], _⟩ : Act) _
          refine wpAnyH_ready (rs := [4]) (by kernel_rfl) (by simp) ?_
          refine AllReadyH.cons rfl (fun K hK => ?_) AllReadyH.nil
          have e0 := (dir_cells HD2.out.box).1
          go_simp
          refine hK.out _ _ hHeld (fun hHeld => ?_)
          clear hK K e0
          change wpAnyH _ _ _ _ _ _ _ (⟨#[_,_,_,_,_,_,_,_,_,_,_,_,_,_,_,_,_,_,_,_,_,_,_,_,_,_,_,_,_,_,_,_,_,_,_,_,_,_,_,_,_,_,_,_,_,_,_,_,_,_,_,_,_,_,_,_,_,_,_,_,_,_,_,_,_,_,_,_,_,_,_,_,_,_,_,_], _⟩ : Act) _
          refine wpAnyH_ready (rs := [14]) (by kernel_rfl) (by simp) ?_
          refine AllReadyH.cons rfl (fun K hK => ?_) AllReadyH.nil
          refine step_append_own rfl _ _ 48 rfl (E + 1) 54 i0 (.agg #[.string .empty, .slice none 0 0, .int .i64 0]) 3 48 Tryz.underlying48 hi hz0 hz1 hz2 rfl (by decide) lv ls.length (flatL ls wvs) rfl HD2.out.own ⟨W1.heap.size, 0, none⟩ 1 1 [.string B, .slice wa wl wc, .int .i64 (a : Int)] (by rfl) rfl (cellL_new _ _ _ _) (oneL _ _ _ _ _) HM1.out HM2.out hHeld.2.2.out.room ?_
          intro v' w10 hown' hgrow
          have hown2 := hown'
          rw [HBB.out] at hown2
          obtain ⟨pa, pb, pc⟩ := DirX.push (l := (blk, x :: r, a)) HD2.out HW2.out hown2 hgrow
          obtain ⟨na, nc, hv'⟩ := isSlice_of hown'
          subst hv'
          have HP := hidM (And.intro pa (And.intro pb pc))
          clear pa pb pc hown' hown2
          refine hK.out _ _ (S8_grow hHeld hgrow HD2.out) (fun hHeld => ?_)
          clear hK K hgrow
          change wpAnyH _ _ _ _ _ _ _ (⟨#[_,_,_,_,_,_,_,_,_,_,_,_,_,_,_,_,_,_,_,_,_,_,_,_,_,_,_,_,_,_,_,_,_,_,_,_,_,_,_,_,_,_,_,_,_,_,_,_,_,_,_,_,_,_,_,_,_,_,_,_,_,_,_,_,_,_,_,_,_,_,_,_,_,_,_,_], _⟩ : Act) _
          refine wpAnyH_take (i := 15) (v := ?_) rfl (by kernel_rfl) (by kernel_rfl) (by kernel_rfl) (fun _ _ _ h => h) (Or.inl ⟨by kernel_rfl, ?_⟩) (by assumption) ?_
          rotate_left
          · intro w hSw
            clear hSw
            go_simp
            try with_reducible rfl
          change wpAnyH _ _ _ _ _ _ _ (⟨#[_,_,_,_,_,_,_,_,_,_,_,_,_,_,_,_,_,_,_,_,_,_,_,_,_,_,_,_,_,_,_,_,_,_,_,_,_,_,_,_,_,_,_,_,_,_,_,_,_,_,_,_,_,_,_,_,_,_,_,_,_,_,_,_,_,_,_,_,_,_,_,_,_,_,_,_], _⟩ : Act) _
          refine wpAnyH_take (i := 16) (v := ?_) rfl (by kernel_rfl) (by kernel_rfl) (by kernel_rfl) (fun _ _ _ h => h) (Or.inl ⟨by kernel_rfl, ?_⟩) (by assumption) ?_
          rotate_left
          · intro w hSw
            clear hSw
            go_simp
            try with_reducible rfl
          change wpAnyH _ _ _ _ _ _ _ (⟨#[_,_,_,_,_,_,_,_,_,_,_,_,_,_,_,_,_,_,_,_,_,_,_,_,_,_,_,_,_,_,_,_,_,_,_,_,_,_,_,_,_,_,_,_,_,_,_,_,_,_,_,_,_,_,_,_,_,_,_,_,_,_,_,_,_,_,_,_,_,_,_,_,_,_,_,_], _⟩ : Act) _
          refine wpAnyH_ready (rs := [17]) (by kernel_rfl) (by simp) ?_
          refine AllReadyH.cons rfl (fun K hK => ?_) AllReadyH.nil
          obtain ⟨x0, x1, xf⟩ := dir_cells HP.out.1
          have xf0 := xf 0
          clear xf
          go_simp
          refine hK.out _ _ (S8_set HP.out.1 hHeld _) (fun hHeld => ?_)
          clear hK K
          change wpAnyH _ _ _ _ _ _ _ (⟨#[_,_,_,_,_,_,_,_,_,_,_,_,_,_,_,_,_,_,_,_,_,_,_,_,_,_,_,_,_,_,_,_,_,_,_,_,_,_,_,_,_,_,_,_,_,_,_,_,_,_,_,_,_,_,_,_,_,_,_,_,_,_,_,_,_,_,_,_,_,_,_,_,_,_,_,_], _⟩ : Act) _
          refine wpAnyH_done (by kernel_rfl) ?_ _
          refine NoPanic.normal ?_
          go_wp2
          go_ret
          exact HFIN.out _ _ _ HP.out.2.1 hHeld.2.2.out.below hHeld.2.2.out.keep _ rfl

  · by_cases hc : blk = [] ∧ ws.length = 1
    · obtain ⟨hb0, hl⟩ := hc
      obtain ⟨x, rfl⟩ := List.length_eq_one_iff.1 hl
      have HOP := hidM (open_yes E lv _ B x W1 HX1.out HW1.out (by rw [HBL.out]; exact hb0))
      have HP : Hid (∀ e V, e = .returned (.bool (decide (x ≠ []))) → V = W1.setCell ⟨E, 1, none⟩ (strV x) → TakePost E ls blk [x] 3 a w e V) := by
        rintro e V rfl rfl
        unfold TakePost takeD
        have hbl : Below E w (W1.setCell ⟨E, 1, none⟩ (strV x)) := Below.setCell (p := ⟨E, 1, none⟩) HBE.out (Nat.le_refl _) _
        by_cases hx : x = []
        · simp [hx]; rw [← hx]; exact hbl
        · simp [hx, hb0]
          exact ⟨⟨lv, wvs, HD1.out.blk x⟩, hbl, HKP.out.trans (Keep49.set HX1.out _ _)⟩
      obtain rfl : wl = 1 := HWL.out
      clear hl
      generalize decide (x ≠ []) = rr at HOP HP
      obtain rfl : kI = 3 := HKI.out
      go_enter Tryz.func57, Tryz.ntmps57
      go_upto_block 0 with fail
      rw [HE1.out]

      go_wp2_with fail
      refine HOP.out.mono ?_
      rintro _ w2 ⟨rfl, h2⟩
      have HW2 := hidM h2
      clear h2
      go_wp2
      go_ret
      exact HP.out _ _ rfl HW2.out
    · have HOP := hidM (open_no E lv _ B ws W1 HX1.out HW1.out (by rw [HBL.out]; rcases Classical.not_and_iff_not_or_not.1 hc with h | h <;> simp [h]))
      have HP : Hid (∀ e V, e = .returned (.bool false) → V = W1 → TakePost E ls blk ws 3 a w e V) := by
        rintro e V rfl rfl
        have ht : takeD blk ws 3 a = none := by
          unfold takeD
          simp only [if_true]
          split
          · rename_i x
            rw [if_neg]
            rintro ⟨h1, _⟩
            exact hc ⟨h1, rfl⟩
          · rfl
        unfold TakePost
        rw [ht]
        exact ⟨rfl, HBE.out⟩
      obtain rfl : kI = 3 := HKI.out
      go_enter Tryz.func57, Tryz.ntmps57
      go_upto_block 0 with fail
      rw [HE1.out]

      go_wp2_with fail
      refine HOP.out.mono ?_
      rintro _ w2 ⟨rfl, h2⟩
      have HW2 := hidM h2
      clear h2
      go_wp2
      go_ret
      exact HP.out _ _ rfl HW2.out
  · by_cases hc : blk ≠ [] ∧ ws = []
    · obtain ⟨hb0, rfl⟩ := hc
      have HOP := hidM (shut_yes E lv _ B W1 HX1.out HW1.out (by rw [HBL.out]; exact hb0))
      have HP : Hid (∀ e V, e = .returned (.bool true) → V = W1.setCell ⟨E, 1, none⟩ (.string ⟨#[]⟩) → TakePost E ls blk [] 4 a w e V) := by
        rintro e V rfl rfl
        unfold TakePost takeD
        have hbl : Below E w (W1.setCell ⟨E, 1, none⟩ (.string ⟨#[]⟩)) := Below.setCell (p := ⟨E, 1, none⟩) HBE.out (Nat.le_refl _) _
        simp [hb0]
        exact ⟨⟨lv, wvs, HD1.out.blk []⟩, hbl, HKP.out.trans (Keep49.set HX1.out _ _)⟩
      obtain rfl : wl = 0 := HWL.out
      obtain rfl : kI = 4 := HKI.out
      go_enter Tryz.func57, Tryz.ntmps57
      go_upto_block 0 with fail
      rw [HE1.out]

      go_wp2_with fail
      refine HOP.out.mono ?_
      rintro _ w2 ⟨rfl, h2⟩
      have HW2 := hidM h2
      clear h2
      go_wp2
      go_ret
      exact HP.out _ _ rfl HW2.out
    · have HOP := hidM (shut_no E lv _ B ws W1 HX1.out HW1.out (by
        rw [HBL.out]
        by_cases h : blk = []
        · exact .inl h
        · refine .inr ?_
          intro h2
          exact hc ⟨h, List.eq_nil_of_length_eq_zero h2⟩))
      have HP : Hid (∀ e V, e = .returned (.bool false) → V = W1 → TakePost E ls blk ws 4 a w e V) := by
        rintro e V rfl rfl
        have ht : takeD blk ws 4 a = none := by
          unfold takeD
          rw [if_neg (by decide), if_pos rfl, if_neg hc]
        unfold TakePost
        rw [ht]
        exact ⟨rfl, HBE.out⟩
      obtain rfl : kI = 4 := HKI.out
      go_enter Tryz.func57, Tryz.ntmps57
      go_upto_block 0 with fail
      rw [HE1.out]

      go_wp2_with fail
      refine HOP.out.mono ?_
      rintro _ w2 ⟨rfl, h2⟩
      have HW2 := hidM h2
      clear h2
      go_wp2
      go_ret
      exact HP.out _ _ rfl HW2.out
end Go.Proofs.YtmhjdahmmdfbcaaGreatDoor.M
namespace Go.Proofs.YtmhjdahmmdfbcaaGreatDoor.M
open Go.RowKit
theorem row_words : ∀ (f : Nat) (l : List UInt8) ws b r, l.length < f → rowG f l ws b = some r → r.1.length ≤ ws.length + l.length ∧ (r.2.1 = b ∨ r.2.1 = 3 ∨ r.2.1 = 4)
  | 0, l, _,_,_, h, _ => absurd h (by omega)
  | f + 1, l, ws, b, r, hf, h => by
    rw [rowG] at h
    split at h
    · simp at h; subst h; exact ⟨by simp, .inl rfl⟩
    · rename_i h1
      split at h
      · simp at h; subst h; exact ⟨by simp, .inl rfl⟩
      · rename_i h2
        split at h
        · simp at h
        · rename_i h6
          have hl := tok_less h1 (by omega)
          have hk := tok_kind l
          split at h
          · obtain ⟨i1, i2⟩ := row_words f _ _ _ r (by omega) h
            exact ⟨by simp at i1; omega, i2⟩
          · obtain ⟨i1, i2⟩ := row_words f _ _ _ r (by omega) h
            exact ⟨by omega, by omega⟩
/-- directives that lie in memory from 'base' on -/
def LinesAt (w : World) (base : Nat) (lv : Value) (ls : List Ln) : Prop :=
  ∃ wvs, w.ownsRow base 54 3 lv ls.length (flatL ls wvs) ∧ wvs.length = ls.length ∧ ∀ i, i < ls.length → OwnW w 0 (wvs.getD i undef) (ls.getD i ([], [], 0)).2.1
theorem lines_none (w : World) (base : Nat) : LinesAt w base (.slice none 0 0) [] := ⟨[], ⟨rfl, .inl ⟨rfl, rfl⟩⟩, rfl, fun i hi => by simp at hi⟩
theorem ownsRow_mono {w : World} {A B : Nat} {e : TypeId} {z n : Nat} {v : Value} {xs : List Value} (h : w.ownsRow B e z v n xs) (hA : A ≤ B) : w.ownsRow A e z v n xs := by
  obtain ⟨hl, h2⟩ := h
  refine ⟨hl, ?_⟩
  rcases h2 with h2 | ⟨g, cap, cur, rfl, hB, hr⟩
  · exact .inl h2
  · exact .inr ⟨g, cap, cur, rfl, by omega, hr⟩
def ParPost (s : ByteArray) (w : World) (e : Ending) (w' : World) : Prop :=
  ∃ lv, e = .returned (.tuple #[lv, .int .i64 ((parL s.data.toList).2.1 : Int), .int .i64 ((parL s.data.toList).2.2 : Int)]) ∧ LinesAt w' w.heap.size lv (parL s.data.toList).1 ∧ Below w.heap.size w w'
theorem size44 : (Tryz.prog.info? 82).map (·.size) = some 2 := by kernel_rfl
theorem zero44 (w : World) : (zeroValue 82).run Tryz.prog w = .ok (.agg #[.string ⟨#[]⟩, .int .i64 0]) w := by kernel_rfl
theorem zero46 (w : World) : (zeroValue 84).run Tryz.prog w = .ok (.agg #[.slice none 0 0, .string ⟨#[]⟩]) w := by kernel_rfl
theorem parG_none {f : Nat} {l blk : List UInt8} {out : List Ln} {k : Nat} (hf : l.length < f) (h : rowL l = none) : parG f l blk out k = ([], k, 3) := by
  cases f with
  | zero => omega
  | succ f => rw [parG, h]
theorem parG_bad {f : Nat} {l blk : List UInt8} {out : List Ln} {k : Nat} {ws : List (List UInt8)} {b : Nat} {last : Bool} {t : List UInt8} (hf : l.length < f) (h : rowL l = some (ws, b, last, t)) (ht : takeD blk ws b k = none) : parG f l blk out k = ([], k, 3) := by
  cases f with
  | zero => omega
  | succ f => rw [parG, h]; simp only [ht]
theorem parG_last {f : Nat} {l blk blk' : List UInt8} {out x : List Ln} {k : Nat} {ws : List (List UInt8)} {b : Nat} {t : List UInt8} (hf : l.length < f) (h : rowL l = some (ws, b, true, t)) (ht : takeD blk ws b k = some (blk', x)) : parG f l blk out k = if blk' = [] then (out ++ x, 0, 0) else ([], k, 3) := by
  cases f with
  | zero => omega
  | succ f => rw [parG, h]; simp only [ht]; simp
theorem parG_next {f : Nat} {l blk blk' : List UInt8} {out x : List Ln} {k : Nat} {ws : List (List UInt8)} {b : Nat} {t : List UInt8} (hf : l.length < f) (h : rowL l = some (ws, b, false, t)) (ht : takeD blk ws b k = some (blk', x)) : parG f l blk out k = parG (f - 1) t blk' (out ++ x) (k + 1) ∧ t.length < f - 1 ∧ t.length < l.length := by
  obtain ⟨m, h1, h2, h3⟩ := row_suf _ _ _ _ _ (Nat.lt_succ_self _) h
  simp only at h2 h3
  have hl : t.length < l.length := by
    rw [h3, List.length_drop]
    simp at h2
    omega
  cases f with
  | zero => omega
  | succ f => rw [parG, h]; simp only [ht]; exact ⟨by simp, by omega, hl⟩
theorem take_len {blk : List UInt8} {ws : List (List UInt8)} {b k : Nat} {blk' : List UInt8} {x : List Ln} (h : takeD blk ws b k = some (blk', x)) : x.length ≤ 1 := by
  unfold takeD at h
  repeat' split at h
  all_goals first
    | (simp at h; done)
    | (simp only [Option.some.injEq, Prod.mk.injEq] at h; rw [← h.2]; simp)
set_option maxHeartbeats 4000000 in
set_option maxRecDepth 100000 in
theorem parse_any (s : ByteArray) (w : World) (hs : s.size ≤ 65536) :
    Calls Tryz.prog 22 #[.string s] w fun e w' => ParPost s w e w' := by
  have hsz : ¬ (65536 : Int) < (s.size : Int) := by omega
  obtain ⟨P, hP⟩ : ∃ P, P = parL s.data.toList := ⟨_, rfl⟩
  have HPP := hidM hP
  clear hP
  have HFIN : Hid (∀ lv ls a er V, P = (ls, a, er) → LinesAt V w.heap.size lv ls → Below w.heap.size w V → ∀ e, e = .returned (.tuple #[lv, .int .i64 (a : Int), .int .i64 (er : Int)]) → ParPost s w e V) := by
    intro lv ls a er V h1 h2 h3 e he
    unfold ParPost
    rw [← HPP.out, h1]
    exact ⟨lv, he, h2, h3⟩
  have hz4 := zero44
  have hz6 := zero46
  have hz9 := zero49
  have HN0 : Hid ((w.alloc (.cells #[.string ⟨#[]⟩, .int .i64 0] 82)).heap[w.heap.size]? = some (.cells #[.string ⟨#[]⟩, .int .i64 0] 82 (0, 0))) := heap_alloc_new w _
  go_enter Tryz.func22, Tryz.ntmps22
  go_upto_region 4 with (refine wpList_store_row rfl 82 (.tmp 5) (.tmp 13) rfl w.heap.size #[.string s, .int .i64 0] rfl rfl 82 #[.string ⟨#[]⟩, .int .i64 0] HN0.out size44 rfl (by simp [Value.oneCell']) ?_)
  have HB0 : Hid (RBox ((w.alloc (.cells #[.string ⟨#[]⟩, .int .i64 0] 82)).setRow w.heap.size #[.string s, .int .i64 0]) w.heap.size s 0) := setRow_heap _ _ _ _ 82 _ HN0.out
  have HL0 : Hid (Below w.heap.size w ((w.alloc (.cells #[.string ⟨#[]⟩, .int .i64 0] 82)).setRow w.heap.size #[.string s, .int .i64 0])) :=
    ((Below.refl _ w).alloc (Nat.le_refl _) _).trans ⟨rfl, rfl, rfl, by simp, fun k hk => setRow_other _ _ k _ (by omega)⟩
  have HE0 : Hid (((w.alloc (.cells #[.string ⟨#[]⟩, .int .i64 0] 82)).setRow w.heap.size #[.string s, .int .i64 0]).heap.size = w.heap.size + 1) := by unfold Hid; simp
  generalize (w.alloc (.cells #[.string ⟨#[]⟩, .int .i64 0] 82)).setRow w.heap.size #[.string s, .int .i64 0] = W0 at *
  clear HN0
  obtain ⟨E, hE⟩ : ∃ E, E = W0.heap.size := ⟨_, rfl⟩
  have HBE : Hid (w.heap.size < E) := by unfold Hid; rw [hE, HE0.out]; omega
  have HBL1 : Hid (Below W0.heap.size W0 (W0.alloc (.cells #[.slice none 0 0, .string ⟨#[]⟩] 84))) := (Below.refl _ W0).alloc (Nat.le_refl _) _
  have HD0 : Hid (DirX (W0.alloc (.cells #[.slice none 0 0, .string ⟨#[]⟩] 84)) E [] [] (.slice none 0 0) []) :=
    ⟨by rw [hE]; exact heap_alloc_new W0 _, ⟨rfl, .inl ⟨rfl, rfl⟩⟩, rfl, fun i hi => by simp at hi⟩
  have HB1 := hidM (HB0.out.below HBL1.out HB0.out.lt)
  have HL1 := hidM (HL0.out.trans (HBL1.out.mono (by have := HB0.out.lt; omega)))
  go_upto_block 0 with fail
  rw [← hE]
  generalize W0.alloc (.cells #[.slice none 0 0, .string ⟨#[]⟩] 84) = W1 at *
  clear hE HBL1 HB0 HL0 HE0
  go_wp2_with fail
  go_loopw [3, 7, 8, 14, 15, 16, 17, 18, 19, 20, 21, 22, 23, 24, 25, 26, 27, 28, 29, 30, 31, 32, 33, 34, 35, 36, 37] (fun v3 _ _ _ _ _ _ _ _ _ _ _ _ _ _ _ _ _ _ _ _ _ _ _ _ _ _ wr => ∃ f p k ls blk, v3 = .int .i64 ((k : Nat) : Int) ∧ RBox wr w.heap.size s p ∧ p ≤ s.size ∧ Dir wr E ls blk ∧ Below w.heap.size w wr ∧ (restL s p).length < f ∧ parG f (restL s p) blk ls k = P ∧ ls.length + 1 ≤ k ∧ k ≤ p + 1) (fun v3 _ _ _ _ _ _ _ _ _ _ _ _ _ _ _ _ _ _ _ _ _ _ _ _ _ _ wr => s.size - posOf w.heap.size wr)
  case atStart => exact ⟨_, 0, 1, [], [], rfl, HB1.out, Nat.zero_le _, ⟨_,_, HD0.out⟩, HL1.out, Nat.lt_succ_self _, by rw [HPP.out]; rfl, by simp, by omega⟩
  case round =>
    obtain ⟨f, p, k, ls, blk, rfl, hB, hp, ⟨lv, wvs, hD⟩, hL, hf, hpar, hk1, hk2⟩ := hrel
    clear HD0 HB1 HL1
    have HB := hidM hB
    have HD := hidM hD
    have HL := hidM hL
    have HF := hidM hf
    have HPR := hidM hpar
    have HROW := hidM (row_any w.heap.size s p wr hB (by omega) hp)
    unfold RowPost at HROW
    clear hB hD hL hf hpar
    cases hr : rowL (restL s p) with
    | none =>
      rw [hr] at HROW
      have HPE : Hid (P = ([], k, 3)) := by unfold Hid; rw [← HPR.out]; exact parG_none HF.out hr
      clear hr
      go_upto_region 7 with fail
      go_wp2_with fail
      refine HROW.out.mono ?_
      rintro _ w2 ⟨p2, rfl, hB2, hp2, hb2⟩
      have HL2 : Hid (Below w.heap.size w w2) := HL.out.trans ⟨hb2.os, hb2.tape, hb2.output, hb2.size, fun g hg => hb2.block g (by have := HB.out.lt; omega) (by omega)⟩
      have HN2 : Hid ((w2.alloc (.cells #[.slice none 0 0, .int .i64 0, .bool false] 87)).heap[w2.heap.size]? = some (.cells #[.slice none 0 0, .int .i64 0, .bool false] 87 (0, 0))) := heap_alloc_new w2 _
      clear hB2 hb2 HROW
      go_wp2_with (refine wpList_store_row rfl 87 (.tmp 7) (.tmp 18) rfl w2.heap.size #[.slice none 0 0, .int .i64 0, .bool false] rfl rfl 87 #[.slice none 0 0, .int .i64 0, .bool false] HN2.out size49 rfl (ones49 _ _ _ _ _) ?_)
      go_ret3
      refine HFIN.out _ _ _ _ _ HPE.out (lines_none _ _) ?_ _ rfl
      have hsz := HL2.out.size
      exact (HL2.out.alloc hsz _).trans ⟨rfl, rfl, rfl, by simp, fun g hg => setRow_other _ _ g _ (by omega)⟩
    | some R =>
      obtain ⟨ws, bk, last, rest⟩ := R
      rw [hr] at HROW
      simp only at HROW
      have HR := hidM hr
      obtain ⟨g1, g2⟩ := row_words _ _ _ _ _ (Nat.lt_succ_self _) hr
      have hws : ws.length ≤ 1000000 := by
        have := rest_len s p
        simp at g1
        omega
      have hbk : bk = 0 ∨ bk = 3 ∨ bk = 4 := g2
      clear hr g1 g2
      go_upto_region 7 with fail
      go_wp2_with fail
      refine HROW.out.mono ?_
      rintro _ w2 ⟨v, p2, rfl, hB2, hp2, hrest, hown, hb2⟩
      have HL2 : Hid (Below w.heap.size w w2) := HL.out.trans ⟨hb2.os, hb2.tape, hb2.output, hb2.size, fun g hg => hb2.block g (by have := HB.out.lt; omega) (by omega)⟩
      have HD2 := hidM (HD.out.but HB.out hb2 HBE.out)
      have HRS := hidM hrest
      obtain ⟨na, nc, hv⟩ := hown.isSlice
      have HN2 : Hid ((w2.alloc (.cells #[.slice none 0 0, .int .i64 0, .bool false] 87)).heap[w2.heap.size]? = some (.cells #[.slice none 0 0, .int .i64 0, .bool false] 87 (0, 0))) := heap_alloc_new w2 _
      have HONE : Hid ((#[v, .int .i64 (bk : Int), .bool last] : Array Value).all (·.oneCell') = true) := by rw [hv]; exact ones49 _ _ _ _ _
      have HB3 : Hid (Below w2.heap.size w2 ((w2.alloc (.cells #[.slice none 0 0, .int .i64 0, .bool false] 87)).setRow w2.heap.size #[v, .int .i64 (bk : Int), .bool last])) :=
        ((Below.refl _ w2).alloc (Nat.le_refl _) _).trans ⟨rfl, rfl, rfl, by simp, fun k hk => setRow_other _ _ k _ (by omega)⟩
      have HT3 : Hid (((w2.alloc (.cells #[.slice none 0 0, .int .i64 0, .bool false] 87)).setRow w2.heap.size #[v, .int .i64 (bk : Int), .bool last]).heap[w2.heap.size]? = some (rowB v bk last)) := setRow_heap _ _ _ _ 87 _ HN2.out
      have HD3 := hidM (HD2.out.below HB3.out (Nat.le_refl _))
      have HO3 : Hid (OwnW _ 0 v ws) := ownW_below (ownW_mono hown (Nat.zero_le _)) HB3.out (Nat.le_refl _)
      have HL3 := hidM (HL2.out.trans (HB3.out.mono HL2.out.size))
      have HBX := hidM (hB2.below HB3.out hB2.lt)
      clear hB2 hb2 HROW hown hrest hv
      go_upto_region 8 with (refine wpList_store_row rfl 87 (.tmp 7) (.tmp 18) rfl w2.heap.size #[v, .int .i64 (bk : Int), .bool last] rfl rfl 87 #[.slice none 0 0, .int .i64 0, .bool false] HN2.out size49 rfl HONE.out ?_)
      generalize (w2.alloc (.cells #[.slice none 0 0, .int .i64 0, .bool false] 87)).setRow w2.heap.size #[v, .int .i64 (bk : Int), .bool last] = W3 at *
      clear HB3 HD2 HN2 HONE HL2
      generalize w2.heap.size = TT at *
      obtain ⟨t0, t1, t2, _⟩ := row_cells HT3.out
      have HTK := hidM (dtake_any E ls blk lv wvs v ws bk last k W3 HD3.out HO3.out hbk (by omega) hws)
      unfold TakePost at HTK
      cases ht : takeD blk ws bk k with
      | none =>
        rw [ht] at HTK
        have HPE : Hid (P = ([], k, 3)) := by unfold Hid; rw [← HPR.out]; exact parG_bad HF.out HR.out ht
        clear ht
        go_wp2_with fail
        refine HTK.out.mono ?_
        rintro _ w4 ⟨rfl, hb4⟩
        have HL4 := hidM (HL3.out.trans (hb4.mono (Nat.le_of_lt HBE.out)))
        clear hb4 HTK
        go_wp2
        go_ret3
        exact HFIN.out _ _ _ _ _ HPE.out (lines_none _ _) HL4.out _ rfl
      | some y =>
        obtain ⟨blk', x⟩ := y
        rw [ht] at HTK
        simp only at HTK
        have HT := hidM ht
        have hx1 := take_len ht
        clear ht
        go_wp2_with fail
        refine HTK.out.mono ?_
        rintro _ w4 ⟨rfl, ⟨lv4, wvs4, hD4⟩, hb4, hk4⟩
        have HL4 := hidM (HL3.out.trans (hb4.mono (Nat.le_of_lt HBE.out)))
        have HB4 := hidM (HBX.out.below hb4 HBE.out)
        have HD4 := hidM hD4
        obtain ⟨_,_, y2, _⟩ := row_cells (hk4 _ _ HT3.out)
        obtain ⟨e0, e1, _⟩ := dir_cells hD4.box
        obtain ⟨B4, hB4⟩ : ∃ B4 : ByteArray, B4 = ⟨blk'.toArray⟩ := ⟨_, rfl⟩
        have HBL : Hid (B4.toList = blk') := by unfold Hid; rw [hB4, Lib.toList_data]
        rw [← hB4] at e1
        clear hD4 hb4 hk4 HTK t0 t1 t2 HT3 HD3 HO3 HL3 HBX hB4
        cases last with
        | false =>
          obtain ⟨g1, g2, g3⟩ := parG_next (out := ls) HF.out HR.out HT.out
          have HG : Hid ((restL s p2).length < f - 1 ∧ parG (f - 1) (restL s p2) blk' (ls ++ x) (k + 1) = P) := ⟨by rw [HRS.out]; exact g2, by rw [HRS.out, ← g1, HPR.out]⟩
          have HLT : Hid (p < p2) := by
            rw [← HRS.out, rest_len, rest_len] at g3
            unfold Hid
            omega
          clear g1 g2 g3
          go_wp2
          go_roundw
          case rel => exact ⟨f - 1, p2, k + 1, ls ++ x, blk', by go_num, HB4.out, hp2, ⟨lv4, wvs4, HD4.out⟩, HL4.out, HG.out.1, HG.out.2, by simp; omega, by have := HLT.out; omega⟩
          case measure =>
            show s.size - posOf _ _ < s.size - posOf _ wr
            rw [posOf_box HB4.out, posOf_box HB.out]
            have := HLT.out
            omega
        | true =>
          have HPL : Hid (P = if blk' = [] then (ls ++ x, 0, 0) else ([], k, 3)) := by unfold Hid; rw [← HPR.out]; exact parG_last HF.out HR.out HT.out
          by_cases hb0 : blk' = []
          · rw [if_pos hb0] at HPL
            have h3 : B4.toList.isEmpty = true := by rw [HBL.out, hb0]; rfl
            have HLA : Hid (LinesAt w4 w.heap.size lv4 (ls ++ x)) := ⟨wvs4, ownsRow_mono HD4.out.own (by have := HBE.out; omega), HD4.out.len, HD4.out.words⟩
            clear hb0
            go_wp2
            go_ret3
            exact HFIN.out _ _ _ _ _ HPL.out HLA.out HL4.out _ rfl
          · rw [if_neg hb0] at HPL
            have h3 : B4.toList.isEmpty = false := by
              rw [HBL.out]
              cases blk' with
              | nil => exact absurd rfl hb0
              | cons _ _ => rfl
            clear hb0
            go_wp2
            go_ret3
            exact HFIN.out _ _ _ _ _ HPL.out (lines_none _ _) HL4.out _ rfl
end Go.Proofs.YtmhjdahmmdfbcaaGreatDoor.M
namespace Go.Proofs.YtmhjdahmmdfbcaaGreatDoor.M
open Go.RowKit
/-- What is wrong is told by 3, with a line, and with no directives; what is right with no line. -/
theorem par_err : ∀ (f : Nat) (l blk : List UInt8) (out : List Ln) (k : Nat), l.length < f → ((parG f l blk out k).2.2 = 0 ∧ (parG f l blk out k).2.1 = 0) ∨ ((parG f l blk out k).2.2 = 3 ∧ (parG f l blk out k).1 = [])
  | 0, l, _,_,_, h => absurd h (by omega)
  | f + 1, l, blk, out, k, hf => by
    rw [parG]
    cases hr : rowL l with
    | none => simp
    | some r =>
      obtain ⟨ws, b, last, t⟩ := r
      obtain ⟨m, h1, h2, h3⟩ := row_suf _ _ _ _ _ (Nat.lt_succ_self _) hr
      simp only at h2 h3 ⊢
      cases ht : takeD blk ws b k with
      | none => simp
      | some x =>
        simp only
        cases last with
        | true =>
          by_cases hb : x.1 = []
          · simp [hb]
          · simp [hb]
        | false =>
          simp only [Bool.false_eq_true, if_false]
          have hl : t.length < l.length := by
            rw [h3, List.length_drop]
            simp at h2
            omega
          exact par_err f t x.1 (out ++ x.2) (k + 1) (by omega)
end Go.Proofs.YtmhjdahmmdfbcaaGreatDoor.M
namespace Go.Proofs.YtmhjdahmmdfbcaaGreatDoor.M
open Go.RowKit
def noL : Ln := ([], [], 0)
theorem flatL_get : ∀ (ls : List Ln) (wvs : List Value) (i : Nat), i < ls.length → wvs.length = ls.length → (flatL ls wvs)[i * 3]? = some (strV (ls.getD i noL).1) ∧ (flatL ls wvs)[i * 3 + 1]? = some (wvs.getD i undef) ∧ (flatL ls wvs)[i * 3 + 2]? = some (.int .i64 ((ls.getD i noL).2.2 : Int))
  | [], _, i, h, _ => by simp at h
  | l :: ls, [], i, _, h2 => by simp at h2
  | l :: ls, v :: wvs, 0, _,_ => by simp [flatL]
  | l :: ls, v :: wvs, i + 1, h, h2 => by
    have ih := flatL_get ls wvs i (by simpa using h) (by simpa using h2)
    have e : flatL (l :: ls) (v :: wvs) = strV l.1 :: v :: .int .i64 (l.2.2 : Int) :: flatL ls wvs := by simp [flatL]
    rw [e, show (i + 1) * 3 = i * 3 + 3 by omega, show i * 3 + 3 + 1 = i * 3 + 1 + 3 by omega, show i * 3 + 3 + 2 = i * 3 + 2 + 3 by omega]
    simpa using ih
/-- the lines as a walk reads them -/
def LnsAt (w : World) (g off : Nat) (ls : List Ln) : Prop := ∀ i, i < ls.length → ∃ na nc, w.cell? ⟨g, off + i * 3, none⟩ = some (strV (ls.getD i noL).1) ∧ w.cell? ⟨g, off + i * 3 + 1, none⟩ = some (.slice na (ls.getD i noL).2.1.length nc) ∧
  w.cell? ⟨g, off + i * 3 + 2, none⟩ = some (.int .i64 ((ls.getD i noL).2.2 : Int)) ∧ OwnW w 0 (.slice na (ls.getD i noL).2.1.length nc) (ls.getD i noL).2.1
def LinesV (w : World) (a : Option Addr) (ls : List Ln) : Prop := ls = [] ∨ ∃ g off, a = some ⟨g, off, none⟩ ∧ g < w.heap.size ∧ LnsAt w g off ls
theorem LinesAt.view {w : World} {base : Nat} {lv : Value} {ls : List Ln} (h : LinesAt w base lv ls) : ∃ a c, lv = .slice a ls.length c ∧ LinesV w a ls := by
  obtain ⟨wvs, h1, h2, h3⟩ := h
  rcases h1.2 with ⟨rfl, hn⟩ | ⟨g, cap, cur, rfl, hB, hg, hnc, hcm, hcs, htk⟩
  · exact ⟨none, 0, by rw [hn], .inl (List.length_eq_zero_iff.1 hn)⟩
  · refine ⟨_,_, rfl, .inr ⟨g, 0, rfl, lt_of_some hg, fun i hi => ?_⟩⟩
    obtain ⟨f0, f1, f2⟩ := flatL_get ls wvs i hi h2
    have hw : OwnW w 0 (wvs.getD i undef) (ls.getD i noL).2.1 := h3 i hi
    obtain ⟨na, nc, hv⟩ := hw.isSlice
    rw [hv] at f1 hw
    have hadd : ∀ j, (⟨g, 0, none⟩ : Addr).add j = ⟨g, j, none⟩ := fun j => by unfold Addr.add; split <;> simp_all
    refine ⟨na, nc, ?_, ?_, ?_, hw⟩
    · have := World.ownsRow.cells (g := g) h1 rfl _ _ f0; rw [hadd] at this; simpa using this
    · have := World.ownsRow.cells (g := g) h1 rfl _ _ f1; rw [hadd] at this; simpa using this
    · have := World.ownsRow.cells (g := g) h1 rfl _ _ f2; rw [hadd] at this; simpa using this
theorem LinesV.below {w w' : World} {a : Option Addr} {ls : List Ln} (h : LinesV w a ls) (hb : Below w.heap.size w w') : LinesV w' a ls := by
  rcases h with h | ⟨g, off, h1, h2, h3⟩
  · exact .inl h
  · refine .inr ⟨g, off, h1, Nat.lt_of_lt_of_le h2 hb.size, fun i hi => ?_⟩
    obtain ⟨na, nc, c0, c1, c2, hw⟩ := h3 i hi
    exact ⟨na, nc, (hb.cell (p := ⟨g, _, none⟩) h2).trans c0, (hb.cell (p := ⟨g, _, none⟩) h2).trans c1, (hb.cell (p := ⟨g, _, none⟩) h2).trans c2, ownW_below hw hb (Nat.le_refl _)⟩
theorem LinesV.at {w : World} {a : Option Addr} {ls : List Ln} (h : LinesV w a ls) {k : Nat} (hk : k < ls.length) : ∃ g off, a = some ⟨g, off, none⟩ ∧ g < w.heap.size ∧ LnsAt w g off ls := by
  rcases h with h | h
  · rw [h] at hk; simp at hk
  · exact h
theorem below_dn {B : Nat} {w w' : World} (h : Below B w w') (n : Nat) : Below B w (w'.drewN n) := h.trans ⟨rfl, rfl, rfl, by simp, fun k _ => by simp⟩
theorem lt_of_cell {w : World} {p : Addr} {v : Value} (h : w.cell? p = some v) : p.block < w.heap.size := by
  rcases Nat.lt_or_ge p.block w.heap.size with h1 | h1
  · exact h1
  · unfold World.cell? at h
    rw [Array.getElem?_eq_none (by simpa using h1)] at h
    cases h
theorem par_len : ∀ (f : Nat) (l blk : List UInt8) (out : List Ln) (k : Nat), l.length < f → (parG f l blk out k).1.length ≤ out.length + l.length + 1
  | 0, l, _,_,_, h => absurd h (by omega)
  | f + 1, l, blk, out, k, hf => by
    cases hr : rowL l with
    | none => rw [parG_none hf hr]; simp
    | some r =>
      obtain ⟨ws, b, last, t⟩ := r
      cases ht : takeD blk ws b k with
      | none => rw [parG_bad hf hr ht]; simp
      | some y =>
        obtain ⟨blk', x⟩ := y
        have hx := take_len ht
        cases last with
        | true =>
          rw [parG_last hf hr ht]
          split
          · simp; omega
          · simp
        | false =>
          obtain ⟨h1, h2, h3⟩ := parG_next (out := out) hf hr ht
          rw [h1]
          have := par_len f t blk' (out ++ x) (k + 1) (by simpa using h2)
          simp at this ⊢
          omega
def modW : List UInt8 := [109, 111, 100, 117, 108, 101]
def modG : List Ln → List UInt8 → List UInt8 × Nat × Nat
  | [], path => if path = [] then ([], 0, 7) else (path, 0, 0)
  | l :: r, path => if l.1 ≠ modW then modG r path else if path ≠ [] then ([], l.2.2, 8) else
    match l.2.1 with
    | [x] => if pathL x = true then modG r x else ([], l.2.2, 4)
    | _ => ([], l.2.2, 4)
def modL (s : List UInt8) : List UInt8 × Nat × Nat := if (parL s).2.2 ≠ 0 then ([], (parL s).2.1, (parL s).2.2) else modG (parL s).1 []
theorem modG_skip {l : Ln} {r : List Ln} {path : List UInt8} (h : l.1 ≠ modW) : modG (l :: r) path = modG r path := by rw [modG, if_pos h]
theorem modG_twice {l : Ln} {r : List Ln} {path : List UInt8} (h : l.1 = modW) (hp : path ≠ []) : modG (l :: r) path = ([], l.2.2, 8) := by rw [modG, if_neg (by simpa using h), if_pos hp]
theorem modG_many {l : Ln} {r : List Ln} (h : l.1 = modW) (hp : l.2.1.length ≠ 1) : modG (l :: r) [] = ([], l.2.2, 4) := by
  rw [modG, if_neg (by simpa using h), if_neg (by simp)]
  split
  · rename_i x hx; rw [hx] at hp; simp at hp
  · rfl
theorem modG_one {l : Ln} {r : List Ln} {x : List UInt8} (h : l.1 = modW) (hp : l.2.1 = [x]) : modG (l :: r) [] = if pathL x = true then modG r x else ([], l.2.2, 4) := by
  rw [modG, if_neg (by simpa using h), if_neg (by simp), hp]
theorem path_ne {x : List UInt8} (h : pathL x = true) : x ≠ [] := by
  rintro rfl
  exact absurd h (by decide)
def ModQ (R : List UInt8 × Nat × Nat) (w : World) (e : Ending) (w' : World) : Prop := e = .returned (.tuple #[.string ⟨R.1.toArray⟩, .int .i64 (R.2.1 : Int), .int .i64 (R.2.2 : Int)]) ∧ Below w.heap.size w w'
set_option maxHeartbeats 4000000 in
set_option maxRecDepth 100000 in
theorem module_any (s : ByteArray) (w : World) (hs : s.size ≤ 65536) :
    Calls Tryz.prog 23 #[.string s] w fun e w' => ModQ (modL s.data.toList) w e w' := by
  have HP := hidM (parse_any s w hs)
  unfold ParPost at HP
  have HE : Hid ((parL s.data.toList).2.2 = 0 ∨ (parL s.data.toList).2.2 = 3) := by
    have := par_err (s.data.toList.length + 1) s.data.toList [] [] 1 (Nat.lt_succ_self _)
    unfold parL
    rcases this with h | h
    · exact .inl h.1
    · exact .inr h.1
  have HR : Hid (modL s.data.toList = if (parL s.data.toList).2.2 ≠ 0 then ([], (parL s.data.toList).2.1, (parL s.data.toList).2.2) else modG (parL s.data.toList).1 []) := rfl
  have HLN : Hid ((parL s.data.toList).1.length ≤ 70000) := by
    have := par_len (s.data.toList.length + 1) s.data.toList [] [] 1 (Nat.lt_succ_self _)
    unfold Hid parL
    rw [sl_len] at *
    simp at this
    omega
  generalize modL s.data.toList = R at *
  generalize parL s.data.toList = P at *
  obtain ⟨ls, at_, er⟩ := P
  simp only at HP HE HR HLN
  by_cases h0 : er = 0
  · subst h0
    rw [if_neg (by simp)] at HR
    clear HE
    go_enter Tryz.func23, Tryz.ntmps23
    go_wp2_with fail
    refine HP.out.mono ?_
    rintro _ w1 ⟨lv, rfl, hl, hb1⟩
    obtain ⟨a, c, rfl, hv⟩ := hl.view
    have HV := hidM hv
    have HB1 := hidM hb1
    clear hl hv hb1 HP
    obtain ⟨n, hn⟩ : ∃ n, n = ls.length := ⟨_, rfl⟩
    rw [← hn]
    have HL := hidM hn
    have hn7 : n ≤ 70000 := by rw [hn]; exact HLN.out
    clear hn HLN
    go_wp2
    go_loopw [2, 7, 20, 21, 22, 23, 24, 25, 26, 27, 28, 29, 30, 31, 32, 33, 34, 35, 36, 37, 38, 39, 40, 41, 42, 43, 44, 45, 46, 47, 48, 49] (fun v2 _ v20 _ _ _ _ _ _ _ _ _ _ _ _ _ _ _ _ _ _ _ _ _ _ _ _ _ _ _ _ _ wr => ∃ (k : Nat) (path : ByteArray), k ≤ n ∧ v2 = .string path ∧ v20 = .int .i64 (k : Int) ∧ modG (ls.drop k) path.data.toList = R ∧ Below w1.heap.size w1 wr) (fun _ _ v20 _ _ _ _ _ _ _ _ _ _ _ _ _ _ _ _ _ _ _ _ _ _ _ _ _ _ _ _ _ _ => n - (intOf v20).toNat)
    case atStart => exact ⟨0, ⟨#[]⟩, Nat.zero_le _, rfl, rfl, by rw [HR.out]; rfl, Below.refl _ _⟩
    case round =>
      obtain ⟨k, path, hk, rfl, rfl, hd, hbr⟩ := hrel
      have HD := hidM hd
      have HBR := hidM hbr
      clear hd hbr HR
      by_cases hlt : k < n
      · have kk : (k : Int) < (n : Int) := by omega
        have hkl : k < ls.length := by rw [← HL.out]; exact hlt
        obtain ⟨g, off, rfl, hg, hat⟩ := (HV.out.below HBR.out).at hkl
        obtain ⟨na, nc, c0, c1, c2, hw⟩ := hat k hkl
        have HDK : Hid (modG (ls.getD k noL :: ls.drop (k + 1)) path.data.toList = R) := by
          unfold Hid
          rw [← HD.out, List.drop_eq_getElem_cons hkl]
          simp [List.getD, hkl]
        clear hat HD
        generalize ls.getD k noL = L at *
        obtain ⟨verb, words, la⟩ := L
        simp only at c0 c1 c2 hw
        unfold strV at c0
        obtain ⟨V, hV⟩ : ∃ V : ByteArray, V = ⟨verb.toArray⟩ := ⟨_, rfl⟩
        have HVL : Hid (V.toList = verb) := by unfold Hid; rw [hV, Lib.toList_data]
        rw [← hV] at c0
        have hg2 : wr.heap[wr.heap.size]? = none := by simp
        obtain ⟨y0, y1, y2⟩ : (wr.alloc (.cells #[.string V, .slice na words.length nc, .int .i64 (la : Int)] 54)).cell? ⟨wr.heap.size, 0, none⟩ = some (.string V) ∧ (wr.alloc (.cells #[.string V, .slice na words.length nc, .int .i64 (la : Int)] 54)).cell? ⟨wr.heap.size, 1, none⟩ = some (.slice na words.length nc) ∧ (wr.alloc (.cells #[.string V, .slice na words.length nc, .int .i64 (la : Int)] 54)).cell? ⟨wr.heap.size, 2, none⟩ = some (.int .i64 (la : Int)) :=
          ⟨World.cell?_alloc_mark wr _ 54 (0, 0) 0, World.cell?_alloc_mark wr _ 54 (0, 0) 1, World.cell?_alloc_mark wr _ 54 (0, 0) 2⟩
        have HB3 : Hid (Below wr.heap.size wr (wr.alloc (.cells #[.string V, .slice na words.length nc, .int .i64 (la : Int)] 54))) := (Below.refl _ wr).alloc (Nat.le_refl _) _
        have HW3 := hidM (ownW_below hw HB3.out (Nat.le_refl _))
        have HB4 := hidM (HBR.out.trans (HB3.out.mono HBR.out.size))
        clear hw hV hg2
        go_upto_region 7 with fail
        generalize wr.alloc (.cells #[.string V, .slice na words.length nc, .int .i64 (la : Int)] 54) = W3 at *
        generalize wr.heap.size = g3 at *
        clear c0 c1 c2
        by_cases hvm : verb = modW
        · have b1 : (V.toList == [109, 111, 100, 117, 108, 101]) = true := by rw [HVL.out, hvm]; rfl
          by_cases hpe : path.data.toList = []
          · have b2 : path.toList.isEmpty = true := by rw [Lib.toList_data, hpe]; rfl
            by_cases hone : words.length = 1
            · obtain ⟨x, hx⟩ : ∃ x, words = [x] := List.length_eq_one_iff.1 hone
              obtain ⟨g4, c4, h4, h5, _⟩ := HW3.out.cellAt (by rw [hone]; omega)
              have h6 := h5 0 (by omega)
              have h7 : words[0] = x := by simp [hx]
              rw [h7] at h6
              unfold strV at h6
              have HG : Hid (R = if pathL x = true then modG (ls.drop (k + 1)) x else ([], la, 4)) := by
                unfold Hid
                rw [← HDK.out, hpe]
                exact modG_one hvm hx
              obtain ⟨X, hX⟩ : ∃ X : ByteArray, X = ⟨x.toArray⟩ := ⟨_, rfl⟩
              have HXL : Hid (X.data.toList = x) := by unfold Hid; rw [hX]
              rw [← hX] at h6
              have HPA := hidM (path_any X W3)
              rw [HXL.out] at HPA
              rw [hone] at y1 h4
              injection h4 with q1 q2 q3
              subst q1 q3
              clear HDK hpe hvm hx h5 h7 hone hX
              cases hpa : pathL x with
              | true =>
                rw [hpa] at HPA HG
                rw [if_pos rfl] at HG
                have HG2 := hidM HG.out
                go_wp2_with fail
                refine HPA.out.mono ?_
                rintro _ w5 ⟨rfl, hb5⟩
                have HB5 := hidM hb5
                have z1 := (hb5.cell (p := ⟨g3, 1, none⟩) (lt_of_cell y1)).trans y1
                have z6 := (hb5.cell (p := ⟨g4, 0, none⟩) (lt_of_cell h6)).trans h6
                have HB6 := hidM (HB4.out.trans (hb5.mono HB4.out.size))
                clear hb5 hpa y0 y1 y2 h6
                go_wp2
                go_roundw
                case rel => exact ⟨k + 1, X, by omega, rfl, by go_num, by rw [HXL.out, HG.out], HB6.out⟩
                case measure => (show n - ((k : Int) + 1).toNat < n - ((k : Int)).toNat); omega
              | false =>
                rw [hpa] at HPA HG
                rw [if_neg (by simp)] at HG
                go_wp2_with fail
                refine HPA.out.mono ?_
                rintro _ w5 ⟨rfl, hb5⟩
                have z2 := (hb5.cell (p := ⟨g3, 2, none⟩) (lt_of_cell y2)).trans y2
                have HB6 := hidM (HB4.out.trans (hb5.mono HB4.out.size))
                clear hb5 hpa y0 y1 y2 h6
                go_wp2_with fail
                go_quiet (fail)
                go_wp2
                go_ret3
                exact ⟨by rw [HG.out]; rfl, below_dn (HB1.out.trans (HB6.out.mono HB1.out.size)) _⟩
            · have HG : Hid (R = ([], la, 4)) := by
                unfold Hid
                rw [← HDK.out, hpe]
                exact modG_many hvm hone
              have b3 : ((words.length : Int) != 1) = true := by simp; omega
              clear HDK hpe hvm hone
              go_wp2_with fail
              go_quiet (fail)
              go_wp2
              go_ret3
              exact ⟨by rw [HG.out]; rfl, below_dn (HB1.out.trans (HB4.out.mono HB1.out.size)) _⟩
          · have b2 : path.toList.isEmpty = false := by rw [Lib.toList_data]; cases h : path.data.toList <;> simp_all
            have HG : Hid (R = ([], la, 8)) := by
              unfold Hid
              rw [← HDK.out]
              exact modG_twice hvm hpe
            clear HDK hvm hpe
            go_wp2_with fail
            go_quiet (fail)
            go_wp2
            go_ret3
            exact ⟨by rw [HG.out]; rfl, below_dn (HB1.out.trans (HB4.out.mono HB1.out.size)) _⟩
        · have b1 : (V.toList == [109, 111, 100, 117, 108, 101]) = false := by rw [HVL.out]; exact beq_false_of_ne hvm
          have HG : Hid (modG (ls.drop (k + 1)) path.data.toList = R) := by
            unfold Hid
            rw [← HDK.out]
            exact (modG_skip hvm).symm
          clear HDK hvm
          go_wp2
          go_roundw
          case rel => exact ⟨k + 1, path, by omega, rfl, by go_num, HG.out, HB4.out⟩
          case measure => (show n - ((k : Int) + 1).toNat < n - ((k : Int)).toNat); omega
      · obtain rfl : k = n := by omega
        have HG : Hid ((if path.data.toList = [] then ([], 0, 7) else (path.data.toList, 0, 0)) = R) := by
          unfold Hid
          rw [← HD.out, List.drop_of_length_le (by rw [← HL.out]; omega), modG]
        have HBF : Hid (Below w.heap.size w wr) := HB1.out.trans (HBR.out.mono HB1.out.size)
        by_cases hpe : path.data.toList = []
        · have b2 : path.toList.isEmpty = true := by rw [Lib.toList_data, hpe]; rfl
          rw [if_pos hpe] at HG
          clear hpe HD
          go_wp2
          go_ret3
          exact ⟨by rw [← HG.out]; rfl, HBF.out⟩
        · have b2 : path.toList.isEmpty = false := by rw [Lib.toList_data]; cases h : path.data.toList <;> simp_all
          rw [if_neg hpe] at HG
          clear hpe HD
          go_wp2
          go_ret3
          exact ⟨by rw [← HG.out]; rfl, HBF.out⟩
  · have h3 : er = 3 := by rcases HE.out with h | h; exact absurd h h0; exact h
    subst h3
    rw [if_pos (by simp)] at HR
    clear HE h0
    go_enter Tryz.func23, Tryz.ntmps23
    go_wp2_with fail
    refine HP.out.mono ?_
    rintro _ w1 ⟨lv, rfl, hl, hb1⟩
    obtain ⟨a, c, rfl, hv⟩ := hl.view
    clear hl hv
    go_wp2
    go_ret3
    exact ⟨by rw [HR.out]; rfl, hb1⟩
end Go.Proofs.YtmhjdahmmdfbcaaGreatDoor.M
namespace Go.Proofs.YtmhjdahmmdfbcaaGreatDoor.M
open Go.RowKit
theorem getL (s : ByteArray) (k : Nat) (h : k < s.size) : s[k] ∈ s.data.toList := List.mem_of_getElem? (ba_at s k h)
end Go.Proofs.YtmhjdahmmdfbcaaGreatDoor.M
namespace Go.Proofs.YtmhjdahmmdfbcaaGreatDoor.M
open Go.RowKit
def bytR (i : Nat) (c : UInt8) : Bool := if i = 0 then fstB c else plnB c
def parR (i : Nat) (p : List UInt8) : Bool := bndL p && p.all (bytR i) && (!(i == 0) || (p.contains 46 && !(p.head? == some 45)))
theorem parR_zero (p : List UInt8) : parR 0 p = fstP p := by
  unfold parR fstP
  rw [show bytR 0 = fstB from rfl]
  cases bndL p <;> simp [Bool.and_assoc]
theorem parR_more (i : Nat) (h : i ≠ 0) (p : List UInt8) : parR i p = othP p := by
  unfold parR othP
  rw [show bytR i = plnB from by funext c; unfold bytR; rw [if_neg h]]
  simp [h]
theorem cont_snoc (l : List UInt8) (x : UInt8) : (l ++ [x]).contains 46 = (l.contains 46 || x == 46) := by
  rw [Bool.eq_iff_iff]
  simp only [List.contains_eq_mem, List.mem_append, List.mem_singleton, decide_eq_true_eq, Bool.or_eq_true, beq_iff_eq]
  constructor
  · rintro (h | h)
    · exact .inl h
    · exact .inr h.symm
  · rintro (h | h)
    · exact .inl h
    · exact .inr h.symm
theorem path_all (l : List UInt8) (h : l.length ≤ 200) : pathL l = true ↔ ∀ k (hk : k < (partsL l).length), parR k (partsL l)[k] = true := by
  unfold pathL
  rw [decide_eq_true h, Bool.true_and]
  cases hp : partsL l with
  | nil => exact absurd hp (partsL_ne l)
  | cons x t =>
    simp only [Bool.and_eq_true]
    constructor
    · rintro ⟨h1, h2⟩ k hk
      cases k with
      | zero => rw [parR_zero]; exact h1
      | succ k => rw [parR_more _ (by omega)]; exact List.all_eq_true.1 h2 _ (by simp)
    · intro h
      refine ⟨by have := h 0 (by simp); rw [parR_zero] at this; exact this, List.all_eq_true.2 fun p hm => ?_⟩
      obtain ⟨k, hk, rfl⟩ := List.getElem_of_mem hm
      have := h (k + 1) (by simpa using hk)
      rw [parR_more _ (by omega)] at this
      exact this
theorem parts_at (s : ByteArray) (k : Nat) (hk : k < (rpB s s.size).length) : (rpB s s.size)[k].data.toList = (partsL s.data.toList)[k]'(by rw [rpB_all] at hk; simpa using hk) := by
  simp only [rpB_all, List.getElem_map]; rfl
theorem path_parR (s : ByteArray) (h : s.size ≤ 200) : pathL s.data.toList = true ↔ ∀ k (hk : k < (rpB s s.size).length), parR k (rpB s s.size)[k].data.toList = true := by
  rw [path_all _ (by rw [sl_len]; exact h)]
  constructor
  · intro hh k hk; rw [parts_at s k hk]; exact hh k _
  · intro hh k hk; have := hh k (by rw [rpB_all]; simpa using hk); rw [parts_at] at this; exact this
theorem u8_eq (c : UInt8) (n : Nat) (hn : n < 256) : (((c.toNat : Nat) : Int) == (n : Int)) = (c == UInt8.ofNat n) := by
  rw [Bool.eq_iff_iff, beq_iff_eq, beq_iff_eq]
  constructor
  · intro h; exact UInt8.toNat_inj.1 (by rw [UInt8.toNat_ofNat']; omega)
  · intro h; rw [h, UInt8.toNat_ofNat']; omega
set_option maxHeartbeats 8000000 in
set_option maxRecDepth 100000 in
theorem rpath_any (s : ByteArray) (w : World) : Calls Tryz.prog 19 #[.string s] w fun e w' => e = .returned (.bool (pathL s.data.toList)) ∧ Below w.heap.size w w' := by
  by_cases hs : s.size ≤ 200
  · have g200 : ¬ (200 : Int) < (s.size : Int) := by omega
    have HRP := hidM (fun V => rparts_any s V (by omega))
    have HPP := hidM (path_parR s hs)
    have HPZ := hidM (rpB_size s s.size)
    have hpl := (rpB_len s s.size).1
    have hpl0 := (rpB_len s s.size).2
    generalize rpB s s.size = ps at *
    generalize pathL s.data.toList = R at *
    go_enter Tryz.func19, Tryz.ntmps19
    go_wp2_with fail
    refine (HRP.out _).mono ?_
    rintro _ w2 ⟨⟨v2, hown, rfl⟩, hb2⟩
    obtain ⟨a, c, rfl, hsh⟩ := hown.shape
    obtain ⟨g, rfl, _, hg, hat⟩ := hsh (by intro e; rw [e] at hpl0; simp at hpl0)
    have HAT := hidM hat
    have HB2 := hidM hb2
    clear hown hsh hat hb2 HRP
    obtain ⟨n, hn⟩ : ∃ n, n = ps.length := ⟨_, rfl⟩
    rw [← hn] at hpl ⊢
    have HN := hidM hn
    clear hn hpl0
    go_wp2
    go_loopw [3, 4, 5, 6, 7, 14, 15, 16, 17, 18, 19, 20, 21, 22, 23, 24, 25, 26, 27, 28, 29, 30, 31, 32, 33, 34, 35, 36, 37, 38, 39, 40, 41, 42, 43, 44, 45, 46, 47, 48, 49, 50, 51, 52, 53, 54, 55, 56, 57, 58, 59, 60, 61, 62, 63, 64, 65, 66, 67, 68, 69, 70, 71, 72, 73, 74, 75, 76, 77, 78, 79, 80, 81, 82, 83, 84, 85, 86, 87, 88, 89, 90, 91, 92, 93, 94, 95, 96, 97, 98, 99, 100] (fun _ _ _ _ _ v14 _ _ _ _ _ _ _ _ _ _ _ _ _ _ _ _ _ _ _ _ _ _ _ _ _ _ _ _ _ _ _ _ _ _ _ _ _ _ _ _ _ _ _ _ _ _ _ _ _ _ _ _ _ _ _ _ _ _ _ _ _ _ _ _ _ _ _ _ _ _ _ _ _ _ _ _ _ _ _ _ _ _ _ _ _ _ wr => ∃ k : Nat, k ≤ n ∧ v14 = .int .i64 (k : Int) ∧ (∀ m (hm : m < ps.length), m < k → parR m ps[m].data.toList = true) ∧ wr = w2) (fun _ _ _ _ _ v14 _ _ _ _ _ _ _ _ _ _ _ _ _ _ _ _ _ _ _ _ _ _ _ _ _ _ _ _ _ _ _ _ _ _ _ _ _ _ _ _ _ _ _ _ _ _ _ _ _ _ _ _ _ _ _ _ _ _ _ _ _ _ _ _ _ _ _ _ _ _ _ _ _ _ _ _ _ _ _ _ _ _ _ _ _ _ _ => n - (intOf v14).toNat)
    case atStart => exact ⟨0, Nat.zero_le _, rfl, fun m _ h => by omega, rfl⟩
    case round =>
      obtain ⟨k, hk, rfl, hd, hw⟩ := hrel
      have HD := hidM hd
      clear hd
      subst hw
      by_cases hlt : k < n
      · have kk : (k : Int) < (n : Int) := by omega
        have hkp : k < ps.length := by rw [← HN.out]; exact hlt
        have hc := HAT.out k hkp
        have hz := HPZ.out ps[k] (List.getElem_mem _)
        have HNO : Hid (parR k ps[k].data.toList = false → R = false) := fun h => Bool.eq_false_iff.2 fun hR => by
          have := HPP.out.1 hR k hkp
          rw [h] at this; cases this
        have HNX : Hid (parR k ps[k].data.toList = true → ∀ m (hm : m < ps.length), m < k + 1 → parR m ps[m].data.toList = true) := fun h m hm hmk => by
          by_cases e : m = k
          · subst e; exact h
          · exact HD.out m hm (by omega)
        clear HD
        generalize ps[k] = X at *
        have HNU : Hid (bndL X.data.toList = false → R = false) := fun h => HNO.out (by unfold parR; rw [h]; rfl)
        by_cases h0 : X.size = 0
        · have b0 : X.toList.isEmpty = true := by rw [Lib.toList_data, List.length_eq_zero_iff.1 (show X.data.toList.length = 0 by rw [sl_len]; exact h0)]; rfl
          have HN2 := hidM (HNU.out (by rw [List.length_eq_zero_iff.1 (show X.data.toList.length = 0 by rw [sl_len]; exact h0)]; rfl))
          clear h0
          go_wp2
          go_ret
          exact ⟨by rw [HN2.out]; rfl, HB2.out⟩
        have b0 : X.toList.isEmpty = false := by
          rw [Lib.toList_data]
          cases hl : X.data.toList with
          | nil => exact absurd (by rw [← sl_len, hl]; rfl) h0
          | cons _ _ => rfl
        obtain ⟨xm, hxm⟩ : ∃ xm, X.size = xm + 1 := ⟨X.size - 1, by omega⟩
        have e0 : (0 : Int) < (X.size : Int) := by omega
        have e1 : (X.size : Int) - 1 = (xm : Int) := by omega
        have e2 : (xm : Int) < (X.size : Int) := by omega
        have hxl : xm < X.size := by omega
        have hx0 : 0 < X.size := by omega
        have HHD : Hid (X.data.toList.head? = some X[0]) := by unfold Hid; rw [List.head?_eq_getElem?, ba_at X 0 hx0]
        have HLS : Hid (X.data.toList.getLast? = some X[xm]) := by unfold Hid; rw [List.getLast?_eq_getElem?, sl_len, hxm, show xm + 1 - 1 = xm from rfl, ba_at X xm hxl]
        have HBN : Hid (bndL X.data.toList = (!(X[0] == 46) && !(X[xm] == 46))) := by
          unfold Hid bndL
          rw [HHD.out, HLS.out, ← Lib.toList_data, b0]; rfl
        have t0 : ((((X[0].toNat : Nat) : Int)) == 46) = (X[0] == 46) := u8_eq _ 46 (by omega)
        have t1 : ((((X[xm].toNat : Nat) : Int)) == 46) = (X[xm] == 46) := u8_eq _ 46 (by omega)
        have t2 : ((((X[0].toNat : Nat) : Int)) == 45) = (X[0] == 45) := u8_eq _ 45 (by omega)
        have HPR : Hid (parR k X.data.toList = (bndL X.data.toList && X.data.toList.all (bytR k) && (!(k == 0) || (X.data.toList.contains 46 && !(X[0] == 45))))) := by
          unfold Hid parR
          rw [HHD.out]; rfl
        clear h0 HHD HLS
        have HXM := hidM hxm
        clear hxm
        generalize (X[0] == 46) = T0 at *
        generalize (X[xm] == 46) = T1 at *
        generalize (X[0] == 45) = T2 at *
        cases T0 with
        | true =>
          have HN2 := hidM (HNU.out (by rw [HBN.out]; rfl))
          clear HNU HNO HNX HBN HPR t1 t2
          go_wp2
          go_ret
          exact ⟨by rw [HN2.out]; rfl, HB2.out⟩
        | false =>
        cases T1 with
        | true =>
          have HN2 := hidM (HNU.out (by rw [HBN.out]; rfl))
          clear HNU HNO HNX HBN HPR t2
          go_wp2
          go_ret
          exact ⟨by rw [HN2.out]; rfl, HB2.out⟩
        | false =>
        have HPQ : Hid (parR k X.data.toList = (X.data.toList.all (bytR k) && (!(k == 0) || (X.data.toList.contains 46 && !T2)))) := by unfold Hid; rw [HPR.out, HBN.out]; rfl
        clear HBN HPR HNU
        obtain ⟨W2, hW2⟩ : ∃ V : World, V = wr := ⟨_, rfl⟩
        subst hW2
        go_wp2
        go_loopw [5, 6, 7, 34, 35, 36, 37, 38, 39, 40, 41, 42, 43, 44, 45, 46, 47, 48, 49, 50, 51, 52, 53, 54, 55, 56, 57, 58, 59, 60, 61, 62, 63, 64, 65, 66, 67, 68, 69, 70, 71, 72, 73, 74, 75, 76, 77, 78, 79, 80, 81, 82, 83, 84, 85, 86, 87, 88] (fun v5 v6 _ _ _ _ _ _ _ _ _ _ _ _ _ _ _ _ _ _ _ _ _ _ _ _ _ _ _ _ _ _ _ _ _ _ _ _ _ _ _ _ _ _ _ _ _ _ _ _ _ _ _ _ _ _ _ _ wr => ∃ (j : Nat) (D : Bool), j ≤ X.size ∧ v6 = .int .i64 (j : Int) ∧ v5 = .bool D ∧ (X.data.toList.take j).contains 46 = D ∧ (X.data.toList.take j).all (bytR k) = true ∧ wr = W2) (fun _ v6 _ _ _ _ _ _ _ _ _ _ _ _ _ _ _ _ _ _ _ _ _ _ _ _ _ _ _ _ _ _ _ _ _ _ _ _ _ _ _ _ _ _ _ _ _ _ _ _ _ _ _ _ _ _ _ _ _ => X.size - (intOf v6).toNat)
        case atStart => exact ⟨0, false, Nat.zero_le _, rfl, rfl, rfl, rfl, rfl⟩
        case round =>
          obtain ⟨j, D, hj, rfl, rfl, hD, hall, hw⟩ := hrel
          have HDJ := hidM hD
          have HAL := hidM hall
          clear hD hall
          subst hw
          by_cases hjl : j < X.size
          · have jj : (j : Int) < (X.size : Int) := by omega
            have HT1 : Hid ((X.data.toList.take (j + 1)).contains 46 = (D || X[j] == 46)) := by
              unfold Hid
              rw [take_one X j hjl, cont_snoc, HDJ.out]
            have HT2 : Hid ((X.data.toList.take (j + 1)).all (bytR k) = bytR k X[j]) := by
              unfold Hid
              rw [take_one X j hjl, List.all_append, HAL.out]
              simp
            have HBAD : Hid (bytR k X[j] = false → R = false) := fun h => HNO.out (by
              rw [HPQ.out, show X.data.toList.all (bytR k) = false from List.all_eq_false.2 ⟨_, getL X j hjl, by rw [h]; exact Bool.false_ne_true⟩]; rfl)
            have HFB : Hid (bytR k X[j] = if k = 0 then fstB X[j] else plnB X[j]) := rfl
            have t46 : ((((X[j].toNat : Nat) : Int)) == 46) = (X[j] == 46) := u8_eq _ 46 (by omega)
            have HF1 := hidM (fstB_of X[j])
            have HF2 := hidM (plnB_of X[j])
            have hcn := X[j].toNat_lt
            clear HNO HNX HPQ HAL HDJ t0 t1 t2
            generalize bytR k X[j] = BB at *
            generalize plnB X[j] = FP at *
            generalize fstB X[j] = FB at *
            generalize (X[j] == 46) = E46 at *
            clear hc
            cases D
            · as_aux_lemma =>
                rcases (show (0 ≤ X[j].toNat ∧ X[j].toNat ≤ 44) ∨ (45 ≤ X[j].toNat ∧ X[j].toNat ≤ 45) ∨ (46 ≤ X[j].toNat ∧ X[j].toNat ≤ 46) ∨ (47 ≤ X[j].toNat ∧ X[j].toNat ≤ 47) ∨ (48 ≤ X[j].toNat ∧ X[j].toNat ≤ 57) ∨ (58 ≤ X[j].toNat ∧ X[j].toNat ≤ 64) ∨ (65 ≤ X[j].toNat ∧ X[j].toNat ≤ 90) ∨ (91 ≤ X[j].toNat ∧ X[j].toNat ≤ 94) ∨ (95 ≤ X[j].toNat ∧ X[j].toNat ≤ 95) ∨ (96 ≤ X[j].toNat ∧ X[j].toNat ≤ 96) ∨ (97 ≤ X[j].toNat ∧ X[j].toNat ≤ 122) ∨ (123 ≤ X[j].toNat ∧ X[j].toNat ≤ 125) ∨ (126 ≤ X[j].toNat ∧ X[j].toNat ≤ 126) ∨ (127 ≤ X[j].toNat ∧ X[j].toNat ≤ 255) by omega) with h | h | h | h | h | h | h | h | h | h | h | h | h | h
                · obtain ⟨h1, h2⟩ := h
                  have b0 : decide ((97 : Int) ≤ (X[j].toNat : Int)) = false := by simp; omega
                  have b1 : decide ((X[j].toNat : Int) ≤ 122) = true := by simp; omega
                  have b2 : decide ((48 : Int) ≤ (X[j].toNat : Int)) = false := by simp; omega
                  have b3 : decide ((X[j].toNat : Int) ≤ 57) = true := by simp; omega
                  have b4 : decide ((65 : Int) ≤ (X[j].toNat : Int)) = false := by simp; omega
                  have b5 : decide ((X[j].toNat : Int) ≤ 90) = true := by simp; omega
                  have q0 : ((X[j].toNat : Int) == 46) = false := by simp; omega
                  have q1 : ((X[j].toNat : Int) == 45) = false := by simp; omega
                  have q2 : ((X[j].toNat : Int) == 95) = false := by simp; omega
                  have q3 : ((X[j].toNat : Int) == 126) = false := by simp; omega
                  have hFB : FB = false := by rw [HF1.out, Bool.eq_iff_iff]; simp; omega
                  have hFP : FP = false := by rw [HF2.out, hFB, Bool.eq_iff_iff]; simp; omega
                  have hE : E46 = false := by rw [← t46]; exact q0
                  subst hE
                  rw [hFB, hFP] at HFB
                  clear h1 h2 hFB hFP HF1 HF2 t46 hcn
                  have HN2 := hidM (HBAD.out (by rw [HFB.out]; split <;> rfl))
                  clear HBAD HFB HT1 HT2
                  by_cases hk0 : k = 0
                  · have z0 : ((k : Int) == 0) = true := by rw [hk0]; rfl
                    clear hk0
                    go_wp2
                    go_ret
                    exact ⟨by rw [HN2.out]; rfl, HB2.out⟩
                  · have z0 : ((k : Int) == 0) = false := by simp; omega
                    clear hk0
                    go_wp2
                    go_ret
                    exact ⟨by rw [HN2.out]; rfl, HB2.out⟩
                · obtain ⟨h1, h2⟩ := h
                  have b0 : decide ((97 : Int) ≤ (X[j].toNat : Int)) = false := by simp; omega
                  have b1 : decide ((X[j].toNat : Int) ≤ 122) = true := by simp; omega
                  have b2 : decide ((48 : Int) ≤ (X[j].toNat : Int)) = false := by simp; omega
                  have b3 : decide ((X[j].toNat : Int) ≤ 57) = true := by simp; omega
                  have b4 : decide ((65 : Int) ≤ (X[j].toNat : Int)) = false := by simp; omega
                  have b5 : decide ((X[j].toNat : Int) ≤ 90) = true := by simp; omega
                  have q0 : ((X[j].toNat : Int) == 46) = false := by simp; omega
                  have q1 : ((X[j].toNat : Int) == 45) = true := by simp; omega
                  have q2 : ((X[j].toNat : Int) == 95) = false := by simp; omega
                  have q3 : ((X[j].toNat : Int) == 126) = false := by simp; omega
                  have hFB : FB = true := by rw [HF1.out, Bool.eq_iff_iff]; simp; omega
                  have hFP : FP = true := by rw [HF2.out, hFB, Bool.eq_iff_iff]; simp
                  have hE : E46 = false := by rw [← t46]; exact q0
                  subst hE
                  rw [hFB, hFP] at HFB
                  clear h1 h2 hFB hFP HF1 HF2 t46 hcn
                  have HG : Hid (BB = true) := by unfold Hid; rw [HFB.out]; split <;> rfl
                  rw [HG.out] at HT2
                  clear HBAD HFB
                  go_wp2
                  go_roundw
                  case rel => exact ⟨j + 1, _, by omega, by go_num, rfl, by rw [HT1.out]; rfl, HT2.out, trivial⟩
                  case measure => (show X.size - ((j : Int) + 1).toNat < X.size - ((j : Int)).toNat); omega
                · obtain ⟨h1, h2⟩ := h
                  have b0 : decide ((97 : Int) ≤ (X[j].toNat : Int)) = false := by simp; omega
                  have b1 : decide ((X[j].toNat : Int) ≤ 122) = true := by simp; omega
                  have b2 : decide ((48 : Int) ≤ (X[j].toNat : Int)) = false := by simp; omega
                  have b3 : decide ((X[j].toNat : Int) ≤ 57) = true := by simp; omega
                  have b4 : decide ((65 : Int) ≤ (X[j].toNat : Int)) = false := by simp; omega
                  have b5 : decide ((X[j].toNat : Int) ≤ 90) = true := by simp; omega
                  have q0 : ((X[j].toNat : Int) == 46) = true := by simp; omega
                  have q1 : ((X[j].toNat : Int) == 45) = false := by simp; omega
                  have q2 : ((X[j].toNat : Int) == 95) = false := by simp; omega
                  have q3 : ((X[j].toNat : Int) == 126) = false := by simp; omega
                  have hFB : FB = true := by rw [HF1.out, Bool.eq_iff_iff]; simp; omega
                  have hFP : FP = true := by rw [HF2.out, hFB, Bool.eq_iff_iff]; simp
                  have hE : E46 = true := by rw [← t46]; exact q0
                  subst hE
                  rw [hFB, hFP] at HFB
                  clear h1 h2 hFB hFP HF1 HF2 t46 hcn
                  have HG : Hid (BB = true) := by unfold Hid; rw [HFB.out]; split <;> rfl
                  rw [HG.out] at HT2
                  clear HBAD HFB
                  go_wp2
                  go_roundw
                  case rel => exact ⟨j + 1, _, by omega, by go_num, rfl, by rw [HT1.out]; rfl, HT2.out, trivial⟩
                  case measure => (show X.size - ((j : Int) + 1).toNat < X.size - ((j : Int)).toNat); omega
                · obtain ⟨h1, h2⟩ := h
                  have b0 : decide ((97 : Int) ≤ (X[j].toNat : Int)) = false := by simp; omega
                  have b1 : decide ((X[j].toNat : Int) ≤ 122) = true := by simp; omega
                  have b2 : decide ((48 : Int) ≤ (X[j].toNat : Int)) = false := by simp; omega
                  have b3 : decide ((X[j].toNat : Int) ≤ 57) = true := by simp; omega
                  have b4 : decide ((65 : Int) ≤ (X[j].toNat : Int)) = false := by simp; omega
                  have b5 : decide ((X[j].toNat : Int) ≤ 90) = true := by simp; omega
                  have q0 : ((X[j].toNat : Int) == 46) = false := by simp; omega
                  have q1 : ((X[j].toNat : Int) == 45) = false := by simp; omega
                  have q2 : ((X[j].toNat : Int) == 95) = false := by simp; omega
                  have q3 : ((X[j].toNat : Int) == 126) = false := by simp; omega
                  have hFB : FB = false := by rw [HF1.out, Bool.eq_iff_iff]; simp; omega
                  have hFP : FP = false := by rw [HF2.out, hFB, Bool.eq_iff_iff]; simp; omega
                  have hE : E46 = false := by rw [← t46]; exact q0
                  subst hE
                  rw [hFB, hFP] at HFB
                  clear h1 h2 hFB hFP HF1 HF2 t46 hcn
                  have HN2 := hidM (HBAD.out (by rw [HFB.out]; split <;> rfl))
                  clear HBAD HFB HT1 HT2
                  by_cases hk0 : k = 0
                  · have z0 : ((k : Int) == 0) = true := by rw [hk0]; rfl
                    clear hk0
                    go_wp2
                    go_ret
                    exact ⟨by rw [HN2.out]; rfl, HB2.out⟩
                  · have z0 : ((k : Int) == 0) = false := by simp; omega
                    clear hk0
                    go_wp2
                    go_ret
                    exact ⟨by rw [HN2.out]; rfl, HB2.out⟩
                · obtain ⟨h1, h2⟩ := h
                  have b0 : decide ((97 : Int) ≤ (X[j].toNat : Int)) = false := by simp; omega
                  have b1 : decide ((X[j].toNat : Int) ≤ 122) = true := by simp; omega
                  have b2 : decide ((48 : Int) ≤ (X[j].toNat : Int)) = true := by simp; omega
                  have b3 : decide ((X[j].toNat : Int) ≤ 57) = true := by simp; omega
                  have b4 : decide ((65 : Int) ≤ (X[j].toNat : Int)) = false := by simp; omega
                  have b5 : decide ((X[j].toNat : Int) ≤ 90) = true := by simp; omega
                  have q0 : ((X[j].toNat : Int) == 46) = false := by simp; omega
                  have q1 : ((X[j].toNat : Int) == 45) = false := by simp; omega
                  have q2 : ((X[j].toNat : Int) == 95) = false := by simp; omega
                  have q3 : ((X[j].toNat : Int) == 126) = false := by simp; omega
                  have hFB : FB = true := by rw [HF1.out, Bool.eq_iff_iff]; simp; omega
                  have hFP : FP = true := by rw [HF2.out, hFB, Bool.eq_iff_iff]; simp
                  have hE : E46 = false := by rw [← t46]; exact q0
                  subst hE
                  rw [hFB, hFP] at HFB
                  clear h1 h2 hFB hFP HF1 HF2 t46 hcn
                  have HG : Hid (BB = true) := by unfold Hid; rw [HFB.out]; split <;> rfl
                  rw [HG.out] at HT2
                  clear HBAD HFB
                  go_wp2
                  go_roundw
                  case rel => exact ⟨j + 1, _, by omega, by go_num, rfl, by rw [HT1.out]; rfl, HT2.out, trivial⟩
                  case measure => (show X.size - ((j : Int) + 1).toNat < X.size - ((j : Int)).toNat); omega
                · obtain ⟨h1, h2⟩ := h
                  have b0 : decide ((97 : Int) ≤ (X[j].toNat : Int)) = false := by simp; omega
                  have b1 : decide ((X[j].toNat : Int) ≤ 122) = true := by simp; omega
                  have b2 : decide ((48 : Int) ≤ (X[j].toNat : Int)) = true := by simp; omega
                  have b3 : decide ((X[j].toNat : Int) ≤ 57) = false := by simp; omega
                  have b4 : decide ((65 : Int) ≤ (X[j].toNat : Int)) = false := by simp; omega
                  have b5 : decide ((X[j].toNat : Int) ≤ 90) = true := by simp; omega
                  have q0 : ((X[j].toNat : Int) == 46) = false := by simp; omega
                  have q1 : ((X[j].toNat : Int) == 45) = false := by simp; omega
                  have q2 : ((X[j].toNat : Int) == 95) = false := by simp; omega
                  have q3 : ((X[j].toNat : Int) == 126) = false := by simp; omega
                  have hFB : FB = false := by rw [HF1.out, Bool.eq_iff_iff]; simp; omega
                  have hFP : FP = false := by rw [HF2.out, hFB, Bool.eq_iff_iff]; simp; omega
                  have hE : E46 = false := by rw [← t46]; exact q0
                  subst hE
                  rw [hFB, hFP] at HFB
                  clear h1 h2 hFB hFP HF1 HF2 t46 hcn
                  have HN2 := hidM (HBAD.out (by rw [HFB.out]; split <;> rfl))
                  clear HBAD HFB HT1 HT2
                  by_cases hk0 : k = 0
                  · have z0 : ((k : Int) == 0) = true := by rw [hk0]; rfl
                    clear hk0
                    go_wp2
                    go_ret
                    exact ⟨by rw [HN2.out]; rfl, HB2.out⟩
                  · have z0 : ((k : Int) == 0) = false := by simp; omega
                    clear hk0
                    go_wp2
                    go_ret
                    exact ⟨by rw [HN2.out]; rfl, HB2.out⟩
                · obtain ⟨h1, h2⟩ := h
                  have b0 : decide ((97 : Int) ≤ (X[j].toNat : Int)) = false := by simp; omega
                  have b1 : decide ((X[j].toNat : Int) ≤ 122) = true := by simp; omega
                  have b2 : decide ((48 : Int) ≤ (X[j].toNat : Int)) = true := by simp; omega
                  have b3 : decide ((X[j].toNat : Int) ≤ 57) = false := by simp; omega
                  have b4 : decide ((65 : Int) ≤ (X[j].toNat : Int)) = true := by simp; omega
                  have b5 : decide ((X[j].toNat : Int) ≤ 90) = true := by simp; omega
                  have q0 : ((X[j].toNat : Int) == 46) = false := by simp; omega
                  have q1 : ((X[j].toNat : Int) == 45) = false := by simp; omega
                  have q2 : ((X[j].toNat : Int) == 95) = false := by simp; omega
                  have q3 : ((X[j].toNat : Int) == 126) = false := by simp; omega
                  have hFB : FB = false := by rw [HF1.out, Bool.eq_iff_iff]; simp; omega
                  have hFP : FP = true := by rw [HF2.out, hFB, Bool.eq_iff_iff]; simp; omega
                  have hE : E46 = false := by rw [← t46]; exact q0
                  subst hE
                  rw [hFB, hFP] at HFB
                  clear h1 h2 hFB hFP HF1 HF2 t46 hcn
                  by_cases hk0 : k = 0
                  · have z0 : ((k : Int) == 0) = true := by rw [hk0]; rfl
                    have HN2 := hidM (HBAD.out (by rw [HFB.out, if_pos hk0]))
                    clear HBAD HFB hk0
                    go_wp2
                    go_ret
                    exact ⟨by rw [HN2.out]; rfl, HB2.out⟩
                  · have z0 : ((k : Int) == 0) = false := by simp; omega
                    rw [HFB.out, if_neg hk0] at HT2
                    clear HBAD HFB hk0
                    go_wp2
                    go_roundw
                    case rel => exact ⟨j + 1, _, by omega, by go_num, rfl, by rw [HT1.out]; rfl, HT2.out, trivial⟩
                    case measure => (show X.size - ((j : Int) + 1).toNat < X.size - ((j : Int)).toNat); omega
                · obtain ⟨h1, h2⟩ := h
                  have b0 : decide ((97 : Int) ≤ (X[j].toNat : Int)) = false := by simp; omega
                  have b1 : decide ((X[j].toNat : Int) ≤ 122) = true := by simp; omega
                  have b2 : decide ((48 : Int) ≤ (X[j].toNat : Int)) = true := by simp; omega
                  have b3 : decide ((X[j].toNat : Int) ≤ 57) = false := by simp; omega
                  have b4 : decide ((65 : Int) ≤ (X[j].toNat : Int)) = true := by simp; omega
                  have b5 : decide ((X[j].toNat : Int) ≤ 90) = false := by simp; omega
                  have q0 : ((X[j].toNat : Int) == 46) = false := by simp; omega
                  have q1 : ((X[j].toNat : Int) == 45) = false := by simp; omega
                  have q2 : ((X[j].toNat : Int) == 95) = false := by simp; omega
                  have q3 : ((X[j].toNat : Int) == 126) = false := by simp; omega
                  have hFB : FB = false := by rw [HF1.out, Bool.eq_iff_iff]; simp; omega
                  have hFP : FP = false := by rw [HF2.out, hFB, Bool.eq_iff_iff]; simp; omega
                  have hE : E46 = false := by rw [← t46]; exact q0
                  subst hE
                  rw [hFB, hFP] at HFB
                  clear h1 h2 hFB hFP HF1 HF2 t46 hcn
                  have HN2 := hidM (HBAD.out (by rw [HFB.out]; split <;> rfl))
                  clear HBAD HFB HT1 HT2
                  by_cases hk0 : k = 0
                  · have z0 : ((k : Int) == 0) = true := by rw [hk0]; rfl
                    clear hk0
                    go_wp2
                    go_ret
                    exact ⟨by rw [HN2.out]; rfl, HB2.out⟩
                  · have z0 : ((k : Int) == 0) = false := by simp; omega
                    clear hk0
                    go_wp2
                    go_ret
                    exact ⟨by rw [HN2.out]; rfl, HB2.out⟩
                · obtain ⟨h1, h2⟩ := h
                  have b0 : decide ((97 : Int) ≤ (X[j].toNat : Int)) = false := by simp; omega
                  have b1 : decide ((X[j].toNat : Int) ≤ 122) = true := by simp; omega
                  have b2 : decide ((48 : Int) ≤ (X[j].toNat : Int)) = true := by simp; omega
                  have b3 : decide ((X[j].toNat : Int) ≤ 57) = false := by simp; omega
                  have b4 : decide ((65 : Int) ≤ (X[j].toNat : Int)) = true := by simp; omega
                  have b5 : decide ((X[j].toNat : Int) ≤ 90) = false := by simp; omega
                  have q0 : ((X[j].toNat : Int) == 46) = false := by simp; omega
                  have q1 : ((X[j].toNat : Int) == 45) = false := by simp; omega
                  have q2 : ((X[j].toNat : Int) == 95) = true := by simp; omega
                  have q3 : ((X[j].toNat : Int) == 126) = false := by simp; omega
                  have hFB : FB = false := by rw [HF1.out, Bool.eq_iff_iff]; simp; omega
                  have hFP : FP = true := by rw [HF2.out, hFB, Bool.eq_iff_iff]; simp; omega
                  have hE : E46 = false := by rw [← t46]; exact q0
                  subst hE
                  rw [hFB, hFP] at HFB
                  clear h1 h2 hFB hFP HF1 HF2 t46 hcn
                  by_cases hk0 : k = 0
                  · have z0 : ((k : Int) == 0) = true := by rw [hk0]; rfl
                    have HN2 := hidM (HBAD.out (by rw [HFB.out, if_pos hk0]))
                    clear HBAD HFB hk0
                    go_wp2
                    go_ret
                    exact ⟨by rw [HN2.out]; rfl, HB2.out⟩
                  · have z0 : ((k : Int) == 0) = false := by simp; omega
                    rw [HFB.out, if_neg hk0] at HT2
                    clear HBAD HFB hk0
                    go_wp2
                    go_roundw
                    case rel => exact ⟨j + 1, _, by omega, by go_num, rfl, by rw [HT1.out]; rfl, HT2.out, trivial⟩
                    case measure => (show X.size - ((j : Int) + 1).toNat < X.size - ((j : Int)).toNat); omega
                · obtain ⟨h1, h2⟩ := h
                  have b0 : decide ((97 : Int) ≤ (X[j].toNat : Int)) = false := by simp; omega
                  have b1 : decide ((X[j].toNat : Int) ≤ 122) = true := by simp; omega
                  have b2 : decide ((48 : Int) ≤ (X[j].toNat : Int)) = true := by simp; omega
                  have b3 : decide ((X[j].toNat : Int) ≤ 57) = false := by simp; omega
                  have b4 : decide ((65 : Int) ≤ (X[j].toNat : Int)) = true := by simp; omega
                  have b5 : decide ((X[j].toNat : Int) ≤ 90) = false := by simp; omega
                  have q0 : ((X[j].toNat : Int) == 46) = false := by simp; omega
                  have q1 : ((X[j].toNat : Int) == 45) = false := by simp; omega
                  have q2 : ((X[j].toNat : Int) == 95) = false := by simp; omega
                  have q3 : ((X[j].toNat : Int) == 126) = false := by simp; omega
                  have hFB : FB = false := by rw [HF1.out, Bool.eq_iff_iff]; simp; omega
                  have hFP : FP = false := by rw [HF2.out, hFB, Bool.eq_iff_iff]; simp; omega
                  have hE : E46 = false := by rw [← t46]; exact q0
                  subst hE
                  rw [hFB, hFP] at HFB
                  clear h1 h2 hFB hFP HF1 HF2 t46 hcn
                  have HN2 := hidM (HBAD.out (by rw [HFB.out]; split <;> rfl))
                  clear HBAD HFB HT1 HT2
                  by_cases hk0 : k = 0
                  · have z0 : ((k : Int) == 0) = true := by rw [hk0]; rfl
                    clear hk0
                    go_wp2
                    go_ret
                    exact ⟨by rw [HN2.out]; rfl, HB2.out⟩
                  · have z0 : ((k : Int) == 0) = false := by simp; omega
                    clear hk0
                    go_wp2
                    go_ret
                    exact ⟨by rw [HN2.out]; rfl, HB2.out⟩
                · obtain ⟨h1, h2⟩ := h
                  have b0 : decide ((97 : Int) ≤ (X[j].toNat : Int)) = true := by simp; omega
                  have b1 : decide ((X[j].toNat : Int) ≤ 122) = true := by simp; omega
                  have b2 : decide ((48 : Int) ≤ (X[j].toNat : Int)) = true := by simp; omega
                  have b3 : decide ((X[j].toNat : Int) ≤ 57) = false := by simp; omega
                  have b4 : decide ((65 : Int) ≤ (X[j].toNat : Int)) = true := by simp; omega
                  have b5 : decide ((X[j].toNat : Int) ≤ 90) = false := by simp; omega
                  have q0 : ((X[j].toNat : Int) == 46) = false := by simp; omega
                  have q1 : ((X[j].toNat : Int) == 45) = false := by simp; omega
                  have q2 : ((X[j].toNat : Int) == 95) = false := by simp; omega
                  have q3 : ((X[j].toNat : Int) == 126) = false := by simp; omega
                  have hFB : FB = true := by rw [HF1.out, Bool.eq_iff_iff]; simp; omega
                  have hFP : FP = true := by rw [HF2.out, hFB, Bool.eq_iff_iff]; simp
                  have hE : E46 = false := by rw [← t46]; exact q0
                  subst hE
                  rw [hFB, hFP] at HFB
                  clear h1 h2 hFB hFP HF1 HF2 t46 hcn
                  have HG : Hid (BB = true) := by unfold Hid; rw [HFB.out]; split <;> rfl
                  rw [HG.out] at HT2
                  clear HBAD HFB
                  go_wp2
                  go_roundw
                  case rel => exact ⟨j + 1, _, by omega, by go_num, rfl, by rw [HT1.out]; rfl, HT2.out, trivial⟩
                  case measure => (show X.size - ((j : Int) + 1).toNat < X.size - ((j : Int)).toNat); omega
                · obtain ⟨h1, h2⟩ := h
                  have b0 : decide ((97 : Int) ≤ (X[j].toNat : Int)) = true := by simp; omega
                  have b1 : decide ((X[j].toNat : Int) ≤ 122) = false := by simp; omega
                  have b2 : decide ((48 : Int) ≤ (X[j].toNat : Int)) = true := by simp; omega
                  have b3 : decide ((X[j].toNat : Int) ≤ 57) = false := by simp; omega
                  have b4 : decide ((65 : Int) ≤ (X[j].toNat : Int)) = true := by simp; omega
                  have b5 : decide ((X[j].toNat : Int) ≤ 90) = false := by simp; omega
                  have q0 : ((X[j].toNat : Int) == 46) = false := by simp; omega
                  have q1 : ((X[j].toNat : Int) == 45) = false := by simp; omega
                  have q2 : ((X[j].toNat : Int) == 95) = false := by simp; omega
                  have q3 : ((X[j].toNat : Int) == 126) = false := by simp; omega
                  have hFB : FB = false := by rw [HF1.out, Bool.eq_iff_iff]; simp; omega
                  have hFP : FP = false := by rw [HF2.out, hFB, Bool.eq_iff_iff]; simp; omega
                  have hE : E46 = false := by rw [← t46]; exact q0
                  subst hE
                  rw [hFB, hFP] at HFB
                  clear h1 h2 hFB hFP HF1 HF2 t46 hcn
                  have HN2 := hidM (HBAD.out (by rw [HFB.out]; split <;> rfl))
                  clear HBAD HFB HT1 HT2
                  by_cases hk0 : k = 0
                  · have z0 : ((k : Int) == 0) = true := by rw [hk0]; rfl
                    clear hk0
                    go_wp2
                    go_ret
                    exact ⟨by rw [HN2.out]; rfl, HB2.out⟩
                  · have z0 : ((k : Int) == 0) = false := by simp; omega
                    clear hk0
                    go_wp2
                    go_ret
                    exact ⟨by rw [HN2.out]; rfl, HB2.out⟩
                · obtain ⟨h1, h2⟩ := h
                  have b0 : decide ((97 : Int) ≤ (X[j].toNat : Int)) = true := by simp; omega
                  have b1 : decide ((X[j].toNat : Int) ≤ 122) = false := by simp; omega
                  have b2 : decide ((48 : Int) ≤ (X[j].toNat : Int)) = true := by simp; omega
                  have b3 : decide ((X[j].toNat : Int) ≤ 57) = false := by simp; omega
                  have b4 : decide ((65 : Int) ≤ (X[j].toNat : Int)) = true := by simp; omega
                  have b5 : decide ((X[j].toNat : Int) ≤ 90) = false := by simp; omega
                  have q0 : ((X[j].toNat : Int) == 46) = false := by simp; omega
                  have q1 : ((X[j].toNat : Int) == 45) = false := by simp; omega
                  have q2 : ((X[j].toNat : Int) == 95) = false := by simp; omega
                  have q3 : ((X[j].toNat : Int) == 126) = true := by simp; omega
                  have hFB : FB = false := by rw [HF1.out, Bool.eq_iff_iff]; simp; omega
                  have hFP : FP = true := by rw [HF2.out, hFB, Bool.eq_iff_iff]; simp; omega
                  have hE : E46 = false := by rw [← t46]; exact q0
                  subst hE
                  rw [hFB, hFP] at HFB
                  clear h1 h2 hFB hFP HF1 HF2 t46 hcn
                  by_cases hk0 : k = 0
                  · have z0 : ((k : Int) == 0) = true := by rw [hk0]; rfl
                    have HN2 := hidM (HBAD.out (by rw [HFB.out, if_pos hk0]))
                    clear HBAD HFB hk0
                    go_wp2
                    go_ret
                    exact ⟨by rw [HN2.out]; rfl, HB2.out⟩
                  · have z0 : ((k : Int) == 0) = false := by simp; omega
                    rw [HFB.out, if_neg hk0] at HT2
                    clear HBAD HFB hk0
                    go_wp2
                    go_roundw
                    case rel => exact ⟨j + 1, _, by omega, by go_num, rfl, by rw [HT1.out]; rfl, HT2.out, trivial⟩
                    case measure => (show X.size - ((j : Int) + 1).toNat < X.size - ((j : Int)).toNat); omega
                · obtain ⟨h1, h2⟩ := h
                  have b0 : decide ((97 : Int) ≤ (X[j].toNat : Int)) = true := by simp; omega
                  have b1 : decide ((X[j].toNat : Int) ≤ 122) = false := by simp; omega
                  have b2 : decide ((48 : Int) ≤ (X[j].toNat : Int)) = true := by simp; omega
                  have b3 : decide ((X[j].toNat : Int) ≤ 57) = false := by simp; omega
                  have b4 : decide ((65 : Int) ≤ (X[j].toNat : Int)) = true := by simp; omega
                  have b5 : decide ((X[j].toNat : Int) ≤ 90) = false := by simp; omega
                  have q0 : ((X[j].toNat : Int) == 46) = false := by simp; omega
                  have q1 : ((X[j].toNat : Int) == 45) = false := by simp; omega
                  have q2 : ((X[j].toNat : Int) == 95) = false := by simp; omega
                  have q3 : ((X[j].toNat : Int) == 126) = false := by simp; omega
                  have hFB : FB = false := by rw [HF1.out, Bool.eq_iff_iff]; simp; omega
                  have hFP : FP = false := by rw [HF2.out, hFB, Bool.eq_iff_iff]; simp; omega
                  have hE : E46 = false := by rw [← t46]; exact q0
                  subst hE
                  rw [hFB, hFP] at HFB
                  clear h1 h2 hFB hFP HF1 HF2 t46 hcn
                  have HN2 := hidM (HBAD.out (by rw [HFB.out]; split <;> rfl))
                  clear HBAD HFB HT1 HT2
                  by_cases hk0 : k = 0
                  · have z0 : ((k : Int) == 0) = true := by rw [hk0]; rfl
                    clear hk0
                    go_wp2
                    go_ret
                    exact ⟨by rw [HN2.out]; rfl, HB2.out⟩
                  · have z0 : ((k : Int) == 0) = false := by simp; omega
                    clear hk0
                    go_wp2
                    go_ret
                    exact ⟨by rw [HN2.out]; rfl, HB2.out⟩
            · as_aux_lemma =>
                rcases (show (0 ≤ X[j].toNat ∧ X[j].toNat ≤ 44) ∨ (45 ≤ X[j].toNat ∧ X[j].toNat ≤ 45) ∨ (46 ≤ X[j].toNat ∧ X[j].toNat ≤ 46) ∨ (47 ≤ X[j].toNat ∧ X[j].toNat ≤ 47) ∨ (48 ≤ X[j].toNat ∧ X[j].toNat ≤ 57) ∨ (58 ≤ X[j].toNat ∧ X[j].toNat ≤ 64) ∨ (65 ≤ X[j].toNat ∧ X[j].toNat ≤ 90) ∨ (91 ≤ X[j].toNat ∧ X[j].toNat ≤ 94) ∨ (95 ≤ X[j].toNat ∧ X[j].toNat ≤ 95) ∨ (96 ≤ X[j].toNat ∧ X[j].toNat ≤ 96) ∨ (97 ≤ X[j].toNat ∧ X[j].toNat ≤ 122) ∨ (123 ≤ X[j].toNat ∧ X[j].toNat ≤ 125) ∨ (126 ≤ X[j].toNat ∧ X[j].toNat ≤ 126) ∨ (127 ≤ X[j].toNat ∧ X[j].toNat ≤ 255) by omega) with h | h | h | h | h | h | h | h | h | h | h | h | h | h
                · obtain ⟨h1, h2⟩ := h
                  have b0 : decide ((97 : Int) ≤ (X[j].toNat : Int)) = false := by simp; omega
                  have b1 : decide ((X[j].toNat : Int) ≤ 122) = true := by simp; omega
                  have b2 : decide ((48 : Int) ≤ (X[j].toNat : Int)) = false := by simp; omega
                  have b3 : decide ((X[j].toNat : Int) ≤ 57) = true := by simp; omega
                  have b4 : decide ((65 : Int) ≤ (X[j].toNat : Int)) = false := by simp; omega
                  have b5 : decide ((X[j].toNat : Int) ≤ 90) = true := by simp; omega
                  have q0 : ((X[j].toNat : Int) == 46) = false := by simp; omega
                  have q1 : ((X[j].toNat : Int) == 45) = false := by simp; omega
                  have q2 : ((X[j].toNat : Int) == 95) = false := by simp; omega
                  have q3 : ((X[j].toNat : Int) == 126) = false := by simp; omega
                  have hFB : FB = false := by rw [HF1.out, Bool.eq_iff_iff]; simp; omega
                  have hFP : FP = false := by rw [HF2.out, hFB, Bool.eq_iff_iff]; simp; omega
                  have hE : E46 = false := by rw [← t46]; exact q0
                  subst hE
                  rw [hFB, hFP] at HFB
                  clear h1 h2 hFB hFP HF1 HF2 t46 hcn
                  have HN2 := hidM (HBAD.out (by rw [HFB.out]; split <;> rfl))
                  clear HBAD HFB HT1 HT2
                  by_cases hk0 : k = 0
                  · have z0 : ((k : Int) == 0) = true := by rw [hk0]; rfl
                    clear hk0
                    go_wp2
                    go_ret
                    exact ⟨by rw [HN2.out]; rfl, HB2.out⟩
                  · have z0 : ((k : Int) == 0) = false := by simp; omega
                    clear hk0
                    go_wp2
                    go_ret
                    exact ⟨by rw [HN2.out]; rfl, HB2.out⟩
                · obtain ⟨h1, h2⟩ := h
                  have b0 : decide ((97 : Int) ≤ (X[j].toNat : Int)) = false := by simp; omega
                  have b1 : decide ((X[j].toNat : Int) ≤ 122) = true := by simp; omega
                  have b2 : decide ((48 : Int) ≤ (X[j].toNat : Int)) = false := by simp; omega
                  have b3 : decide ((X[j].toNat : Int) ≤ 57) = true := by simp; omega
                  have b4 : decide ((65 : Int) ≤ (X[j].toNat : Int)) = false := by simp; omega
                  have b5 : decide ((X[j].toNat : Int) ≤ 90) = true := by simp; omega
                  have q0 : ((X[j].toNat : Int) == 46) = false := by simp; omega
                  have q1 : ((X[j].toNat : Int) == 45) = true := by simp; omega
                  have q2 : ((X[j].toNat : Int) == 95) = false := by simp; omega
                  have q3 : ((X[j].toNat : Int) == 126) = false := by simp; omega
                  have hFB : FB = true := by rw [HF1.out, Bool.eq_iff_iff]; simp; omega
                  have hFP : FP = true := by rw [HF2.out, hFB, Bool.eq_iff_iff]; simp
                  have hE : E46 = false := by rw [← t46]; exact q0
                  subst hE
                  rw [hFB, hFP] at HFB
                  clear h1 h2 hFB hFP HF1 HF2 t46 hcn
                  have HG : Hid (BB = true) := by unfold Hid; rw [HFB.out]; split <;> rfl
                  rw [HG.out] at HT2
                  clear HBAD HFB
                  go_wp2
                  go_roundw
                  case rel => exact ⟨j + 1, _, by omega, by go_num, rfl, by rw [HT1.out]; rfl, HT2.out, trivial⟩
                  case measure => (show X.size - ((j : Int) + 1).toNat < X.size - ((j : Int)).toNat); omega
                · obtain ⟨h1, h2⟩ := h
                  have b0 : decide ((97 : Int) ≤ (X[j].toNat : Int)) = false := by simp; omega
                  have b1 : decide ((X[j].toNat : Int) ≤ 122) = true := by simp; omega
                  have b2 : decide ((48 : Int) ≤ (X[j].toNat : Int)) = false := by simp; omega
                  have b3 : decide ((X[j].toNat : Int) ≤ 57) = true := by simp; omega
                  have b4 : decide ((65 : Int) ≤ (X[j].toNat : Int)) = false := by simp; omega
                  have b5 : decide ((X[j].toNat : Int) ≤ 90) = true := by simp; omega
                  have q0 : ((X[j].toNat : Int) == 46) = true := by simp; omega
                  have q1 : ((X[j].toNat : Int) == 45) = false := by simp; omega
                  have q2 : ((X[j].toNat : Int) == 95) = false := by simp; omega
                  have q3 : ((X[j].toNat : Int) == 126) = false := by simp; omega
                  have hFB : FB = true := by rw [HF1.out, Bool.eq_iff_iff]; simp; omega
                  have hFP : FP = true := by rw [HF2.out, hFB, Bool.eq_iff_iff]; simp
                  have hE : E46 = true := by rw [← t46]; exact q0
                  subst hE
                  rw [hFB, hFP] at HFB
                  clear h1 h2 hFB hFP HF1 HF2 t46 hcn
                  have HG : Hid (BB = true) := by unfold Hid; rw [HFB.out]; split <;> rfl
                  rw [HG.out] at HT2
                  clear HBAD HFB
                  go_wp2
                  go_roundw
                  case rel => exact ⟨j + 1, _, by omega, by go_num, rfl, by rw [HT1.out]; rfl, HT2.out, trivial⟩
                  case measure => (show X.size - ((j : Int) + 1).toNat < X.size - ((j : Int)).toNat); omega
                · obtain ⟨h1, h2⟩ := h
                  have b0 : decide ((97 : Int) ≤ (X[j].toNat : Int)) = false := by simp; omega
                  have b1 : decide ((X[j].toNat : Int) ≤ 122) = true := by simp; omega
                  have b2 : decide ((48 : Int) ≤ (X[j].toNat : Int)) = false := by simp; omega
                  have b3 : decide ((X[j].toNat : Int) ≤ 57) = true := by simp; omega
                  have b4 : decide ((65 : Int) ≤ (X[j].toNat : Int)) = false := by simp; omega
                  have b5 : decide ((X[j].toNat : Int) ≤ 90) = true := by simp; omega
                  have q0 : ((X[j].toNat : Int) == 46) = false := by simp; omega
                  have q1 : ((X[j].toNat : Int) == 45) = false := by simp; omega
                  have q2 : ((X[j].toNat : Int) == 95) = false := by simp; omega
                  have q3 : ((X[j].toNat : Int) == 126) = false := by simp; omega
                  have hFB : FB = false := by rw [HF1.out, Bool.eq_iff_iff]; simp; omega
                  have hFP : FP = false := by rw [HF2.out, hFB, Bool.eq_iff_iff]; simp; omega
                  have hE : E46 = false := by rw [← t46]; exact q0
                  subst hE
                  rw [hFB, hFP] at HFB
                  clear h1 h2 hFB hFP HF1 HF2 t46 hcn
                  have HN2 := hidM (HBAD.out (by rw [HFB.out]; split <;> rfl))
                  clear HBAD HFB HT1 HT2
                  by_cases hk0 : k = 0
                  · have z0 : ((k : Int) == 0) = true := by rw [hk0]; rfl
                    clear hk0
                    go_wp2
                    go_ret
                    exact ⟨by rw [HN2.out]; rfl, HB2.out⟩
                  · have z0 : ((k : Int) == 0) = false := by simp; omega
                    clear hk0
                    go_wp2
                    go_ret
                    exact ⟨by rw [HN2.out]; rfl, HB2.out⟩
                · obtain ⟨h1, h2⟩ := h
                  have b0 : decide ((97 : Int) ≤ (X[j].toNat : Int)) = false := by simp; omega
                  have b1 : decide ((X[j].toNat : Int) ≤ 122) = true := by simp; omega
                  have b2 : decide ((48 : Int) ≤ (X[j].toNat : Int)) = true := by simp; omega
                  have b3 : decide ((X[j].toNat : Int) ≤ 57) = true := by simp; omega
                  have b4 : decide ((65 : Int) ≤ (X[j].toNat : Int)) = false := by simp; omega
                  have b5 : decide ((X[j].toNat : Int) ≤ 90) = true := by simp; omega
                  have q0 : ((X[j].toNat : Int) == 46) = false := by simp; omega
                  have q1 : ((X[j].toNat : Int) == 45) = false := by simp; omega
                  have q2 : ((X[j].toNat : Int) == 95) = false := by simp; omega
                  have q3 : ((X[j].toNat : Int) == 126) = false := by simp; omega
                  have hFB : FB = true := by rw [HF1.out, Bool.eq_iff_iff]; simp; omega
                  have hFP : FP = true := by rw [HF2.out, hFB, Bool.eq_iff_iff]; simp
                  have hE : E46 = false := by rw [← t46]; exact q0
                  subst hE
                  rw [hFB, hFP] at HFB
                  clear h1 h2 hFB hFP HF1 HF2 t46 hcn
                  have HG : Hid (BB = true) := by unfold Hid; rw [HFB.out]; split <;> rfl
                  rw [HG.out] at HT2
                  clear HBAD HFB
                  go_wp2
                  go_roundw
                  case rel => exact ⟨j + 1, _, by omega, by go_num, rfl, by rw [HT1.out]; rfl, HT2.out, trivial⟩
                  case measure => (show X.size - ((j : Int) + 1).toNat < X.size - ((j : Int)).toNat); omega
                · obtain ⟨h1, h2⟩ := h
                  have b0 : decide ((97 : Int) ≤ (X[j].toNat : Int)) = false := by simp; omega
                  have b1 : decide ((X[j].toNat : Int) ≤ 122) = true := by simp; omega
                  have b2 : decide ((48 : Int) ≤ (X[j].toNat : Int)) = true := by simp; omega
                  have b3 : decide ((X[j].toNat : Int) ≤ 57) = false := by simp; omega
                  have b4 : decide ((65 : Int) ≤ (X[j].toNat : Int)) = false := by simp; omega
                  have b5 : decide ((X[j].toNat : Int) ≤ 90) = true := by simp; omega
                  have q0 : ((X[j].toNat : Int) == 46) = false := by simp; omega
                  have q1 : ((X[j].toNat : Int) == 45) = false := by simp; omega
                  have q2 : ((X[j].toNat : Int) == 95) = false := by simp; omega
                  have q3 : ((X[j].toNat : Int) == 126) = false := by simp; omega
                  have hFB : FB = false := by rw [HF1.out, Bool.eq_iff_iff]; simp; omega
                  have hFP : FP = false := by rw [HF2.out, hFB, Bool.eq_iff_iff]; simp; omega
                  have hE : E46 = false := by rw [← t46]; exact q0
                  subst hE
                  rw [hFB, hFP] at HFB
                  clear h1 h2 hFB hFP HF1 HF2 t46 hcn
                  have HN2 := hidM (HBAD.out (by rw [HFB.out]; split <;> rfl))
                  clear HBAD HFB HT1 HT2
                  by_cases hk0 : k = 0
                  · have z0 : ((k : Int) == 0) = true := by rw [hk0]; rfl
                    clear hk0
                    go_wp2
                    go_ret
                    exact ⟨by rw [HN2.out]; rfl, HB2.out⟩
                  · have z0 : ((k : Int) == 0) = false := by simp; omega
                    clear hk0
                    go_wp2
                    go_ret
                    exact ⟨by rw [HN2.out]; rfl, HB2.out⟩
                · obtain ⟨h1, h2⟩ := h
                  have b0 : decide ((97 : Int) ≤ (X[j].toNat : Int)) = false := by simp; omega
                  have b1 : decide ((X[j].toNat : Int) ≤ 122) = true := by simp; omega
                  have b2 : decide ((48 : Int) ≤ (X[j].toNat : Int)) = true := by simp; omega
                  have b3 : decide ((X[j].toNat : Int) ≤ 57) = false := by simp; omega
                  have b4 : decide ((65 : Int) ≤ (X[j].toNat : Int)) = true := by simp; omega
                  have b5 : decide ((X[j].toNat : Int) ≤ 90) = true := by simp; omega
                  have q0 : ((X[j].toNat : Int) == 46) = false := by simp; omega
                  have q1 : ((X[j].toNat : Int) == 45) = false := by simp; omega
                  have q2 : ((X[j].toNat : Int) == 95) = false := by simp; omega
                  have q3 : ((X[j].toNat : Int) == 126) = false := by simp; omega
                  have hFB : FB = false := by rw [HF1.out, Bool.eq_iff_iff]; simp; omega
                  have hFP : FP = true := by rw [HF2.out, hFB, Bool.eq_iff_iff]; simp; omega
                  have hE : E46 = false := by rw [← t46]; exact q0
                  subst hE
                  rw [hFB, hFP] at HFB
                  clear h1 h2 hFB hFP HF1 HF2 t46 hcn
                  by_cases hk0 : k = 0
                  · have z0 : ((k : Int) == 0) = true := by rw [hk0]; rfl
                    have HN2 := hidM (HBAD.out (by rw [HFB.out, if_pos hk0]))
                    clear HBAD HFB hk0
                    go_wp2
                    go_ret
                    exact ⟨by rw [HN2.out]; rfl, HB2.out⟩
                  · have z0 : ((k : Int) == 0) = false := by simp; omega
                    rw [HFB.out, if_neg hk0] at HT2
                    clear HBAD HFB hk0
                    go_wp2
                    go_roundw
                    case rel => exact ⟨j + 1, _, by omega, by go_num, rfl, by rw [HT1.out]; rfl, HT2.out, trivial⟩
                    case measure => (show X.size - ((j : Int) + 1).toNat < X.size - ((j : Int)).toNat); omega
                · obtain ⟨h1, h2⟩ := h
                  have b0 : decide ((97 : Int) ≤ (X[j].toNat : Int)) = false := by simp; omega
                  have b1 : decide ((X[j].toNat : Int) ≤ 122) = true := by simp; omega
                  have b2 : decide ((48 : Int) ≤ (X[j].toNat : Int)) = true := by simp; omega
                  have b3 : decide ((X[j].toNat : Int) ≤ 57) = false := by simp; omega
                  have b4 : decide ((65 : Int) ≤ (X[j].toNat : Int)) = true := by simp; omega
                  have b5 : decide ((X[j].toNat : Int) ≤ 90) = false := by simp; omega
                  have q0 : ((X[j].toNat : Int) == 46) = false := by simp; omega
                  have q1 : ((X[j].toNat : Int) == 45) = false := by simp; omega
                  have q2 : ((X[j].toNat : Int) == 95) = false := by simp; omega
                  have q3 : ((X[j].toNat : Int) == 126) = false := by simp; omega
                  have hFB : FB = false := by rw [HF1.out, Bool.eq_iff_iff]; simp; omega
                  have hFP : FP = false := by rw [HF2.out, hFB, Bool.eq_iff_iff]; simp; omega
                  have hE : E46 = false := by rw [← t46]; exact q0
                  subst hE
                  rw [hFB, hFP] at HFB
                  clear h1 h2 hFB hFP HF1 HF2 t46 hcn
                  have HN2 := hidM (HBAD.out (by rw [HFB.out]; split <;> rfl))
                  clear HBAD HFB HT1 HT2
                  by_cases hk0 : k = 0
                  · have z0 : ((k : Int) == 0) = true := by rw [hk0]; rfl
                    clear hk0
                    go_wp2
                    go_ret
                    exact ⟨by rw [HN2.out]; rfl, HB2.out⟩
                  · have z0 : ((k : Int) == 0) = false := by simp; omega
                    clear hk0
                    go_wp2
                    go_ret
                    exact ⟨by rw [HN2.out]; rfl, HB2.out⟩
                · obtain ⟨h1, h2⟩ := h
                  have b0 : decide ((97 : Int) ≤ (X[j].toNat : Int)) = false := by simp; omega
                  have b1 : decide ((X[j].toNat : Int) ≤ 122) = true := by simp; omega
                  have b2 : decide ((48 : Int) ≤ (X[j].toNat : Int)) = true := by simp; omega
                  have b3 : decide ((X[j].toNat : Int) ≤ 57) = false := by simp; omega
                  have b4 : decide ((65 : Int) ≤ (X[j].toNat : Int)) = true := by simp; omega
                  have b5 : decide ((X[j].toNat : Int) ≤ 90) = false := by simp; omega
                  have q0 : ((X[j].toNat : Int) == 46) = false := by simp; omega
                  have q1 : ((X[j].toNat : Int) == 45) = false := by simp; omega
                  have q2 : ((X[j].toNat : Int) == 95) = true := by simp; omega
                  have q3 : ((X[j].toNat : Int) == 126) = false := by simp; omega
                  have hFB : FB = false := by rw [HF1.out, Bool.eq_iff_iff]; simp; omega
                  have hFP : FP = true := by rw [HF2.out, hFB, Bool.eq_iff_iff]; simp; omega
                  have hE : E46 = false := by rw [← t46]; exact q0
                  subst hE
                  rw [hFB, hFP] at HFB
                  clear h1 h2 hFB hFP HF1 HF2 t46 hcn
                  by_cases hk0 : k = 0
                  · have z0 : ((k : Int) == 0) = true := by rw [hk0]; rfl
                    have HN2 := hidM (HBAD.out (by rw [HFB.out, if_pos hk0]))
                    clear HBAD HFB hk0
                    go_wp2
                    go_ret
                    exact ⟨by rw [HN2.out]; rfl, HB2.out⟩
                  · have z0 : ((k : Int) == 0) = false := by simp; omega
                    rw [HFB.out, if_neg hk0] at HT2
                    clear HBAD HFB hk0
                    go_wp2
                    go_roundw
                    case rel => exact ⟨j + 1, _, by omega, by go_num, rfl, by rw [HT1.out]; rfl, HT2.out, trivial⟩
                    case measure => (show X.size - ((j : Int) + 1).toNat < X.size - ((j : Int)).toNat); omega
                · obtain ⟨h1, h2⟩ := h
                  have b0 : decide ((97 : Int) ≤ (X[j].toNat : Int)) = false := by simp; omega
                  have b1 : decide ((X[j].toNat : Int) ≤ 122) = true := by simp; omega
                  have b2 : decide ((48 : Int) ≤ (X[j].toNat : Int)) = true := by simp; omega
                  have b3 : decide ((X[j].toNat : Int) ≤ 57) = false := by simp; omega
                  have b4 : decide ((65 : Int) ≤ (X[j].toNat : Int)) = true := by simp; omega
                  have b5 : decide ((X[j].toNat : Int) ≤ 90) = false := by simp; omega
                  have q0 : ((X[j].toNat : Int) == 46) = false := by simp; omega
                  have q1 : ((X[j].toNat : Int) == 45) = false := by simp; omega
                  have q2 : ((X[j].toNat : Int) == 95) = false := by simp; omega
                  have q3 : ((X[j].toNat : Int) == 126) = false := by simp; omega
                  have hFB : FB = false := by rw [HF1.out, Bool.eq_iff_iff]; simp; omega
                  have hFP : FP = false := by rw [HF2.out, hFB, Bool.eq_iff_iff]; simp; omega
                  have hE : E46 = false := by rw [← t46]; exact q0
                  subst hE
                  rw [hFB, hFP] at HFB
                  clear h1 h2 hFB hFP HF1 HF2 t46 hcn
                  have HN2 := hidM (HBAD.out (by rw [HFB.out]; split <;> rfl))
                  clear HBAD HFB HT1 HT2
                  by_cases hk0 : k = 0
                  · have z0 : ((k : Int) == 0) = true := by rw [hk0]; rfl
                    clear hk0
                    go_wp2
                    go_ret
                    exact ⟨by rw [HN2.out]; rfl, HB2.out⟩
                  · have z0 : ((k : Int) == 0) = false := by simp; omega
                    clear hk0
                    go_wp2
                    go_ret
                    exact ⟨by rw [HN2.out]; rfl, HB2.out⟩
                · obtain ⟨h1, h2⟩ := h
                  have b0 : decide ((97 : Int) ≤ (X[j].toNat : Int)) = true := by simp; omega
                  have b1 : decide ((X[j].toNat : Int) ≤ 122) = true := by simp; omega
                  have b2 : decide ((48 : Int) ≤ (X[j].toNat : Int)) = true := by simp; omega
                  have b3 : decide ((X[j].toNat : Int) ≤ 57) = false := by simp; omega
                  have b4 : decide ((65 : Int) ≤ (X[j].toNat : Int)) = true := by simp; omega
                  have b5 : decide ((X[j].toNat : Int) ≤ 90) = false := by simp; omega
                  have q0 : ((X[j].toNat : Int) == 46) = false := by simp; omega
                  have q1 : ((X[j].toNat : Int) == 45) = false := by simp; omega
                  have q2 : ((X[j].toNat : Int) == 95) = false := by simp; omega
                  have q3 : ((X[j].toNat : Int) == 126) = false := by simp; omega
                  have hFB : FB = true := by rw [HF1.out, Bool.eq_iff_iff]; simp; omega
                  have hFP : FP = true := by rw [HF2.out, hFB, Bool.eq_iff_iff]; simp
                  have hE : E46 = false := by rw [← t46]; exact q0
                  subst hE
                  rw [hFB, hFP] at HFB
                  clear h1 h2 hFB hFP HF1 HF2 t46 hcn
                  have HG : Hid (BB = true) := by unfold Hid; rw [HFB.out]; split <;> rfl
                  rw [HG.out] at HT2
                  clear HBAD HFB
                  go_wp2
                  go_roundw
                  case rel => exact ⟨j + 1, _, by omega, by go_num, rfl, by rw [HT1.out]; rfl, HT2.out, trivial⟩
                  case measure => (show X.size - ((j : Int) + 1).toNat < X.size - ((j : Int)).toNat); omega
                · obtain ⟨h1, h2⟩ := h
                  have b0 : decide ((97 : Int) ≤ (X[j].toNat : Int)) = true := by simp; omega
                  have b1 : decide ((X[j].toNat : Int) ≤ 122) = false := by simp; omega
                  have b2 : decide ((48 : Int) ≤ (X[j].toNat : Int)) = true := by simp; omega
                  have b3 : decide ((X[j].toNat : Int) ≤ 57) = false := by simp; omega
                  have b4 : decide ((65 : Int) ≤ (X[j].toNat : Int)) = true := by simp; omega
                  have b5 : decide ((X[j].toNat : Int) ≤ 90) = false := by simp; omega
                  have q0 : ((X[j].toNat : Int) == 46) = false := by simp; omega
                  have q1 : ((X[j].toNat : Int) == 45) = false := by simp; omega
                  have q2 : ((X[j].toNat : Int) == 95) = false := by simp; omega
                  have q3 : ((X[j].toNat : Int) == 126) = false := by simp; omega
                  have hFB : FB = false := by rw [HF1.out, Bool.eq_iff_iff]; simp; omega
                  have hFP : FP = false := by rw [HF2.out, hFB, Bool.eq_iff_iff]; simp; omega
                  have hE : E46 = false := by rw [← t46]; exact q0
                  subst hE
                  rw [hFB, hFP] at HFB
                  clear h1 h2 hFB hFP HF1 HF2 t46 hcn
                  have HN2 := hidM (HBAD.out (by rw [HFB.out]; split <;> rfl))
                  clear HBAD HFB HT1 HT2
                  by_cases hk0 : k = 0
                  · have z0 : ((k : Int) == 0) = true := by rw [hk0]; rfl
                    clear hk0
                    go_wp2
                    go_ret
                    exact ⟨by rw [HN2.out]; rfl, HB2.out⟩
                  · have z0 : ((k : Int) == 0) = false := by simp; omega
                    clear hk0
                    go_wp2
                    go_ret
                    exact ⟨by rw [HN2.out]; rfl, HB2.out⟩
                · obtain ⟨h1, h2⟩ := h
                  have b0 : decide ((97 : Int) ≤ (X[j].toNat : Int)) = true := by simp; omega
                  have b1 : decide ((X[j].toNat : Int) ≤ 122) = false := by simp; omega
                  have b2 : decide ((48 : Int) ≤ (X[j].toNat : Int)) = true := by simp; omega
                  have b3 : decide ((X[j].toNat : Int) ≤ 57) = false := by simp; omega
                  have b4 : decide ((65 : Int) ≤ (X[j].toNat : Int)) = true := by simp; omega
                  have b5 : decide ((X[j].toNat : Int) ≤ 90) = false := by simp; omega
                  have q0 : ((X[j].toNat : Int) == 46) = false := by simp; omega
                  have q1 : ((X[j].toNat : Int) == 45) = false := by simp; omega
                  have q2 : ((X[j].toNat : Int) == 95) = false := by simp; omega
                  have q3 : ((X[j].toNat : Int) == 126) = true := by simp; omega
                  have hFB : FB = false := by rw [HF1.out, Bool.eq_iff_iff]; simp; omega
                  have hFP : FP = true := by rw [HF2.out, hFB, Bool.eq_iff_iff]; simp; omega
                  have hE : E46 = false := by rw [← t46]; exact q0
                  subst hE
                  rw [hFB, hFP] at HFB
                  clear h1 h2 hFB hFP HF1 HF2 t46 hcn
                  by_cases hk0 : k = 0
                  · have z0 : ((k : Int) == 0) = true := by rw [hk0]; rfl
                    have HN2 := hidM (HBAD.out (by rw [HFB.out, if_pos hk0]))
                    clear HBAD HFB hk0
                    go_wp2
                    go_ret
                    exact ⟨by rw [HN2.out]; rfl, HB2.out⟩
                  · have z0 : ((k : Int) == 0) = false := by simp; omega
                    rw [HFB.out, if_neg hk0] at HT2
                    clear HBAD HFB hk0
                    go_wp2
                    go_roundw
                    case rel => exact ⟨j + 1, _, by omega, by go_num, rfl, by rw [HT1.out]; rfl, HT2.out, trivial⟩
                    case measure => (show X.size - ((j : Int) + 1).toNat < X.size - ((j : Int)).toNat); omega
                · obtain ⟨h1, h2⟩ := h
                  have b0 : decide ((97 : Int) ≤ (X[j].toNat : Int)) = true := by simp; omega
                  have b1 : decide ((X[j].toNat : Int) ≤ 122) = false := by simp; omega
                  have b2 : decide ((48 : Int) ≤ (X[j].toNat : Int)) = true := by simp; omega
                  have b3 : decide ((X[j].toNat : Int) ≤ 57) = false := by simp; omega
                  have b4 : decide ((65 : Int) ≤ (X[j].toNat : Int)) = true := by simp; omega
                  have b5 : decide ((X[j].toNat : Int) ≤ 90) = false := by simp; omega
                  have q0 : ((X[j].toNat : Int) == 46) = false := by simp; omega
                  have q1 : ((X[j].toNat : Int) == 45) = false := by simp; omega
                  have q2 : ((X[j].toNat : Int) == 95) = false := by simp; omega
                  have q3 : ((X[j].toNat : Int) == 126) = false := by simp; omega
                  have hFB : FB = false := by rw [HF1.out, Bool.eq_iff_iff]; simp; omega
                  have hFP : FP = false := by rw [HF2.out, hFB, Bool.eq_iff_iff]; simp; omega
                  have hE : E46 = false := by rw [← t46]; exact q0
                  subst hE
                  rw [hFB, hFP] at HFB
                  clear h1 h2 hFB hFP HF1 HF2 t46 hcn
                  have HN2 := hidM (HBAD.out (by rw [HFB.out]; split <;> rfl))
                  clear HBAD HFB HT1 HT2
                  by_cases hk0 : k = 0
                  · have z0 : ((k : Int) == 0) = true := by rw [hk0]; rfl
                    clear hk0
                    go_wp2
                    go_ret
                    exact ⟨by rw [HN2.out]; rfl, HB2.out⟩
                  · have z0 : ((k : Int) == 0) = false := by simp; omega
                    clear hk0
                    go_wp2
                    go_ret
                    exact ⟨by rw [HN2.out]; rfl, HB2.out⟩
          · have jj : ¬ (j : Int) < (X.size : Int) := by omega
            have hcD : X.data.toList.contains 46 = D := by
              have := HDJ.out
              rwa [List.take_of_length_le (by rw [sl_len]; omega)] at this
            have hcA : X.data.toList.all (bytR k) = true := by
              have := HAL.out
              rwa [List.take_of_length_le (by rw [sl_len]; omega)] at this
            rw [hcD, hcA] at HPQ
            clear hcD hcA HDJ HAL
            by_cases hk0 : k = 0
            · have z0 : ((k : Int) == 0) = true := by rw [hk0]; rfl
              have HQ2 : Hid (parR k X.data.toList = (D && !T2)) := by unfold Hid; rw [HPQ.out, hk0]; simp
              clear hk0 HPQ
              cases D with
              | false =>
                have HN2 := hidM (HNO.out (by rw [HQ2.out]; rfl))
                clear HNO HNX HQ2
                go_wp2
                go_ret
                exact ⟨by rw [HN2.out]; rfl, HB2.out⟩
              | true =>
                cases T2 with
                | true =>
                  have HN2 := hidM (HNO.out (by rw [HQ2.out]; rfl))
                  clear HNO HNX HQ2
                  go_wp2
                  go_ret
                  exact ⟨by rw [HN2.out]; rfl, HB2.out⟩
                | false =>
                  have HN2 := hidM (HNX.out (by rw [HQ2.out]; rfl))
                  clear HNO HNX HQ2
                  go_wp2
                  go_roundw
                  case rel => exact ⟨k + 1, by omega, by go_num, HN2.out, trivial⟩
                  case measure => (show n - ((k : Int) + 1).toNat < n - ((k : Int)).toNat); omega
            · have z0 : ((k : Int) == 0) = false := by simp; omega
              have HN2 := hidM (HNX.out (by rw [HPQ.out]; simp [hk0]))
              clear HNO HNX HPQ hk0
              go_wp2
              go_roundw
              case rel => exact ⟨k + 1, by omega, by go_num, HN2.out, trivial⟩
              case measure => (show n - ((k : Int) + 1).toNat < n - ((k : Int)).toNat); omega
      · have HR : Hid (R = true) := HPP.out.2 fun m hm => HD.out m hm (by rw [← HN.out] at hm; omega)
        have kk : ¬ (k : Int) < (n : Int) := by omega
        go_wp2
        go_ret
        exact ⟨by rw [HR.out]; rfl, HB2.out⟩
  · have g200 : (200 : Int) < (s.size : Int) := by omega
    have HR : Hid (pathL s.data.toList = false) := by unfold Hid pathL; rw [decide_eq_false (by rw [sl_len]; omega)]; rfl
    go_enter Tryz.func19, Tryz.ntmps19
    go_wp2
    go_ret
    exact ⟨by rw [HR.out]; rfl, Below.refl _ _⟩
end Go.Proofs.YtmhjdahmmdfbcaaGreatDoor.M
namespace Go.Proofs.YtmhjdahmmdfbcaaGreatDoor.M
open Go.RowKit
/-- no part but the first is empty -/
def Full (l : List UInt8) : Prop := ∀ p ∈ (partsL l).tail, p ≠ []
theorem Full.tail {c : UInt8} {r : List UInt8} (h : Full (c :: r)) : Full r := by
  unfold Full at *
  rw [partsL_cons] at h
  by_cases hc : c = 47
  · rw [if_pos hc] at h
    intro p hp
    exact h p (List.mem_of_mem_tail hp)
  · rw [if_neg hc] at h
    cases hp : partsL r with
    | nil => exact absurd hp (partsL_ne r)
    | cons x t => rw [hp] at h; exact h
theorem Full.next {r : List UInt8} (h : Full (47 :: r)) : ∃ d q, r = d :: q ∧ d ≠ 47 := by
  unfold Full at h
  rw [partsL_cons, if_pos rfl] at h
  cases r with
  | nil => exact absurd rfl (h [] (by simp [partsL]))
  | cons d q =>
    refine ⟨d, q, rfl, fun e => ?_⟩
    subst e
    exact absurd rfl (h [] (by rw [partsL_cons]; simp))
def plainB : ByteArray := ⟨#[109, 111, 100, 117, 108, 101, 32]⟩
set_option maxHeartbeats 1000000 in
theorem plain_mod_any (s : ByteArray) (w : World) (hs : s.size ≤ 140737488355328) : Calls Tryz.prog 21 #[.string s] w fun e w' => e = .returned (.string (plainB ++ s ++ (⟨#[10]⟩ : ByteArray))) ∧ w' = w := by
  unfold plainB
  obtain ⟨Q1, h1⟩ : ∃ Q1, (⟨#[109, 111, 100, 117, 108, 101, 32]⟩ : ByteArray) ++ s = Q1 := ⟨_, rfl⟩
  have hz1 : Q1.size = 7 + s.size := by rw [← h1, ByteArray.size_append]; rfl
  have e1 : ¬ (9223372036854775807 : Nat) < 7 + s.size := by omega
  have e2 : ¬ (9223372036854775807 : Nat) < Q1.size + 1 := by omega
  rw [h1]
  obtain ⟨Q2, h2⟩ : ∃ Q2, Q1 ++ (⟨#[10]⟩ : ByteArray) = Q2 := ⟨_, rfl⟩
  rw [h2]
  have HZ := hidM hz1
  clear hz1
  go_enter Tryz.func21, Tryz.ntmps21
  go_wp2
  go_ret
  exact ⟨rfl, rfl⟩
end Go.Proofs.YtmhjdahmmdfbcaaGreatDoor.M
namespace Go.Proofs.YtmhjdahmmdfbcaaGreatDoor.M
open Go.RowKit
theorem remB_line (c : UInt8) (r t : List UInt8) : remB (c :: r ++ 10 :: t) = remB (c :: r) := by
  cases r with
  | nil => simp [remB]
  | cons d r => simp [remB]
theorem skip_line : ∀ (m : Bool) (l t : List UInt8), 10 ∉ l → skipL m (l ++ 10 :: t) = skipL m l ++ 10 :: t
  | true, [], t, _ => by simp [skipL]
  | false, [], t, _ => by
    have h : remB (10 :: t) = false := by cases t <;> simp [remB]
    simp [skipL, h, blkB]
  | true, c :: r, t, h => by
    have hc : c ≠ 10 := fun e => h (by simp [e])
    rw [List.cons_append, skipL, skipL, if_neg hc, if_neg hc]
    exact skip_line true r t (fun e => h (by simp [e]))
  | false, c :: r, t, h => by
    have hr := remB_line c r t
    rw [List.cons_append] at hr ⊢
    rw [skipL, skipL, hr]
    have h2 : 10 ∉ r := fun e => h (by simp [e])
    by_cases h1 : remB (c :: r) = true
    · rw [if_pos h1, if_pos h1]; exact skip_line true r t h2
    · rw [if_neg h1, if_neg h1]
      by_cases h3 : blkB c = true
      · rw [if_pos h3, if_pos h3]; exact skip_line false r t h2
      · rw [if_neg h3, if_neg h3]; rfl
theorem quo_line : ∀ (n : Nat) (l t : List UInt8), l.length ≤ n → 10 ∉ l → quoL (l ++ 10 :: t) = (quoL l).map fun x => (x.1, x.2 ++ 10 :: t)
  | 0, [], t, _,_ => by rw [List.nil_append, quoL.eq_def]; simp [quoL]
  | n + 1, [], t, _,_ => by rw [List.nil_append, quoL.eq_def]; simp [quoL]
  | n + 1, c :: r, t, hl, h => by
    have hc : c ≠ 10 := fun e => h (by simp [e])
    have h2 : 10 ∉ r := fun e => h (by simp [e])
    rw [List.cons_append, quoL.eq_def, quoL.eq_def (c :: r)]
    simp only
    by_cases h1 : c = 34
    · subst h1; simp
    · rw [if_neg h1, if_neg h1, if_neg hc, if_neg hc]
      by_cases h3 : c = 92
      · rw [if_pos h3, if_pos h3]
        cases r with
        | nil => simp [mntL]
        | cons d r' =>
          simp only [List.cons_append]
          cases hm : mntL d with
          | none => simp
          | some e =>
            simp only [quo_line n r' t (by simp at hl; omega) (fun e => h2 (by simp [e]))]
            cases quoL r' <;> simp
      · rw [if_neg h3, if_neg h3, quo_line n r t (by simp at hl; omega) h2]
        cases quoL r <;> simp
theorem raw_line : ∀ (l t : List UInt8), 10 ∉ l → rawL (l ++ 10 :: t) = rawL l
  | [], t, _ => by simp [rawL]
  | c :: r, t, h => by
    have hc : c ≠ 10 := fun e => h (by simp [e])
    rw [List.cons_append, rawL, rawL, if_neg hc, if_neg hc, raw_line r t (fun e => h (by simp [e]))]
theorem word_line : ∀ (l t : List UInt8), 10 ∉ l → wordN (l ++ 10 :: t) = wordN l
  | [], t, _ => by simp [wordN, wEnd]
  | c :: r, t, h => by
    have hr := remB_line c r t
    rw [List.cons_append] at hr ⊢
    rw [wordN, wordN, wEnd, wEnd, hr, word_line r t (fun e => h (by simp [e]))]
/-- A token of a line with a line's end behind it. -/
theorem tok_line (l t : List UInt8) (h : 10 ∉ l) : ((tokL l).1 = 1 → tokL (l ++ 10 :: t) = (2, [], t)) ∧ ((tokL l).1 = 6 → (tokL (l ++ 10 :: t)).1 = 6) ∧
    ((tokL l).1 ≠ 1 → (tokL l).1 ≠ 6 → tokL (l ++ 10 :: t) = ((tokL l).1, (tokL l).2.1, (tokL l).2.2 ++ 10 :: t)) ∧ (tokL l).1 ≠ 2 ∧ 10 ∉ (tokL l).2.2 := by
  have hs := skip_line false l t h
  obtain ⟨n, hn, hd⟩ := skip_suf false l
  have h0 : 10 ∉ skipL false l := by rw [hd]; exact fun e => h (List.mem_of_mem_drop e)
  unfold tokL
  rw [hs]
  clear hs hd hn
  generalize skipL false l = k at *
  cases k with
  | nil => simp [tokS]
  | cons c r =>
    have hc : c ≠ 10 := fun e => h0 (by simp [e])
    have hr : 10 ∉ r := fun e => h0 (by simp [e])
    rw [List.cons_append, tokS, tokS, if_neg hc, if_neg hc]
    by_cases h2 : c = 40
    · simp [h2, hr]
    · rw [if_neg h2, if_neg h2]
      by_cases h3 : c = 41
      · simp [h3, hr]
      · rw [if_neg h3, if_neg h3]
        by_cases h4 : c = 34
        · rw [if_pos h4, if_pos h4, quo_line _ r t (Nat.le_refl _) hr]
          cases hq : quoL r with
          | none => simp
          | some x =>
            obtain ⟨m, _,_, h5⟩ := quo_suf _ r x.1 x.2 (Nat.le_refl _) hq
            have : 10 ∉ x.2 := by rw [h5]; exact fun e => hr (List.mem_of_mem_drop e)
            simp [this]
        · rw [if_neg h4, if_neg h4]
          by_cases h5 : c = 96
          · rw [if_pos h5, if_pos h5, raw_line r t hr]
            cases hq : rawL r with
            | none => simp
            | some m =>
              have hm := raw_le r m hq
              have : 10 ∉ r.drop (m + 1) := fun e => hr (List.mem_of_mem_drop e)
              simp only [List.take_append_of_le_length (Nat.le_of_lt hm), List.drop_append_of_le_length (show m + 1 ≤ r.length by omega)]
              simp [this]
          · rw [if_neg h5, if_neg h5, word_line r t hr]
            have hm := word_le r
            have : 10 ∉ r.drop (wordN r) := fun e => hr (List.mem_of_mem_drop e)
            simp only [List.take_append_of_le_length hm, List.drop_append_of_le_length hm]
            simp [this]
end Go.Proofs.YtmhjdahmmdfbcaaGreatDoor.M
namespace Go.Proofs.YtmhjdahmmdfbcaaGreatDoor.M
open Go.RowKit
theorem tok_end (l : List UInt8) (h : (tokL l).1 = 1) : (tokL l).2.2 = [] := by
  unfold tokL at *
  generalize skipL false l = k at *
  cases k with
  | nil => rfl
  | cons c r =>
    rw [tokS] at h
    repeat' split at h
    all_goals simp at h
/-- A line with a line's end behind it. -/
theorem row_line : ∀ (f g : Nat) (l t : List UInt8) ws b, 10 ∉ l → l.length < f → (l ++ 10 :: t).length < g →
    rowG g (l ++ 10 :: t) ws b = (rowG f l ws b).map fun r => (r.1, r.2.1, false, t)
  | 0, _, l, _,_,_,_, h, _ => absurd h (by omega)
  | _, 0, l, _,_,_,_,_, h => absurd h (by omega)
  | f + 1, g + 1, l, t, ws, b, h, hf, hg => by
    obtain ⟨t1, t6, tn, t2, t10⟩ := tok_line l t h
    rw [rowG, rowG]
    by_cases h1 : (tokL l).1 = 1
    · rw [if_pos h1, t1 h1]; simp
    · rw [if_neg h1]
      by_cases h6 : (tokL l).1 = 6
      · have h6' := t6 h6
        rw [if_neg (by omega), if_neg (by omega), if_pos (.inl h6'), if_neg t2, if_pos (.inl h6)]
        rfl
      · rw [tn h1 h6]
        simp only
        rw [if_neg h1, if_neg t2, if_neg t2]
        have hl := tok_less h1 h6
        by_cases hb : (tokL l).1 = 6 ∨ b ≠ 0
        · rw [if_pos hb, if_pos hb]; rfl
        · rw [if_neg hb, if_neg hb]
          have hg2 : ((tokL l).2.2 ++ 10 :: t).length < g := by simp at hg ⊢; omega
          split
          · exact row_line f g _ t _ _ t10 (by omega) hg2
          · exact row_line f g _ t _ _ t10 (by omega) hg2
/-- What is read of a line alone ends the text. -/
theorem row_alone : ∀ (f : Nat) (l : List UInt8) ws b r, 10 ∉ l → l.length < f → rowG f l ws b = some r → r.2.2.1 = true ∧ r.2.2.2 = []
  | 0, l, _,_,_,_, h, _ => absurd h (by omega)
  | f + 1, l, ws, b, r, h, hf, hr => by
    obtain ⟨_,_,_, t2, t10⟩ := tok_line l [] h
    rw [rowG] at hr
    by_cases h1 : (tokL l).1 = 1
    · rw [if_pos h1, tok_end l h1] at hr
      simp at hr; subst hr; exact ⟨rfl, rfl⟩
    · rw [if_neg h1, if_neg t2] at hr
      by_cases hb : (tokL l).1 = 6 ∨ b ≠ 0
      · rw [if_pos hb] at hr; cases hr
      · rw [if_neg hb] at hr
        have hl := tok_less h1 (by omega)
        split at hr
        · exact row_alone f _ _ _ r t10 (by omega) hr
        · exact row_alone f _ _ _ r t10 (by omega) hr
end Go.Proofs.YtmhjdahmmdfbcaaGreatDoor.M
