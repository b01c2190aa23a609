/-
  Walks of the document's Inflate: what a dynamic block answers, what its steps keep.
-/
import Derived.Test.YtkckobhpanghiaaDoorRinI
import Derived.Test.YtkckobhpanghiaaDoorInfJ
namespace Go.Proofs.YtkckobhpanghiaaDoor
open Go.RowKit

/-- what the document's dynamic answers -/
def DynX (R g c T : Nat) (X : List UInt8) (t most : Nat) (v : Value) (o : List UInt8) (w : World) (e : Ending) (w' : World) : Prop :=
  (∃ n t' u1 u2, n ≠ 0 ∧ Dyn X t (.inl n) ∧ e = .returned (.tuple #[u1, u2]) ∧ StX w' R g c T X t' most n v o ∧ Stp R v v w w') ∨
  (∃ cl cd t' a1 a2 k1 k2, Dyn X t (.inr (cl, cd, t')) ∧ cl.Good ∧ cd.Good ∧ e = .returned (.tuple #[.slice a1 cl.L k1, .slice a2 cd.L k2]) ∧ IntsAt w' a1 cl.L .i64 (fun i => (cl.ln i : Int)) ∧ IntsAt w' a2 cd.L .i64 (fun i => (cd.ln i : Int)) ∧ StX w' R g c T X t' most 0 v o ∧ Stp R v v w w' ∧ t ≤ t' ∧ t' ≤ T)
def DynSpec : Prop := ∀ (R g c T t most : Nat) (X o : List UInt8) (v : Value) (w : World), StX w R g c T X t most 0 v o → T ≤ 1000000 → t ≤ T →
  Calls Tryd.prog 38 #[.pointer (some ⟨R, 0, none⟩)] w fun e w' => DynX R g c T X t most v o w e w'
/-- the error, as the box tells it -/
def errX (R : Nat) (w : World) : Nat := match w.cell? ⟨R, 4, none⟩ with
  | some (.int _ x) => x.toNat
  | _ => 0
theorem StX.err {w : World} {R g c T t most e : Nat} {X o : List UInt8} {v : Value} (h : StX w R g c T X t most e v o) : errX R w = e := by
  unfold errX; rw [h.box.c4]; simp
def leftX (R T : Nat) (w : World) : Nat := if errX R w = 0 then 1 + (T - bitX R w) else 0
/-- ahead of a block -/
def BlI (R g c T : Nat) (X : List UInt8) (most : Nat) (w0 wr : World) : Prop :=
  (∃ t v o, (∀ r, Run X most (.blk false) t o r → Run X most (.blk false) 0 [] r) ∧ t ≤ T ∧ o.length ≤ most ∧ StX wr R g c T X t most 0 v o ∧ Below R w0 wr) ∨
  (∃ e t v o, e ≠ 0 ∧ Run X most (.blk false) 0 [] (.bad e) ∧ StX wr R g c T X t most e v o ∧ Below R w0 wr)
theorem Cd.good_fixL : fixLit.Good := ⟨fixLit_ok, fixLit_fit⟩
theorem Cd.good_fixD : fixDist.Good := ⟨fixDist_ok, fixDist_fit⟩
/-- a block's symbols were read -/
theorem PackX.next {cl cd : Cd} {R g c T t t0 most : Nat} {X o o0 : List UInt8} {v v0 : Value} {w w' : World} {last : Bool} (h : PackX cl cd R g c T X t most v o w w') (hR : ∀ r, Run X most (.sym last cl cd) t o r → Run X most (.blk false) t0 o0 r) (_h0 : v = v0) (hT : t0 ≤ t) :
    (∃ e t' v' o', e ≠ 0 ∧ Run X most (.blk false) t0 o0 (.bad e) ∧ StX w' R g c T X t' most e v' o' ∧ Below R w w') ∨
    (∃ t' v' o', (∀ r, Run X most (.blk last) t' o' r → Run X most (.blk false) t0 o0 r) ∧ t0 < t' ∧ t' ≤ T ∧ o'.length ≤ most ∧ StX w' R g c T X t' most 0 v' o' ∧ Below R w w') := by
  rcases h with ⟨e, v', o', t', he, h1, h2, h3⟩ | ⟨t', v', o', h1, h2, h3, h4, h5, h6⟩
  · exact .inl ⟨e, t', v', o', he, hR _ (h1 last), h2, h3.below⟩
  · exact .inr ⟨t', v', o', fun r hr => hR r (h1 last r hr), by omega, h3, h4, h5, h6.below⟩
end Go.Proofs.YtkckobhpanghiaaDoor
namespace Go.Proofs.YtkckobhpanghiaaDoor
open Go.RowKit

/-- nineteen numbers that lie in a block -/
def C19 (w : World) (g : Nat) (h : Nat → Value) : Prop := ∀ i, i < 19 → w.cell? ⟨g, i, none⟩ = some (h i) ∧ w.frozen? ⟨g, i, none⟩ = false
theorem C19.block {w w' : World} {g : Nat} {f : Nat → Value} (h : C19 w g f) (hh : w'.heap[g]? = w.heap[g]?) : C19 w' g f := fun i hi =>
  ⟨(World.cell?_of_block (a := ⟨g, i, none⟩) hh).trans (h i hi).1, (World.frozen?_of_block (a := ⟨g, i, none⟩) hh).trans (h i hi).2⟩
theorem C19.set {w : World} {g p : Nat} {f : Nat → Value} (h : C19 w g f) (u : Value) : C19 (w.setCell ⟨g, p, none⟩ u) g (upd f p u) := fun i hi => by
  refine ⟨?_, by rw [World.frozen?_setCell]; exact (h i hi).2⟩
  by_cases hp : i = p
  · subst hp
    rw [World.cell?_setCell_same _ _ _ (h i hi).1]
    simp [upd]
  · rw [World.cell?_setCell_other _ _ _ _ (fun e => hp (by simp only [Addr.mk.injEq] at e; omega)), (h i hi).1]
    simp [upd, hp]
/-- a cell that is turned in a block of the call's own -/
theorem Stp.setNew {R g o : Nat} {v : Value} {w w' : World} (h : Stp R v v w w') (hR : R ≤ g) (hg : w.heap.size ≤ g) (u : Value) : Stp R v v w (w'.setCell ⟨g, o, none⟩ u) :=
  ⟨h.below.trans ⟨rfl, rfl, rfl, by simp, fun k hk => Below.heap_setCell w' ⟨g, o, none⟩ u k (by show k ≠ g; omega)⟩,
   fun k h1 h2 h3 => by
    obtain ⟨h4, h5, h6⟩ := h.sep k h1 h2 h3
    exact ⟨(Below.heap_setCell w' ⟨g, o, none⟩ u k (by show k ≠ g; omega)).trans h4, h5, by simpa using h6⟩⟩
theorem StX.setNew {w : World} {R g c T t most e q p : Nat} {X o : List UInt8} {v : Value} (h : StX w R g c T X t most e v o) (hR : R < q) (hv : ∀ k, v.ownBlock = some k → k < q) (u : Value) : StX (w.setCell ⟨q, p, none⟩ u) R g c T X t most e v o := by
  have hs : ∀ k, k < q → (w.setCell ⟨q, p, none⟩ u).heap[k]? = w.heap[k]? := fun k hk => Below.heap_setCell w ⟨q, p, none⟩ u k (by show k ≠ q; omega)
  exact ⟨h.box.same (hs R hR), h.bits.block (hs g (by have := h.gR; omega)), h.gR, h.tot, h.cap, h.own.same fun k hk => hs k (hv k hk)⟩
/-- the first set's lengths, so far -/
structure FsS (R g c T : Nat) (X : List UInt8) (t0 most : Nat) (v : Value) (o : List UInt8) (w : World) (g1 g2 j : Nat) (wr : World) : Prop where
  st : StX wr R g c T X (t0 + 3 * j) most 0 v o
  le : t0 + 3 * j ≤ T
  fst : C19 wr g1 (hK X t0 j)
  plc : C19 wr g2 (fun i => .int .i64 (plK i : Int))
  stp : Stp R v v w wr
/-- where the blocks lie -/
structure FsB (R : Nat) (v : Value) (w : World) (g1 g2 : Nat) : Prop where
  r : R < w.heap.size
  a : w.heap.size ≤ g1
  b : w.heap.size ≤ g2
  ne : g1 ≠ g2
  own : ∀ k, v.ownBlock = some k → k < w.heap.size
/-- an error behind which nothing is read -/
def ErX (R g c T : Nat) (X : List UInt8) (most : Nat) (v : Value) (o : List UInt8) (w : World) (e : Nat) (wr : World) : Prop := e ≠ 0 ∧ (∃ t, StX wr R g c T X t most e v o) ∧ Stp R v v w wr
theorem FsS.next {R g c T t0 most g1 g2 j x : Nat} {X o : List UInt8} {v : Value} {w wr w9 : World} (h : FsS R g c T X t0 most v o w g1 g2 j wr) (hB : FsB R v w g1 g2) (hj : j < 19) (hn : num X (t0 + 3 * j) 3 = some x) (hle : t0 + 3 * j + 3 ≤ T) (hs : StX w9 R g c T X (t0 + 3 * j + 3) most 0 v o) (ho : Only R wr w9) :
    FsS R g c T X t0 most v o w g1 g2 (j + 1) (w9.setCell ⟨g1, plK j, none⟩ (.int .i64 (x : Int))) := by
  have hr := hB.r; have ha := hB.a; have hb := hB.b; have hne := hB.ne
  have hx : x = bitsN X (t0 + 3 * j) 3 := by unfold num at hn; split at hn; · simp at hn; omega
                                             · cases hn
  have e3 : t0 + 3 * (j + 1) = t0 + 3 * j + 3 := by omega
  refine ⟨?_, by omega, ?_, ?_, ?_⟩
  · rw [e3]; exact hs.setNew (by omega) (fun k hk => by have := hB.own k hk; omega) _
  · rw [← hK_next X t0 j hj, hx]
    exact (h.fst.block (ho.block g1 (by omega))).set _
  · exact (h.plc.block (ho.block g2 (by omega))).block (Below.heap_setCell w9 _ _ g2 (by show g2 ≠ g1; omega))
  · exact (h.stp.trans (ho.stp (v := v))).setNew (by omega) (by omega) _
theorem FsS.bad {R g c T t0 most g1 g2 j t' e p : Nat} {X o : List UInt8} {v u : Value} {w wr w9 : World} (h : FsS R g c T X t0 most v o w g1 g2 j wr) (hB : FsB R v w g1 g2) (he : e ≠ 0) (hs : StX w9 R g c T X t' most e v o) (ho : Only R wr w9) :
    ErX R g c T X most v o w e (w9.setCell ⟨g1, p, none⟩ u) := by
  have hr := hB.r; have ha := hB.a
  exact ⟨he, ⟨t', hs.setNew (by omega) (fun k hk => by have := hB.own k hk; omega) _⟩, (h.stp.trans (ho.stp (v := v))).setNew (by omega) (by omega) _⟩
theorem FsS.ints {R g c T t0 most g1 g2 j : Nat} {X o : List UInt8} {v : Value} {w wr : World} (h : FsS R g c T X t0 most v o w g1 g2 j wr) : IntsAt wr (some ⟨g1, 0, none⟩) 19 .i64 (fun i => ((firstCd X t0 j).ln i : Int)) := by
  refine ⟨by unfold maxLen; omega, fun i => ?_, .inr ⟨g1, 0, rfl, fun i hi => ?_⟩⟩
  · have := lenK_le X t0 j i
    show (Lit.int .i64 ((lenK X t0 j i : Nat) : Int)).wf = true
    exact WalkArith.wf_i64 ⟨by omega, by omega⟩
  · rw [Nat.zero_add]; exact (h.fst i hi).1
/-- what the document's Check says of the first set -/
theorem chk_first {X : List UInt8} {t0 j : Nat} {e : Ending} (h : ChkPost (fun i => ((firstCd X t0 j).ln i : Int)) 19 e) :
    (¬ Fit (firstCd X t0 j).ln 19 ∧ e = .returned (.int .i64 4)) ∨ (Fit (firstCd X t0 j).ln 19 ∧ e = .returned (.int .i64 0)) := by
  unfold ChkPost at h
  simp only at h
  rcases h with ⟨h1, _⟩ | ⟨_, ⟨i, _, h2⟩, _⟩ | ⟨_, ln, h1, _, h3⟩
  · omega
  · have : (firstCd X t0 j).ln i ≤ 7 := lenK_le X t0 j i
    omega
  · have hc := Fit.congr (ln := ln) (lm := (firstCd X t0 j).ln) (L := 19) (fun i hi => by have := h1 i hi; omega)
    rcases h3 with ⟨h3, h4⟩ | ⟨h3, h4⟩
    · exact .inl ⟨fun hx => h3 (hc.2 hx), h4⟩
    · exact .inr ⟨hc.1 h3, h4⟩
/-- what it says of a part of the lengths -/
theorem chk_part {l : List Nat} {n : Nat} {e : Ending} (hn : n ≤ 320) (h15 : ∀ x ∈ l, x ≤ 15) (h : ChkPost (fun i => ((cdL l).ln i : Int)) n e) :
    (¬ Fit (cdL l).ln n ∧ e = .returned (.int .i64 4)) ∨ (Fit (cdL l).ln n ∧ e = .returned (.int .i64 0)) := by
  unfold ChkPost at h
  simp only at h
  rcases h with ⟨h1, _⟩ | ⟨_, ⟨i, _, h2⟩, _⟩ | ⟨_, ln, h1, _, h3⟩
  · omega
  · have : (cdL l).ln i ≤ 15 := by
      unfold cdL
      simp only [List.getD_eq_getElem?_getD]
      cases hg : l[i]? with
      | none => simp
      | some x => exact h15 x (List.mem_of_getElem? hg)
    omega
  · have hc := Fit.congr (ln := ln) (lm := (cdL l).ln) (L := n) (fun i hi => by have := h1 i hi; omega)
    rcases h3 with ⟨h3, h4⟩ | ⟨h3, h4⟩
    · exact .inl ⟨fun hx => h3 (hc.2 hx), h4⟩
    · exact .inr ⟨hc.1 h3, h4⟩
/-- the lengths, so far -/
structure LnS (R g c T : Nat) (X : List UInt8) (tr most e : Nat) (v : Value) (o : List UInt8) (w w4 : World) (u : Value) (lr : List Nat) (wr : World) : Prop where
  st : StX wr R g c T X tr most e v o
  own : OwnN wr w4.heap.size u lr
  sz : w4.heap.size ≤ wr.heap.size
  frz : ∀ k, w.heap.size ≤ k → k < w4.heap.size → wr.heap[k]? = w4.heap[k]?
  stp : Stp R v v w wr
theorem LnS.only {R g c T tr most e tr' e' : Nat} {X o : List UInt8} {v u : Value} {lr : List Nat} {w w4 wr w' : World} (h : LnS R g c T X tr most e v o w w4 u lr wr) (hR : R < w.heap.size) (h4 : w.heap.size ≤ w4.heap.size) (ho : Only R wr w') (hs : StX w' R g c T X tr' most e' v o) : LnS R g c T X tr' most e' v o w w4 u lr w' :=
  ⟨hs, h.own.only ho (by omega), by rw [ho.size]; exact h.sz, fun k h1 h2 => (ho.block k (by omega)).trans (h.frz k h1 h2), h.stp.trans (ho.stp (v := v))⟩
theorem LnS.codes {R g c T tr most e B : Nat} {X o : List UInt8} {v u : Value} {lr : List Nat} {w w4 wr : World} {a : Option Addr} {cd : Cd} (h : LnS R g c T X tr most e v o w w4 u lr wr) (hB : w.heap.size ≤ B) (hC : CodR w4 B a cd) : CodR wr B a cd :=
  CodesAt.keep hC fun k h1 h2 => h.frz k (by omega) h2
theorem LnS.push {R g c T tr most e x : Nat} {X o : List UInt8} {v u u' : Value} {lr : List Nat} {w w4 wr w1 : World} {ob : Obj} (h : LnS R g c T X tr most e v o w w4 u lr wr) (hR : R < w.heap.size) (h4 : w.heap.size ≤ w4.heap.size) (hv : ∀ k, v.ownBlock = some k → k < w.heap.size)
    (hg : (wr.alloc ob).grownBy w1 u.ownBlock) (hown : w1.ownsRow w4.heap.size 3 1 u' (lr.length + 1) (natsV lr ++ [.int .i64 (x : Int)])) : LnS R g c T X tr most e v o w w4 u' (lr ++ [x]) w1 := by
  have hsz := h.sz
  have far : ∀ k, k < w4.heap.size → w1.heap[k]? = wr.heap[k]? := fun k hk => (hg.block k (by simp; omega) (fun e => by have := (h.own.ge e.symm).1; omega)).trans (Below.heap_alloc wr ob k (by omega))
  have hs1 : wr.heap.size ≤ w1.heap.size := by have := hg.size; simp at this; omega
  refine ⟨⟨h.st.box.same (far R (by omega)), h.st.bits.block (far g (by have := h.st.gR; omega)), h.st.gR, h.st.tot, h.st.cap, h.st.own.same fun k hk => far k (by have := hv k hk; omega)⟩, ?_, by omega, fun k h1 h2 => (far k h2).trans (h.frz k h1 h2), ⟨h.stp.below.trans ⟨hg.os, hg.tape, hg.output, hs1, fun k hk => far k (by omega)⟩, fun k h1 h2 h3 => ?_⟩⟩
  · unfold OwnN
    rw [natsV_app, List.length_append]
    exact hown
  · obtain ⟨h5, h6, h7⟩ := h.stp.sep k h1 h2 h3
    exact ⟨(far k (by omega)).trans h5, h6, by omega⟩
end Go.Proofs.YtkckobhpanghiaaDoor
