/-
  Walks of the document's Inflate: what a dynamic block answers, what its steps keep.
  Walks of the document's Inflate: a dynamic block's sets (f38).
-/
import Derived.Test.YtddoemeellbhaaaGreatDoorRinI
import Derived.Test.YtddoemeellbhaaaGreatDoorJInfK
import Derived.Deep.DeepCutAuto
import Derived.Deep.CutBlock
import Derived.Great.BuildSlice
namespace Go.Proofs.YtddoemeellbhaaaGreatDoor
open Go.RowKit
/-- what the document's dynamic answers -/
def DynX (R g c T : Nat) (X : List UInt8) (t most : Nat) (v : Value) (o : List UInt8) (w : World) (e : Ending) (w' : World) : Prop :=
  (∃ n t' u1 u2, n ≠ 0 ∧ Dyn X t (.inl n) ∧ e = .returned (.tuple #[u1, u2]) ∧ StX w' R g c T X t' most n v o ∧ Stp R v v w w') ∨
  (∃ cl cd t' a1 a2 k1 k2, Dyn X t (.inr (cl, cd, t')) ∧ cl.Good ∧ cd.Good ∧ e = .returned (.tuple #[.slice a1 cl.L k1, .slice a2 cd.L k2]) ∧ IntsAt w' a1 cl.L .i64 (fun i => (cl.ln i : Int)) ∧ IntsAt w' a2 cd.L .i64 (fun i => (cd.ln i : Int)) ∧ StX w' R g c T X t' most 0 v o ∧ Stp R v v w w' ∧ t ≤ t' ∧ t' ≤ T)
def DynSpec : Prop := ∀ (R g c T t most : Nat) (X o : List UInt8) (v : Value) (w : World), StX w R g c T X t most 0 v o → T ≤ 1000000 → t ≤ T →
  Calls Tryz.prog 107 #[.pointer (some ⟨R, 0, none⟩)] w fun e w' => DynX R g c T X t most v o w e w'
/-- the error, as the box tells it -/
def errX (R : Nat) (w : World) : Nat := match w.cell? ⟨R, 4, none⟩ with
  | some (.int _ x) => x.toNat
  | _ => 0
theorem StX.err {w : World} {R g c T t most e : Nat} {X o : List UInt8} {v : Value} (h : StX w R g c T X t most e v o) : errX R w = e := by
  unfold errX; rw [h.box.c4]; simp
def leftX (R T : Nat) (w : World) : Nat := if errX R w = 0 then 1 + (T - bitX R w) else 0
/-- ahead of a block -/
def BlI (R g c T : Nat) (X : List UInt8) (most : Nat) (w0 wr : World) : Prop :=
  (∃ t v o, (∀ r, Run X most (.blk false) t o r → Run X most (.blk false) 0 [] r) ∧ t ≤ T ∧ o.length ≤ most ∧ StX wr R g c T X t most 0 v o ∧ Below R w0 wr) ∨
  (∃ e t v o, e ≠ 0 ∧ Run X most (.blk false) 0 [] (.bad e) ∧ StX wr R g c T X t most e v o ∧ Below R w0 wr)
theorem Cd.good_fixL : fixLit.Good := ⟨fixLit_ok, fixLit_fit⟩
theorem Cd.good_fixD : fixDist.Good := ⟨fixDist_ok, fixDist_fit⟩
/-- a block's symbols were read -/
theorem PackX.next {cl cd : Cd} {R g c T t t0 most : Nat} {X o o0 : List UInt8} {v v0 : Value} {w w' : World} {last : Bool} (h : PackX cl cd R g c T X t most v o w w') (hR : ∀ r, Run X most (.sym last cl cd) t o r → Run X most (.blk false) t0 o0 r) (_h0 : v = v0) (hT : t0 ≤ t) :
    (∃ e t' v' o', e ≠ 0 ∧ Run X most (.blk false) t0 o0 (.bad e) ∧ StX w' R g c T X t' most e v' o' ∧ Below R w w') ∨
    (∃ t' v' o', (∀ r, Run X most (.blk last) t' o' r → Run X most (.blk false) t0 o0 r) ∧ t0 < t' ∧ t' ≤ T ∧ o'.length ≤ most ∧ StX w' R g c T X t' most 0 v' o' ∧ Below R w w') := by
  rcases h with ⟨e, v', o', t', he, h1, h2, h3⟩ | ⟨t', v', o', h1, h2, h3, h4, h5, h6⟩
  · exact .inl ⟨e, t', v', o', he, hR _ (h1 last), h2, h3.below⟩
  · exact .inr ⟨t', v', o', fun r hr => hR r (h1 last r hr), by omega, h3, h4, h5, h6.below⟩
end Go.Proofs.YtddoemeellbhaaaGreatDoor
namespace Go.Proofs.YtddoemeellbhaaaGreatDoor
open Go.RowKit
/-- nineteen numbers that lie in a block -/
def C19 (w : World) (g : Nat) (h : Nat → Value) : Prop := ∀ i, i < 19 → w.cell? ⟨g, i, none⟩ = some (h i) ∧ w.frozen? ⟨g, i, none⟩ = false
theorem C19.block {w w' : World} {g : Nat} {f : Nat → Value} (h : C19 w g f) (hh : w'.heap[g]? = w.heap[g]?) : C19 w' g f := fun i hi =>
  ⟨(World.cell?_of_block (a := ⟨g, i, none⟩) hh).trans (h i hi).1, (World.frozen?_of_block (a := ⟨g, i, none⟩) hh).trans (h i hi).2⟩
theorem C19.set {w : World} {g p : Nat} {f : Nat → Value} (h : C19 w g f) (u : Value) : C19 (w.setCell ⟨g, p, none⟩ u) g (upd f p u) := fun i hi => by
  refine ⟨?_, by rw [World.frozen?_setCell]; exact (h i hi).2⟩
  by_cases hp : i = p
  · subst hp
    rw [World.cell?_setCell_same _ _ _ (h i hi).1]
    simp [upd]
  · rw [World.cell?_setCell_other _ _ _ _ (fun e => hp (by simp only [Addr.mk.injEq] at e; omega)), (h i hi).1]
    simp [upd, hp]
/-- a cell that is turned in a block of the call's own -/
theorem Stp.setNew {R g o : Nat} {v : Value} {w w' : World} (h : Stp R v v w w') (hR : R ≤ g) (hg : w.heap.size ≤ g) (u : Value) : Stp R v v w (w'.setCell ⟨g, o, none⟩ u) :=
  ⟨h.below.trans ⟨rfl, rfl, rfl, by simp, fun k hk => Below.heap_setCell w' ⟨g, o, none⟩ u k (by show k ≠ g; omega)⟩,
   fun k h1 h2 h3 => by
    obtain ⟨h4, h5, h6⟩ := h.sep k h1 h2 h3
    exact ⟨(Below.heap_setCell w' ⟨g, o, none⟩ u k (by show k ≠ g; omega)).trans h4, h5, by simpa using h6⟩⟩
theorem StX.setNew {w : World} {R g c T t most e q p : Nat} {X o : List UInt8} {v : Value} (h : StX w R g c T X t most e v o) (hR : R < q) (hv : ∀ k, v.ownBlock = some k → k < q) (u : Value) : StX (w.setCell ⟨q, p, none⟩ u) R g c T X t most e v o := by
  have hs : ∀ k, k < q → (w.setCell ⟨q, p, none⟩ u).heap[k]? = w.heap[k]? := fun k hk => Below.heap_setCell w ⟨q, p, none⟩ u k (by show k ≠ q; omega)
  exact ⟨h.box.same (hs R hR), h.bits.block (hs g (by have := h.gR; omega)), h.gR, h.tot, h.cap, h.own.same fun k hk => hs k (hv k hk)⟩
/-- the first set's lengths, so far -/
structure FsS (R g c T : Nat) (X : List UInt8) (t0 most : Nat) (v : Value) (o : List UInt8) (w : World) (g1 g2 j : Nat) (wr : World) : Prop where
  st : StX wr R g c T X (t0 + 3 * j) most 0 v o
  le : t0 + 3 * j ≤ T
  fst : C19 wr g1 (hK X t0 j)
  plc : C19 wr g2 (fun i => .int .i64 (plK i : Int))
  stp : Stp R v v w wr
/-- where the blocks lie -/
structure FsB (R : Nat) (v : Value) (w : World) (g1 g2 : Nat) : Prop where
  r : R < w.heap.size
  a : w.heap.size ≤ g1
  b : w.heap.size ≤ g2
  ne : g1 ≠ g2
  own : ∀ k, v.ownBlock = some k → k < w.heap.size
/-- an error behind which nothing is read -/
def ErX (R g c T : Nat) (X : List UInt8) (most : Nat) (v : Value) (o : List UInt8) (w : World) (e : Nat) (wr : World) : Prop := e ≠ 0 ∧ (∃ t, StX wr R g c T X t most e v o) ∧ Stp R v v w wr
theorem FsS.next {R g c T t0 most g1 g2 j x : Nat} {X o : List UInt8} {v : Value} {w wr w9 : World} (h : FsS R g c T X t0 most v o w g1 g2 j wr) (hB : FsB R v w g1 g2) (hj : j < 19) (hn : num X (t0 + 3 * j) 3 = some x) (hle : t0 + 3 * j + 3 ≤ T) (hs : StX w9 R g c T X (t0 + 3 * j + 3) most 0 v o) (ho : Only R wr w9) :
    FsS R g c T X t0 most v o w g1 g2 (j + 1) (w9.setCell ⟨g1, plK j, none⟩ (.int .i64 (x : Int))) := by
  have hr := hB.r; have ha := hB.a; have hb := hB.b; have hne := hB.ne
  have hx : x = bitsN X (t0 + 3 * j) 3 := by unfold num at hn; split at hn; · simp at hn; omega
                                             · cases hn
  have e3 : t0 + 3 * (j + 1) = t0 + 3 * j + 3 := by omega
  refine ⟨?_, by omega, ?_, ?_, ?_⟩
  · rw [e3]; exact hs.setNew (by omega) (fun k hk => by have := hB.own k hk; omega) _
  · rw [← hK_next X t0 j hj, hx]
    exact (h.fst.block (ho.block g1 (by omega))).set _
  · exact (h.plc.block (ho.block g2 (by omega))).block (Below.heap_setCell w9 _ _ g2 (by show g2 ≠ g1; omega))
  · exact (h.stp.trans (ho.stp (v := v))).setNew (by omega) (by omega) _
theorem FsS.bad {R g c T t0 most g1 g2 j t' e p : Nat} {X o : List UInt8} {v u : Value} {w wr w9 : World} (h : FsS R g c T X t0 most v o w g1 g2 j wr) (hB : FsB R v w g1 g2) (he : e ≠ 0) (hs : StX w9 R g c T X t' most e v o) (ho : Only R wr w9) :
    ErX R g c T X most v o w e (w9.setCell ⟨g1, p, none⟩ u) := by
  have hr := hB.r; have ha := hB.a
  exact ⟨he, ⟨t', hs.setNew (by omega) (fun k hk => by have := hB.own k hk; omega) _⟩, (h.stp.trans (ho.stp (v := v))).setNew (by omega) (by omega) _⟩
theorem FsS.ints {R g c T t0 most g1 g2 j : Nat} {X o : List UInt8} {v : Value} {w wr : World} (h : FsS R g c T X t0 most v o w g1 g2 j wr) : IntsAt wr (some ⟨g1, 0, none⟩) 19 .i64 (fun i => ((firstCd X t0 j).ln i : Int)) := by
  refine ⟨by unfold maxLen; omega, fun i => ?_, .inr ⟨g1, 0, rfl, fun i hi => ?_⟩⟩
  · have := lenK_le X t0 j i
    show (Lit.int .i64 ((lenK X t0 j i : Nat) : Int)).wf = true
    exact WalkArith.wf_i64 ⟨by omega, by omega⟩
  · rw [Nat.zero_add]; exact (h.fst i hi).1
/-- what the document's Check says of the first set -/
theorem chk_first {X : List UInt8} {t0 j : Nat} {e : Ending} (h : ChkPost (fun i => ((firstCd X t0 j).ln i : Int)) 19 e) :
    (¬ Fit (firstCd X t0 j).ln 19 ∧ e = .returned (.int .i64 4)) ∨ (Fit (firstCd X t0 j).ln 19 ∧ e = .returned (.int .i64 0)) := by
  unfold ChkPost at h
  simp only at h
  rcases h with ⟨h1, _⟩ | ⟨_, ⟨i, _, h2⟩, _⟩ | ⟨_, ln, h1, _, h3⟩
  · omega
  · have : (firstCd X t0 j).ln i ≤ 7 := lenK_le X t0 j i
    omega
  · have hc := Fit.congr (ln := ln) (lm := (firstCd X t0 j).ln) (L := 19) (fun i hi => by have := h1 i hi; omega)
    rcases h3 with ⟨h3, h4⟩ | ⟨h3, h4⟩
    · exact .inl ⟨fun hx => h3 (hc.2 hx), h4⟩
    · exact .inr ⟨hc.1 h3, h4⟩
/-- what it says of a part of the lengths -/
theorem chk_part {l : List Nat} {n : Nat} {e : Ending} (hn : n ≤ 320) (h15 : ∀ x ∈ l, x ≤ 15) (h : ChkPost (fun i => ((cdL l).ln i : Int)) n e) :
    (¬ Fit (cdL l).ln n ∧ e = .returned (.int .i64 4)) ∨ (Fit (cdL l).ln n ∧ e = .returned (.int .i64 0)) := by
  unfold ChkPost at h
  simp only at h
  rcases h with ⟨h1, _⟩ | ⟨_, ⟨i, _, h2⟩, _⟩ | ⟨_, ln, h1, _, h3⟩
  · omega
  · have : (cdL l).ln i ≤ 15 := by
      unfold cdL
      simp only [List.getD_eq_getElem?_getD]
      cases hg : l[i]? with
      | none => simp
      | some x => exact h15 x (List.mem_of_getElem? hg)
    omega
  · have hc := Fit.congr (ln := ln) (lm := (cdL l).ln) (L := n) (fun i hi => by have := h1 i hi; omega)
    rcases h3 with ⟨h3, h4⟩ | ⟨h3, h4⟩
    · exact .inl ⟨fun hx => h3 (hc.2 hx), h4⟩
    · exact .inr ⟨hc.1 h3, h4⟩
/-- the lengths, so far -/
structure LnS (R g c T : Nat) (X : List UInt8) (tr most e : Nat) (v : Value) (o : List UInt8) (w w4 : World) (u : Value) (lr : List Nat) (wr : World) : Prop where
  st : StX wr R g c T X tr most e v o
  own : OwnN wr w4.heap.size u lr
  sz : w4.heap.size ≤ wr.heap.size
  frz : ∀ k, w.heap.size ≤ k → k < w4.heap.size → wr.heap[k]? = w4.heap[k]?
  stp : Stp R v v w wr
theorem LnS.only {R g c T tr most e tr' e' : Nat} {X o : List UInt8} {v u : Value} {lr : List Nat} {w w4 wr w' : World} (h : LnS R g c T X tr most e v o w w4 u lr wr) (hR : R < w.heap.size) (h4 : w.heap.size ≤ w4.heap.size) (ho : Only R wr w') (hs : StX w' R g c T X tr' most e' v o) : LnS R g c T X tr' most e' v o w w4 u lr w' :=
  ⟨hs, h.own.only ho (by omega), by rw [ho.size]; exact h.sz, fun k h1 h2 => (ho.block k (by omega)).trans (h.frz k h1 h2), h.stp.trans (ho.stp (v := v))⟩
theorem LnS.codes {R g c T tr most e B : Nat} {X o : List UInt8} {v u : Value} {lr : List Nat} {w w4 wr : World} {a : Option Addr} {cd : Cd} (h : LnS R g c T X tr most e v o w w4 u lr wr) (hB : w.heap.size ≤ B) (hC : CodR w4 B a cd) : CodR wr B a cd :=
  CodesAt.keep hC fun k h1 h2 => h.frz k (by omega) h2
theorem LnS.push {R g c T tr most e x : Nat} {X o : List UInt8} {v u u' : Value} {lr : List Nat} {w w4 wr w1 : World} {ob : Obj} (h : LnS R g c T X tr most e v o w w4 u lr wr) (hR : R < w.heap.size) (h4 : w.heap.size ≤ w4.heap.size) (hv : ∀ k, v.ownBlock = some k → k < w.heap.size)
    (hg : (wr.alloc ob).grownBy w1 u.ownBlock) (hown : w1.ownsRow w4.heap.size 3 1 u' (lr.length + 1) (natsV lr ++ [.int .i64 (x : Int)])) : LnS R g c T X tr most e v o w w4 u' (lr ++ [x]) w1 := by
  have hsz := h.sz
  have far : ∀ k, k < w4.heap.size → w1.heap[k]? = wr.heap[k]? := fun k hk => (hg.block k (by simp; omega) (fun e => by have := (h.own.ge e.symm).1; omega)).trans (Below.heap_alloc wr ob k (by omega))
  have hs1 : wr.heap.size ≤ w1.heap.size := by have := hg.size; simp at this; omega
  refine ⟨⟨h.st.box.same (far R (by omega)), h.st.bits.block (far g (by have := h.st.gR; omega)), h.st.gR, h.st.tot, h.st.cap, h.st.own.same fun k hk => far k (by have := hv k hk; omega)⟩, ?_, by omega, fun k h1 h2 => (far k h2).trans (h.frz k h1 h2), ⟨h.stp.below.trans ⟨hg.os, hg.tape, hg.output, hs1, fun k hk => far k (by omega)⟩, fun k h1 h2 h3 => ?_⟩⟩
  · unfold OwnN
    rw [natsV_app, List.length_append]
    exact hown
  · obtain ⟨h5, h6, h7⟩ := h.stp.sep k h1 h2 h3
    exact ⟨(far k (by omega)).trans h5, h6, by omega⟩
end Go.Proofs.YtddoemeellbhaaaGreatDoor
namespace Go.Proofs.YtddoemeellbhaaaGreatDoor
open Go.RowKit
/-- among the lengths -/
def LnI (C : Cd) (ns t1 R g c T : Nat) (X : List UInt8) (most : Nat) (v : Value) (o : List UInt8) (w w4 : World) (u : Value) (wr : World) : Prop :=
  (∃ tr lr, (∀ r, Lens C X ns tr lr r → Lens C X ns t1 [] r) ∧ t1 ≤ tr ∧ tr ≤ T ∧ lr.length ≤ ns ∧ (∀ x ∈ lr, x ≤ 15) ∧ LnS R g c T X tr most 0 v o w w4 u lr wr) ∨
  (∃ e tr lr, e ≠ 0 ∧ lr.length ≤ ns ∧ Lens C X ns t1 [] (.inl e) ∧ LnS R g c T X tr most e v o w w4 u lr wr)
/-- behind a symbol: how often, what -/
def SwI (C : Cd) (ns tr R g c T : Nat) (X : List UInt8) (most : Nat) (v : Value) (o : List UInt8) (w w4 : World) (u : Value) (lr : List Nat) (m y : Nat) (wx : World) : Prop :=
  (∃ t', LnS R g c T X t' most 0 v o w w4 u lr wx ∧ tr < t' ∧ t' ≤ T ∧ (lr.length + m ≤ ns → y ≤ 15 ∧ StepL C X ns tr lr (.inr (t', lr ++ List.replicate m y))) ∧ (ns < lr.length + m → StepL C X ns tr lr (.inl 3))) ∨
  (∃ e t', e ≠ 0 ∧ LnS R g c T X t' most e v o w w4 u lr wx ∧ StepL C X ns tr lr (.inl e))
def placeZ : List Int := [16, 17, 18, 0, 8, 7, 9, 6, 10, 5, 11, 4, 12, 3, 13, 2, 14, 1, 15]
theorem place_z : ∀ i : Fin 19, placeZ[i.val]? = some (plK i.val : Int) := by decide +kernel
theorem place_at (i : Fin 19) : (placeZ.map (Value.int .i64)).toArray[i.val]? = some (.int .i64 (plK i.val : Int)) := by
  rw [List.getElem?_toArray, List.getElem?_map, place_z i]
  rfl
theorem num_in1 (R g c T t most n : Nat) (X o : List UInt8) (v : Value) (w : World) (hS : StX w R g c T X t most 0 v o) (hT : T ≤ 1000000) (ht : t ≤ T) (hn : n ≤ 16) (V : World) (hV : Hid (DrewOf w V)) :
    Calls Tryz.prog 103 #[.pointer (some ⟨R, 0, none⟩), .int .i64 (n : Int)] V fun e w' => ∃ x : Nat, e = .returned (.int .i64 (x : Int)) ∧ Hid (NumR R g c T X t most n v o x w') ∧ Hid (Only R w w') := by
  obtain ⟨m, rfl⟩ := hV
  refine (rnum_any R g c T t most n X o v (w.drewN m) (hS.drewN m) hT ht hn).mono ?_
  rintro e w' ⟨hp, ho⟩
  have h0 : Only R w w' := ((Only.refl R w).drewN m).trans ho
  rcases hp with ⟨x, h3, h4, h5, h6, h7⟩ | ⟨h3, h6, h7⟩
  · exact ⟨x, h6, ⟨Nat.lt_of_lt_of_le h4 (by have : 2 ^ n ≤ 2 ^ 16 := Nat.pow_le_pow_right (by decide) hn; omega), .inl ⟨h3, h4, h5, h7⟩⟩, h0⟩
  · exact ⟨0, h6, ⟨by decide, .inr ⟨rfl, h3, h7⟩⟩, h0⟩
theorem num_ok {R g c T t most n : Nat} {X o : List UInt8} {v : Value} {e : Ending} {w' : World} (h : NumPost R g c T X t most n v o e w') (hle : t + n ≤ total X) : e = .returned (.int .i64 (bitsN X t n : Int)) ∧ StX w' R g c T X (t + n) most 0 v o := by
  have hn : num X t n = some (bitsN X t n) := by unfold num; rw [if_pos hle]
  rcases h with ⟨x, h3, _,_, h6, h7⟩ | ⟨h3, _,_⟩
  · rw [hn] at h3
    simp only [Option.some.injEq] at h3
    subst h3
    exact ⟨h6, h7⟩
  · rw [hn] at h3; cases h3
set_option maxHeartbeats 16000000 in
set_option maxRecDepth 100000 in
theorem dyn_any : DynSpec := by
  intro R g c T t most X o v w hS hT ht
  obtain ⟨i3, hi3, hz30, hz31, hz32⟩ := info_parts Tryz.info3
  have hsz3 : (Tryz.prog.info? 3).map (·.size) = some 1 := by rw [hi3]; simp [hz31]
  have hzs3 : ((Tryz.prog.info? 3).bind (·.zero)).isSome = true := by rw [hi3]; simp [hz30]
  have hRB := hS.box.lt
  have HOW : Hid (∀ k, v.ownBlock = some k → k < w.heap.size) := fun k hk => (hS.own.ge hk).2
  have HTT := hidM hS.tot
  have HS := hidM hS
  have c0 := hS.box.c0
  have c1 := hS.box.c1
  have c4 := hS.box.c4
  clear hS
  go_enter Tryz.func107, Tryz.ntmps107
  by_cases h14 : T < t + 14
  · as_aux_lemma =>
      have HDY : Hid (Dyn X t (.inl 6)) := .counts6 (by unfold num; rw [← HTT.out, if_neg (by omega)])
      have k1 : (T : Int) - (t : Int) < 14 := by omega
      have HF := hidM (fun m => rfail_any R g c T t most 6 X o v (w.drewN m) (HS.out.drewN m))
      go_wp2
      go_quiet (fail)
      go_wp2_with fail
      refine (HF.out _).mono ?_
      rintro _ _ ⟨rfl, rfl⟩
      have h1 := (HS.out.drewN nq).setE 6
      have HS2 := hidM h1.1
      have HP2 : Hid (Stp R v v w ((w.drewN nq).setCell ⟨R, 4, none⟩ (.int .i64 ((6 : Nat) : Int)))) := (((Only.refl R w).drewN nq).trans h1.2).stp
      clear h1 c0 c1 c4 HF
      generalize (w.drewN nq).setCell ⟨R, 4, none⟩ (.int .i64 ((6 : Nat) : Int)) = w2 at *
      have c4 : w2.cell? ⟨R, 4, none⟩ = some (.int .i64 6) := HS2.out.box.c4
      have HN5 : Hid (Calls Tryz.prog 103 #[.pointer (some ⟨R, 0, none⟩), .int .i64 5] w2 fun e w' => e = .returned (.int .i64 0) ∧ w' = w2) := rnum_err R g c T t most 6 5 X o v w2 HS2.out (by decide)
      have HN4 : Hid (Calls Tryz.prog 103 #[.pointer (some ⟨R, 0, none⟩), .int .i64 4] w2 fun e w' => e = .returned (.int .i64 0) ∧ w' = w2) := rnum_err R g c T t most 6 4 X o v w2 HS2.out (by decide)
      go_wp2_with fail
      refine HN5.out.mono ?_
      rintro _ w0 ⟨rfl, h0⟩
      rw [h0]
      clear h0 w0
      go_wp2_with fail
      refine HN5.out.mono ?_
      rintro _ w0 ⟨rfl, h0⟩
      rw [h0]
      clear h0 w0
      go_wp2_with fail
      refine HN4.out.mono ?_
      rintro _ w0 ⟨rfl, h0⟩
      rw [h0]
      clear h0 w0 HN5 HN4
      go_wp2_with (at_make; refine wpList_make_full _ rfl _ _ 121 rfl w2.heap.size 3 i3 (.int .i64 0) 1 Tryz.underlying121 hi3 hz30 hz31 .i64 .i64 _ _ 19 rfl rfl rfl rfl ?c1 ?c2 ?c3 ?_)
      case c1 => rw [hz32]; omega
      case c2 => unfold maxLen; omega
      case c3 => exact Nat.le_refl _
      intro wm hown hgr
      have HBm : Hid (Below w2.heap.size w2 wm) := (Below.refl _ w2).grown hgr (Nat.le_refl _) (by intro k hk; cases hk)
      clear hown hgr
      have HSm := hidM (HS2.out.later HBm.out)
      have HPm : Hid (Stp R v v w wm) := HP2.out.trans (Below.stp (v := v) HBm.out (Nat.le_of_lt HS2.out.box.lt))
      clear c4 HBm HS2 HP2
      go_wp2_with (with_reducible refine wpList_buildFlat rfl 121 3 19 _ rfl .i64 placeZ Tryz.underlying121 hsz3 hzs3 (by kernel_rfl) (by decide) (by decide) (by kernel_rfl) ?_)
      go_wp2
      have HBn : Hid (Below wm.heap.size wm (wm.alloc (.cells (placeZ.map (Value.int .i64)).toArray 3))) := (Below.refl _ wm).alloc (Nat.le_refl _) _
      have HSn := hidM (HSm.out.later HBn.out)
      have HPn := hidM (HPm.out.trans (Below.stp (v := v) HBn.out (Nat.le_of_lt HSm.out.box.lt)))
      clear HBn HSm HPm
      generalize (wm.alloc (.cells (placeZ.map (Value.int .i64)).toArray 3)) = wn at *
      go_loopw [9] (fun i wr => i = .int .i64 0 ∧ wr = wn) (fun _ _ => 0)
      case atStart => exact ⟨rfl, rfl⟩
      case round =>
        obtain ⟨rfl, rfl⟩ := hrel
        have c4 : wr.cell? ⟨R, 4, none⟩ = some (.int .i64 6) := HSn.out.box.c4
        skip
        go_wp2
        (try simp only [Exit.inBlock, Exit.then])
        go_ret2
        exact .inl ⟨6, _,_,_, by decide, HDY.out, rfl, HSn.out, HPn.out⟩
  · have k1 : ¬ (T : Int) - (t : Int) < 14 := by omega
    obtain ⟨V, hV⟩ : ∃ V, V = bitsN X t 14 := ⟨_, rfl⟩
    have HNV : Hid (num X t 14 = some V) := by unfold Hid num; rw [← HTT.out, if_pos (by omega), hV]
    obtain ⟨b1, b2, b3⟩ := bits_counts X t
    have l1 := bitsN_lt X t 5
    have l2 := bitsN_lt X (t + 5) 5
    have l3 := bitsN_lt X (t + 10) 4
    rw [← hV] at b1 b2 b3
    obtain ⟨x1, hx1⟩ : ∃ x1, x1 = bitsN X t 5 := ⟨_, rfl⟩
    obtain ⟨x2, hx2⟩ : ∃ x2, x2 = bitsN X (t + 5) 5 := ⟨_, rfl⟩
    obtain ⟨x3, hx3⟩ : ∃ x3, x3 = bitsN X (t + 10) 4 := ⟨_, rfl⟩
    obtain ⟨nl, hnl⟩ : ∃ nl, nl = x1 + 257 := ⟨_, rfl⟩
    obtain ⟨nd, hnd⟩ : ∃ nd, nd = x2 + 1 := ⟨_, rfl⟩
    obtain ⟨nc, hnc⟩ : ∃ nc, nc = x3 + 4 := ⟨_, rfl⟩
    have HNL : Hid (257 + V % 32 = nl) := by unfold Hid; omega
    have HND : Hid (1 + V / 32 % 32 = nd) := by unfold Hid; omega
    have HNC : Hid (4 + V / 1024 = nc) := by unfold Hid; omega
    have p1 : (x1 : Int) + 257 = (nl : Int) := by omega
    have p2 : (x2 : Int) + 1 = (nd : Int) := by omega
    have p3 : (x3 : Int) + 4 = (nc : Int) := by omega
    have q1 : nl ≤ 288 := by omega
    have q2 : nd ≤ 32 := by omega
    have q3 : nc ≤ 19 := by omega
    have r1 : 257 ≤ nl := by omega
    have r2 : 1 ≤ nd := by omega
    have r3 : 4 ≤ nc := by omega
    have s1 : x1 < 32 := by omega
    have s2 : x2 < 32 := by omega
    have s3 : x3 < 16 := by omega
    have HX1 := hidM hx1
    have HX2 := hidM hx2
    have HX3 := hidM hx3
    clear hV b1 b2 b3 l1 l2 l3 hx1 hx2 hx3 hnl hnd hnc
    go_wp2
    go_quiet (fail)
    have HS1 := hidM (HS.out.drewN nq)
    have HP1 : Hid (Stp R v v w (w.drewN nq)) := ((Only.refl R w).drewN nq).stp
    clear c0 c1 c4 HS
    generalize w.drewN nq = w1 at *
    have HN5 : Hid (Calls Tryz.prog 103 #[.pointer (some ⟨R, 0, none⟩), .int .i64 5] w1 fun e w' => NumPost R g c T X t most 5 v o e w' ∧ Only R w1 w') := rnum_any R g c T t most 5 X o v w1 HS1.out hT ht (by decide)
    go_wp2_with fail
    refine HN5.out.mono ?_
    rintro _ w2 ⟨hp, ho⟩
    obtain ⟨rfl, hs2⟩ := num_ok hp (by rw [← HTT.out]; omega)
    rw [← HX1.out]
    have HS2 := hidM hs2
    have HP2 := hidM (HP1.out.trans (ho.stp (v := v)))
    clear hp ho hs2 HN5 HS1 HP1
    have HN5 : Hid (Calls Tryz.prog 103 #[.pointer (some ⟨R, 0, none⟩), .int .i64 5] w2 fun e w' => NumPost R g c T X (t + 5) most 5 v o e w' ∧ Only R w2 w') := rnum_any R g c T (t + 5) most 5 X o v w2 HS2.out hT (by omega) (by decide)
    go_wp2_with fail
    refine HN5.out.mono ?_
    rintro _ w3 ⟨hp, ho⟩
    obtain ⟨rfl, hs3⟩ := num_ok hp (by rw [← HTT.out]; omega)
    rw [← HX2.out]
    have HS3 : Hid (StX w3 R g c T X (t + 10) most 0 v o) := hs3
    have HP3 := hidM (HP2.out.trans (ho.stp (v := v)))
    clear hp ho hs3 HN5 HS2 HP2
    have HN4 : Hid (Calls Tryz.prog 103 #[.pointer (some ⟨R, 0, none⟩), .int .i64 4] w3 fun e w' => NumPost R g c T X (t + 10) most 4 v o e w' ∧ Only R w3 w') := rnum_any R g c T (t + 10) most 4 X o v w3 HS3.out hT (by omega) (by decide)
    go_wp2_with fail
    refine HN4.out.mono ?_
    rintro _ w4 ⟨hp, ho⟩
    obtain ⟨rfl, hs4⟩ := num_ok hp (by rw [← HTT.out]; omega)
    rw [← HX3.out]
    have HS4 : Hid (StX w4 R g c T X (t + 14) most 0 v o) := hs4
    have HP4 := hidM (HP3.out.trans (ho.stp (v := v)))
    clear hp ho hs4 HN4 HS3 HP3 HX1 HX2 HX3
    have c4 : w4.cell? ⟨R, 4, none⟩ = some (.int .i64 0) := HS4.out.box.c4
    have hRw4 : R < w4.heap.size := HS4.out.box.lt
    by_cases hb1 : 286 < nl
    · as_aux_lemma =>
        have HDY : Hid (Dyn X t (.inl 3)) := .counts3 V HNV.out (.inl (by rw [HNL.out]; exact hb1))
        have k2 : (286 : Int) < (nl : Int) := by omega
        have HF := hidM (rfail_any R g c T (t + 14) most 3 X o v w4 HS4.out)
        go_wp2_with fail
        refine HF.out.mono ?_
        rintro _ _ ⟨rfl, rfl⟩
        have h1 := HS4.out.setE 3
        have HS5 := hidM h1.1
        have HP5 : Hid (Stp R v v w (w4.setCell ⟨R, 4, none⟩ (.int .i64 ((3 : Nat) : Int)))) := HP4.out.trans h1.2.stp
        clear h1 c4 HF
        generalize w4.setCell ⟨R, 4, none⟩ (.int .i64 ((3 : Nat) : Int)) = w5 at *
        have c4 : w5.cell? ⟨R, 4, none⟩ = some (.int .i64 3) := HS5.out.box.c4
        go_wp2_with (at_make; refine wpList_make_full _ rfl _ _ 121 rfl w5.heap.size 3 i3 (.int .i64 0) 1 Tryz.underlying121 hi3 hz30 hz31 .i64 .i64 _ _ 19 rfl rfl rfl rfl ?c1 ?c2 ?c3 ?_)
        case c1 => rw [hz32]; omega
        case c2 => unfold maxLen; omega
        case c3 => exact Nat.le_refl _
        intro wm hown hgr
        have HBm : Hid (Below w5.heap.size w5 wm) := (Below.refl _ w5).grown hgr (Nat.le_refl _) (by intro k hk; cases hk)
        clear hown hgr
        have HSm := hidM (HS5.out.later HBm.out)
        have HPm : Hid (Stp R v v w wm) := HP5.out.trans (Below.stp (v := v) HBm.out (Nat.le_of_lt HS5.out.box.lt))
        clear c4 HBm HS5 HP5
        go_wp2_with (with_reducible refine wpList_buildFlat rfl 121 3 19 _ rfl .i64 placeZ Tryz.underlying121 hsz3 hzs3 (by kernel_rfl) (by decide) (by decide) (by kernel_rfl) ?_)
        go_wp2
        have HBn : Hid (Below wm.heap.size wm (wm.alloc (.cells (placeZ.map (Value.int .i64)).toArray 3))) := (Below.refl _ wm).alloc (Nat.le_refl _) _
        have HSn := hidM (HSm.out.later HBn.out)
        have HPn := hidM (HPm.out.trans (Below.stp (v := v) HBn.out (Nat.le_of_lt HSm.out.box.lt)))
        clear HBn HSm HPm
        generalize (wm.alloc (.cells (placeZ.map (Value.int .i64)).toArray 3)) = wn at *
        go_loopw [9] (fun i wr => i = .int .i64 0 ∧ wr = wn) (fun _ _ => 0)
        case atStart => exact ⟨rfl, rfl⟩
        case round =>
          obtain ⟨rfl, rfl⟩ := hrel
          have c4 : wr.cell? ⟨R, 4, none⟩ = some (.int .i64 3) := HSn.out.box.c4
          have k9 : (0 : Int) < (nc : Int) := by omega
          go_wp2
          (try simp only [Exit.inBlock, Exit.then])
          go_ret2
          exact .inl ⟨3, _,_,_, by decide, HDY.out, rfl, HSn.out, HPn.out⟩
    · by_cases hb2 : 30 < nd
      · as_aux_lemma =>
          have HDY : Hid (Dyn X t (.inl 3)) := .counts3 V HNV.out (.inr (by rw [HND.out]; exact hb2))
          have k2 : ¬ (286 : Int) < (nl : Int) := by omega
          have k3 : (30 : Int) < (nd : Int) := by omega
          have HF := hidM (rfail_any R g c T (t + 14) most 3 X o v w4 HS4.out)
          go_wp2_with fail
          refine HF.out.mono ?_
          rintro _ _ ⟨rfl, rfl⟩
          have h1 := HS4.out.setE 3
          have HS5 := hidM h1.1
          have HP5 : Hid (Stp R v v w (w4.setCell ⟨R, 4, none⟩ (.int .i64 ((3 : Nat) : Int)))) := HP4.out.trans h1.2.stp
          clear h1 c4 HF
          generalize w4.setCell ⟨R, 4, none⟩ (.int .i64 ((3 : Nat) : Int)) = w5 at *
          have c4 : w5.cell? ⟨R, 4, none⟩ = some (.int .i64 3) := HS5.out.box.c4
          go_wp2_with (at_make; refine wpList_make_full _ rfl _ _ 121 rfl w5.heap.size 3 i3 (.int .i64 0) 1 Tryz.underlying121 hi3 hz30 hz31 .i64 .i64 _ _ 19 rfl rfl rfl rfl ?c1 ?c2 ?c3 ?_)
          case c1 => rw [hz32]; omega
          case c2 => unfold maxLen; omega
          case c3 => exact Nat.le_refl _
          intro wm hown hgr
          have HBm : Hid (Below w5.heap.size w5 wm) := (Below.refl _ w5).grown hgr (Nat.le_refl _) (by intro k hk; cases hk)
          clear hown hgr
          have HSm := hidM (HS5.out.later HBm.out)
          have HPm : Hid (Stp R v v w wm) := HP5.out.trans (Below.stp (v := v) HBm.out (Nat.le_of_lt HS5.out.box.lt))
          clear c4 HBm HS5 HP5
          go_wp2_with (with_reducible refine wpList_buildFlat rfl 121 3 19 _ rfl .i64 placeZ Tryz.underlying121 hsz3 hzs3 (by kernel_rfl) (by decide) (by decide) (by kernel_rfl) ?_)
          go_wp2
          have HBn : Hid (Below wm.heap.size wm (wm.alloc (.cells (placeZ.map (Value.int .i64)).toArray 3))) := (Below.refl _ wm).alloc (Nat.le_refl _) _
          have HSn := hidM (HSm.out.later HBn.out)
          have HPn := hidM (HPm.out.trans (Below.stp (v := v) HBn.out (Nat.le_of_lt HSm.out.box.lt)))
          clear HBn HSm HPm
          generalize (wm.alloc (.cells (placeZ.map (Value.int .i64)).toArray 3)) = wn at *
          go_loopw [9] (fun i wr => i = .int .i64 0 ∧ wr = wn) (fun _ _ => 0)
          case atStart => exact ⟨rfl, rfl⟩
          case round =>
            obtain ⟨rfl, rfl⟩ := hrel
            have c4 : wr.cell? ⟨R, 4, none⟩ = some (.int .i64 3) := HSn.out.box.c4
            have k9 : (0 : Int) < (nc : Int) := by omega
            go_wp2
            (try simp only [Exit.inBlock, Exit.then])
            go_ret2
            exact .inl ⟨3, _,_,_, by decide, HDY.out, rfl, HSn.out, HPn.out⟩
      · have HC : Hid (257 + V % 32 ≤ 286 ∧ 1 + V / 32 % 32 ≤ 30) := by unfold Hid; rw [HNL.out, HND.out]; omega
        have k2 : ¬ (286 : Int) < (nl : Int) := by omega
        have k3 : ¬ (30 : Int) < (nd : Int) := by omega
        go_wp2_with (at_make; refine wpList_make_full _ rfl _ _ 121 rfl w4.heap.size 3 i3 (.int .i64 0) 1 Tryz.underlying121 hi3 hz30 hz31 .i64 .i64 _ _ 19 rfl rfl rfl rfl ?c1 ?c2 ?c3 ?_)
        case c1 => rw [hz32]; omega
        case c2 => unfold maxLen; omega
        case c3 => exact Nat.le_refl _
        intro wm hown hgr
        have HBm : Hid (Below w4.heap.size w4 wm) := (Below.refl _ w4).grown hgr (Nat.le_refl _) (by intro k hk; cases hk)
        have HA1 : Hid (ABox wm w4.heap.size 3 (19 * 1) (fun _ => .int .i64 0)) := ABox.of_row hown (by rw [← made_one])
        clear hown hgr
        have HSm := hidM (HS4.out.later HBm.out)
        have HPm : Hid (Stp R v v w wm) := HP4.out.trans (Below.stp (v := v) HBm.out (Nat.le_of_lt hRw4))
        have HZ4 : Hid (w.heap.size ≤ w4.heap.size) := HP4.out.below.size
        have HZm : Hid (w4.heap.size < wm.heap.size) := HA1.out.lt
        clear c4 HBm HS4 HP4
        go_wp2_with (with_reducible refine wpList_buildFlat rfl 121 3 19 _ rfl .i64 placeZ Tryz.underlying121 hsz3 hzs3 (by kernel_rfl) (by decide) (by decide) (by kernel_rfl) ?_)
        go_wp2
        have HF0 : Hid (FsS R g c T X (t + 14) most v o w w4.heap.size wm.heap.size 0 (wm.alloc (.cells (placeZ.map (Value.int .i64)).toArray 3))) := by
          have hbn : Below wm.heap.size wm (wm.alloc (.cells (placeZ.map (Value.int .i64)).toArray 3)) := (Below.refl _ wm).alloc (Nat.le_refl _) _
          refine ⟨HSm.out.later hbn, by omega, ?_, fun i hi => ?_, HPm.out.trans (Below.stp (v := v) hbn (Nat.le_of_lt HSm.out.box.lt))⟩
          · rw [hK_zero]
            have h1 : C19 wm w4.heap.size (fun _ => .int .i64 0) := fun i hi => ⟨HA1.out.cell i (by omega), HA1.out.fz i⟩
            exact h1.block (hbn.block _ HZm.out)
          · have h1 := heap_alloc_new wm (.cells (placeZ.map (Value.int .i64)).toArray 3)
            refine ⟨?_, frozen_of_row _ _ i _ 3 h1⟩
            rw [cell_of_row _ _ _ _ 3 (0, 0) h1]
            exact place_at ⟨i, hi⟩
        have HFB : Hid (FsB R v w w4.heap.size wm.heap.size) := ⟨hRB, HZ4.out, by have h1 := HZ4.out; have h2 := HZm.out; omega, by have h2 := HZm.out; omega, HOW.out⟩
        clear HSm HPm HA1 HZ4 HZm hRw4
        generalize (wm.alloc (.cells (placeZ.map (Value.int .i64)).toArray 3)) = wn at *
        generalize w4.heap.size = g1 at *
        generalize wm.heap.size = g2 at *
        go_loopw [9] (fun i wr => ∃ j : Nat, j ≤ nc ∧ i = .int .i64 j ∧ (FsS R g c T X (t + 14) most v o w g1 g2 j wr ∨ (T < t + 14 + 3 * nc ∧ ErX R g c T X most v o w 6 wr))) (fun i _ => 19 - (intOf i).toNat)
        case atStart => exact ⟨0, by omega, rfl, .inl HF0.out⟩
        case round =>
          obtain ⟨j, hj, rfl, hrel⟩ := hrel
          clear HF0
          rcases hrel with hf | ⟨h6, _, ⟨t6, hs6⟩, hp6⟩
          · have HF := hidM hf
            have c4 : wr.cell? ⟨R, 4, none⟩ = some (.int .i64 0) := hf.st.box.c4
            clear hf
            by_cases hlt : j < nc
            · as_aux_lemma =>
                have k9 : (j : Int) < (nc : Int) := by omega
                have hj19 : j < 19 := by omega
                obtain ⟨p, hp⟩ : ∃ p, p = plK j := ⟨_, rfl⟩
                have hp19 : p < 19 := by rw [hp]; exact (plK_all ⟨j, hj19⟩).1
                have j19 : (j : Int) < 19 := by omega
                have p19 : (p : Int) < 19 := by omega
                have HPC : Hid (C19 wr g2 (fun i => .int .i64 (plK i : Int))) := HF.out.plc
                have cp : wr.cell? ⟨g2, j, none⟩ = some (.int .i64 (p : Int)) := by rw [hp]; exact (HF.out.plc j hj19).1
                have HNUM : Hid (∀ V, Hid (DrewOf wr V) → Calls Tryz.prog 103 #[.pointer (some ⟨R, 0, none⟩), .int .i64 3] V fun e w' => ∃ x : Nat, e = .returned (.int .i64 (x : Int)) ∧ Hid (NumR R g c T X (t + 14 + 3 * j) most 3 v o x w') ∧ Hid (Only R wr w')) := fun V hV => num_in1 R g c T (t + 14 + 3 * j) most 3 X o v wr HF.out.st hT HF.out.le (by decide) V hV
                have HDD : Hid (DrewOf wr wr.drew) := ⟨1, rfl⟩
                have HG2 : Hid (g2 ≠ R) := by have h1 := HFB.out.b; unfold Hid; omega
                have HG1 : Hid (g1 ≠ R) := by have h1 := HFB.out.a; unfold Hid; omega
                have HC1 : Hid (∀ w', Only R wr w' → w'.cell? ⟨g2, j, none⟩ = some (.int .i64 (p : Int))) := fun w' h => (World.cell?_of_block (a := ⟨g2, j, none⟩) (h.block g2 HG2.out)).trans cp
                have HC2 : Hid (∀ w', Only R wr w' → (w'.cell? ⟨g1, p, none⟩ = some (hK X (t + 14) j p) ∧ w'.frozen? ⟨g1, p, none⟩ = false)) := fun w' h => (HF.out.fst.block (h.block g1 HG1.out)) p hp19
                have HNX : Hid (∀ (x : Nat) w', NumR R g c T X (t + 14 + 3 * j) most 3 v o x w' → Only R wr w' → (FsS R g c T X (t + 14) most v o w g1 g2 (j + 1) (w'.setCell ⟨g1, p, none⟩ (.int .i64 (x : Int))) ∨ (T < t + 14 + 3 * nc ∧ ErX R g c T X most v o w 6 (w'.setCell ⟨g1, p, none⟩ (.int .i64 (x : Int)))))) := fun x w' h ho => by
                  rcases h.2 with ⟨h1, _, h3, h4⟩ | ⟨_, h1, h4⟩
                  · rw [hp]; exact .inl (HF.out.next HFB.out hj19 h1 h3 h4 ho)
                  · refine .inr ⟨?_, HF.out.bad HFB.out (by decide) h4 ho⟩
                    unfold num at h1
                    split at h1
                    · cases h1
                    · rw [← HTT.out] at *; omega
                clear hp HPC HF
                go_wp2_with fail
                refine wp_region_noPanic ?_
                refine wp_region_any (by kernel_rfl) ?_
                change wpAny _ _ _ _ _ _ _ (World.drew _)
                refine wpAny_take (i := 0) (v := ?_) rfl (by kernel_rfl) (by kernel_rfl) (by kernel_rfl) (fun _ _ _ h => h) (Or.inl ⟨by kernel_rfl, ?_⟩) ?_
                rotate_left
                · intro w
                  go_simp
                  try with_reducible rfl
                change wpAny _ _ _ _ _ _ (⟨#[_,_,_,_,_,_,_,_,_,_,_,_,_,_,_,_,_,_,_,_,_,_,_,_,_,_,_,_,_,_,_,_,_,_,_,_,_,_,_,_,_,_,_,_,_,_,_,_,_,_,_,_,_,_,_,_,_,_,_,_,_,_,_,_,_,_,_,_,_,_,_,_,_,_,_,_,_,_,_,_,_,_,_,_,_,_,_,_,_,_,_,_,_,_,_,_,_,_,_,_,_,_,_,_,_,_,_,_,_,_,_,_,_,_,_,_,_,_,_,_,_,_,_,_,_,_,_,_,_,_,_,_,_,_,_,_,_,_,_,_,_,_,_,_,_,_,_,_,_,_,_,_,_,_,_,_,_,_,_,_,_,_,_,_,_,_,_,_,_,_,_,_,_,_,_,_,_,_,_,_,_,_,_,_,_,_,_,_,_,_,_,_,_,_,_,_,_,_,_,_,_,_,_], _⟩ : Act) _
                refine wpAny_take (i := 1) (v := ?_) rfl (by kernel_rfl) (by kernel_rfl) (by kernel_rfl) (fun _ _ _ h => h) (Or.inl ⟨by kernel_rfl, ?_⟩) ?_
                rotate_left
                · intro w
                  go_simp
                  try with_reducible rfl
                change wpAny _ _ _ _ _ _ (⟨#[_,_,_,_,_,_,_,_,_,_,_,_,_,_,_,_,_,_,_,_,_,_,_,_,_,_,_,_,_,_,_,_,_,_,_,_,_,_,_,_,_,_,_,_,_,_,_,_,_,_,_,_,_,_,_,_,_,_,_,_,_,_,_,_,_,_,_,_,_,_,_,_,_,_,_,_,_,_,_,_,_,_,_,_,_,_,_,_,_,_,_,_,_,_,_,_,_,_,_,_,_,_,_,_,_,_,_,_,_,_,_,_,_,_,_,_,_,_,_,_,_,_,_,_,_,_,_,_,_,_,_,_,_,_,_,_,_,_,_,_,_,_,_,_,_,_,_,_,_,_,_,_,_,_,_,_,_,_,_,_,_,_,_,_,_,_,_,_,_,_,_,_,_,_,_,_,_,_,_,_,_,_,_,_,_,_,_,_,_,_,_,_,_,_,_,_,_,_,_,_,_,_,_], _⟩ : Act) _
                refine wpAny_take (i := 2) (v := ?_) rfl (by kernel_rfl) (by kernel_rfl) (by kernel_rfl) (fun _ _ _ h => h) (Or.inl ⟨by kernel_rfl, ?_⟩) ?_
                rotate_left
                · intro w
                  go_simp
                  try with_reducible rfl
                change wpAny _ _ _ _ _ _ (⟨#[_,_,_,_,_,_,_,_,_,_,_,_,_,_,_,_,_,_,_,_,_,_,_,_,_,_,_,_,_,_,_,_,_,_,_,_,_,_,_,_,_,_,_,_,_,_,_,_,_,_,_,_,_,_,_,_,_,_,_,_,_,_,_,_,_,_,_,_,_,_,_,_,_,_,_,_,_,_,_,_,_,_,_,_,_,_,_,_,_,_,_,_,_,_,_,_,_,_,_,_,_,_,_,_,_,_,_,_,_,_,_,_,_,_,_,_,_,_,_,_,_,_,_,_,_,_,_,_,_,_,_,_,_,_,_,_,_,_,_,_,_,_,_,_,_,_,_,_,_,_,_,_,_,_,_,_,_,_,_,_,_,_,_,_,_,_,_,_,_,_,_,_,_,_,_,_,_,_,_,_,_,_,_,_,_,_,_,_,_,_,_,_,_,_,_,_,_,_,_,_,_,_,_], _⟩ : Act) _
                refine wpAny_take (i := 3) (v := ?_) rfl (by kernel_rfl) (by kernel_rfl) (by kernel_rfl) (fun _ _ _ h => h) (Or.inl ⟨by kernel_rfl, ?_⟩) ?_
                rotate_left
                · intro w
                  go_simp
                  try with_reducible rfl
                change wpAny _ _ _ _ _ _ (⟨#[_,_,_,_,_,_,_,_,_,_,_,_,_,_,_,_,_,_,_,_,_,_,_,_,_,_,_,_,_,_,_,_,_,_,_,_,_,_,_,_,_,_,_,_,_,_,_,_,_,_,_,_,_,_,_,_,_,_,_,_,_,_,_,_,_,_,_,_,_,_,_,_,_,_,_,_,_,_,_,_,_,_,_,_,_,_,_,_,_,_,_,_,_,_,_,_,_,_,_,_,_,_,_,_,_,_,_,_,_,_,_,_,_,_,_,_,_,_,_,_,_,_,_,_,_,_,_,_,_,_,_,_,_,_,_,_,_,_,_,_,_,_,_,_,_,_,_,_,_,_,_,_,_,_,_,_,_,_,_,_,_,_,_,_,_,_,_,_,_,_,_,_,_,_,_,_,_,_,_,_,_,_,_,_,_,_,_,_,_,_,_,_,_,_,_,_,_,_,_,_,_,_,_], _⟩ : Act) _
                refine wpAny_take (i := 5) (v := ?_) rfl (by kernel_rfl) (by kernel_rfl) (by kernel_rfl) (fun _ _ _ h => h) (Or.inl ⟨by kernel_rfl, ?_⟩) ?_
                rotate_left
                · intro w
                  go_simp
                  try with_reducible rfl
                change wpAny _ _ _ _ _ _ (⟨#[_,_,_,_,_,_,_,_,_,_,_,_,_,_,_,_,_,_,_,_,_,_,_,_,_,_,_,_,_,_,_,_,_,_,_,_,_,_,_,_,_,_,_,_,_,_,_,_,_,_,_,_,_,_,_,_,_,_,_,_,_,_,_,_,_,_,_,_,_,_,_,_,_,_,_,_,_,_,_,_,_,_,_,_,_,_,_,_,_,_,_,_,_,_,_,_,_,_,_,_,_,_,_,_,_,_,_,_,_,_,_,_,_,_,_,_,_,_,_,_,_,_,_,_,_,_,_,_,_,_,_,_,_,_,_,_,_,_,_,_,_,_,_,_,_,_,_,_,_,_,_,_,_,_,_,_,_,_,_,_,_,_,_,_,_,_,_,_,_,_,_,_,_,_,_,_,_,_,_,_,_,_,_,_,_,_,_,_,_,_,_,_,_,_,_,_,_,_,_,_,_,_,_], _⟩ : Act) _
                refine wpAny_ready (rs := [4, 6]) (by kernel_rfl) (by simp) (AllReady.cons rfl (fun K hK => ?_) (AllReady.cons rfl (fun K hK => ?_) AllReady.nil))
                · go_simp
                  refine hK _ _ ?_
                  clear hK K
                  refine wpAny_ready (rs := [6]) (by kernel_rfl) (by simp) (AllReady.cons rfl (fun K hK => ?_) AllReady.nil)
                  go_simp
                  with_reducible refine (HNUM.out _ HDD).mono ?_
                  rintro _ w9 ⟨x, rfl, HR1, HO1⟩
                  refine hK _ _ ?_
                  clear hK K
                  have cp9 := HC1.out w9 HO1.out
                  obtain ⟨cf9, ff9⟩ := HC2.out w9 HO1.out
                  have HNX9 := hidM (HNX.out x w9 HR1.out HO1.out)
                  have hx9 : x < 65536 := HR1.out.1
                  clear HNX HC1 HC2 HNUM
                  refine wpAny_take (i := 7) (v := ?_) rfl (by kernel_rfl) (by kernel_rfl) (by kernel_rfl) (fun _ _ _ h => h) (Or.inl ⟨by kernel_rfl, ?_⟩) ?_
                  rotate_left
                  · intro w
                    go_simp
                    try with_reducible rfl
                  change wpAny _ _ _ _ _ _ (⟨#[_,_,_,_,_,_,_,_,_,_,_,_,_,_,_,_,_,_,_,_,_,_,_,_,_,_,_,_,_,_,_,_,_,_,_,_,_,_,_,_,_,_,_,_,_,_,_,_,_,_,_,_,_,_,_,_,_,_,_,_,_,_,_,_,_,_,_,_,_,_,_,_,_,_,_,_,_,_,_,_,_,_,_,_,_,_,_,_,_,_,_,_,_,_,_,_,_,_,_,_,_,_,_,_,_,_,_,_,_,_,_,_,_,_,_,_,_,_,_,_,_,_,_,_,_,_,_,_,_,_,_,_,_,_,_,_,_,_,_,_,_,_,_,_,_,_,_,_,_,_,_,_,_,_,_,_,_,_,_,_,_,_,_,_,_,_,_,_,_,_,_,_,_,_,_,_,_,_,_,_,_,_,_,_,_,_,_,_,_,_,_,_,_,_,_,_,_,_,_,_,_,_,_], _⟩ : Act) _
                  refine wpAny_ready (rs := [8]) (by kernel_rfl) (by simp) (AllReady.cons rfl (fun K hK => ?_) AllReady.nil)
                  go_simp
                  refine hK _ _ ?_
                  clear hK K
                  refine wpAny_done (by kernel_rfl) ?_ _
                  refine NoPanic.normal ?_
                  clear cp9 cf9 ff9 HDD HG1 HG2 HR1 HO1 c4
                  generalize w9.setCell ⟨g1, p, none⟩ (.int .i64 (x : Int)) = w10 at *
                  go_wp2
                  go_roundw
                  case rel => exact ⟨j + 1, by omega, by go_num, HNX9.out⟩
                  case measure => simp [intOf]; omega
                · go_simp
                  with_reducible refine (HNUM.out _ HDD).mono ?_
                  rintro _ w9 ⟨x, rfl, HR1, HO1⟩
                  refine hK _ _ ?_
                  clear hK K
                  have cp9 := HC1.out w9 HO1.out
                  obtain ⟨cf9, ff9⟩ := HC2.out w9 HO1.out
                  have HNX9 := hidM (HNX.out x w9 HR1.out HO1.out)
                  have hx9 : x < 65536 := HR1.out.1
                  clear HNX HC1 HC2 HNUM
                  refine wpAny_ready (rs := [4]) (by kernel_rfl) (by simp) (AllReady.cons rfl (fun K hK => ?_) AllReady.nil)
                  go_simp
                  refine hK _ _ ?_
                  clear hK K
                  refine wpAny_take (i := 7) (v := ?_) rfl (by kernel_rfl) (by kernel_rfl) (by kernel_rfl) (fun _ _ _ h => h) (Or.inl ⟨by kernel_rfl, ?_⟩) ?_
                  rotate_left
                  · intro w
                    go_simp
                    try with_reducible rfl
                  change wpAny _ _ _ _ _ _ (⟨#[_,_,_,_,_,_,_,_,_,_,_,_,_,_,_,_,_,_,_,_,_,_,_,_,_,_,_,_,_,_,_,_,_,_,_,_,_,_,_,_,_,_,_,_,_,_,_,_,_,_,_,_,_,_,_,_,_,_,_,_,_,_,_,_,_,_,_,_,_,_,_,_,_,_,_,_,_,_,_,_,_,_,_,_,_,_,_,_,_,_,_,_,_,_,_,_,_,_,_,_,_,_,_,_,_,_,_,_,_,_,_,_,_,_,_,_,_,_,_,_,_,_,_,_,_,_,_,_,_,_,_,_,_,_,_,_,_,_,_,_,_,_,_,_,_,_,_,_,_,_,_,_,_,_,_,_,_,_,_,_,_,_,_,_,_,_,_,_,_,_,_,_,_,_,_,_,_,_,_,_,_,_,_,_,_,_,_,_,_,_,_,_,_,_,_,_,_,_,_,_,_,_,_], _⟩ : Act) _
                  refine wpAny_ready (rs := [8]) (by kernel_rfl) (by simp) (AllReady.cons rfl (fun K hK => ?_) AllReady.nil)
                  go_simp
                  refine hK _ _ ?_
                  clear hK K
                  refine wpAny_done (by kernel_rfl) ?_ _
                  refine NoPanic.normal ?_
                  clear cp9 cf9 ff9 HDD HG1 HG2 HR1 HO1 c4
                  generalize w9.setCell ⟨g1, p, none⟩ (.int .i64 (x : Int)) = w10 at *
                  go_wp2
                  go_roundw
                  case rel => exact ⟨j + 1, by omega, by go_num, HNX9.out⟩
                  case measure => simp [intOf]; omega
            · have hjn0 : nc ≤ j := by omega
              have k9 : ¬ (j : Int) < (nc : Int) := by omega
              have HF1 : Hid (FsS R g c T X (t + 14) most v o w g1 g2 nc wr) := by
                have hjn : j = nc := by omega
                rw [← hjn]
                exact HF.out
              clear HF
              have HLE : Hid (t + 14 + 3 * (4 + V / 1024) ≤ total X) := by unfold Hid; rw [← HTT.out, HNC.out]; exact HF1.out.le
              have hcl : t + 14 + 3 * nc ≤ T := HF1.out.le
              obtain ⟨C, hC⟩ : ∃ C, C = firstCd X (t + 14) nc := ⟨_, rfl⟩
              have hCL : C.L = 19 := by rw [hC]; rfl
              have HIT : Hid (IntsAt wr (some ⟨g1, 0, none⟩) 19 .i64 (fun i => (C.ln i : Int))) := by rw [hC]; exact HF1.out.ints
              have HCK := hidM (check_anyI (some ⟨g1, 0, none⟩) 19 19 _ wr HIT.out)
              have HC15 : Hid (∀ i, C.ln i ≤ 15) := fun i => by rw [hC]; exact Nat.le_trans (lenK_le X (t + 14) nc i) (by decide)
              have HCF : Hid (∀ e, ChkPost (fun i => (C.ln i : Int)) 19 e → (¬ Fit C.ln 19 ∧ e = .returned (.int .i64 4)) ∨ (Fit C.ln 19 ∧ e = .returned (.int .i64 0))) := fun e h => by rw [hC] at h ⊢; exact chk_first h
              have HCO : Hid (Fit C.ln 19 → C.Ok) := fun h => by rw [hC] at h ⊢; exact firstCd_ok h
              have HCE : Hid (firstCd X (t + 14) (4 + V / 1024) = C) := by unfold Hid; rw [HNC.out, hC]
              clear hC
              go_wp2_with fail
              refine HCK.out.mono ?_
              rintro _ w0 ⟨hp, h0⟩
              rw [h0]
              clear h0 w0 HCK
              rcases HCF.out _ hp with ⟨hfit, rfl⟩ | ⟨hfit, rfl⟩
              · as_aux_lemma =>
                  have HDY : Hid (Dyn X t (.inl 3)) := .first3 V HNV.out HC.out HLE.out (by rw [HCE.out]; exact hfit)
                  have HFl := hidM (rfail_any R g c T (t + 14 + 3 * nc) most 3 X o v wr HF1.out.st)
                  go_wp2_with fail
                  refine HFl.out.mono ?_
                  rintro _ _ ⟨rfl, rfl⟩
                  have h1 := HF1.out.st.setE 3
                  have HSf := hidM h1.1
                  have HPf : Hid (Stp R v v w (wr.setCell ⟨R, 4, none⟩ (.int .i64 ((3 : Nat) : Int)))) := HF1.out.stp.trans h1.2.stp
                  clear h1 c4 HFl
                  generalize wr.setCell ⟨R, 4, none⟩ (.int .i64 ((3 : Nat) : Int)) = wf at *
                  have c4 : wf.cell? ⟨R, 4, none⟩ = some (.int .i64 3) := HSf.out.box.c4
                  go_wp2
                  (try simp only [Exit.inBlock, Exit.then])
                  go_ret2
                  exact .inl ⟨3, _,_,_, by decide, HDY.out, rfl, HSf.out, HPf.out⟩
              · have HFIT := hidM hfit
                have HGD : Hid C.Good := ⟨HCO.out hfit, by rw [hCL]; exact hfit⟩
                have HCD := hidM (codes_any (some ⟨g1, 0, none⟩) 19 19 C.ln wr HIT.out HC15.out (by decide) hfit.le)
                clear hp hfit HCO
                go_wp2_with fail
                refine HCD.out.mono ?_
                rintro _ wq ⟨⟨b1, d1, rfl, hK1⟩, hBc⟩
                have HK1 : Hid (CodR wq wr.heap.size b1 C) := by unfold Hid CodR; rw [hCL]; exact hK1
                have HSc := hidM (HF1.out.st.later hBc)
                have HPc := hidM (HF1.out.stp.trans (Below.stp (v := v) hBc (Nat.le_of_lt HF1.out.st.box.lt)))
                have HZc : Hid (w.heap.size ≤ wr.heap.size) := HF1.out.stp.below.size
                have HZd : Hid (w.heap.size ≤ wq.heap.size) := Nat.le_trans HF1.out.stp.below.size hBc.size
                clear hK1 hBc HCD HIT c4 HF1
                obtain ⟨B, hB⟩ : ∃ B, B = wr.heap.size := ⟨_, rfl⟩
                rw [← hB] at HK1 HZc
                clear hB
                obtain ⟨ns, hns⟩ : ∃ ns, ns = nl + nd := ⟨_, rfl⟩
                have i4 : (nl : Int) + (nd : Int) = (ns : Int) := by omega
                have HNS := hidM hns
                have ns9 : ns ≤ 316 := by omega
                have ns8 : 258 ≤ ns := by omega
                obtain ⟨t1, ht1⟩ : ∃ t1, t1 = t + 14 + 3 * nc := ⟨_, rfl⟩
                have HT1 : Hid (t + 14 + 3 * (4 + V / 1024) = t1) := by unfold Hid; rw [HNC.out]; omega
                have t1T : t1 ≤ T := by omega
                have t1t : t ≤ t1 := by omega
                rw [← ht1] at HSc
                clear hns ht1
                have HBE : Hid (∀ e, e ≠ 0 → Lens C X ns t1 [] (.inl e) → Dyn X t (.inl e)) := fun e _ h => .lens V e HNV.out HC.out HLE.out (by rw [HCE.out]; exact HFIT.out) (by rw [HCE.out, HNL.out, HND.out, ← HNS.out, HT1.out]; exact h)
                go_wp2
                have HL0 : Hid (LnS R g c T X t1 most 0 v o w wq (.slice (some ⟨wq.heap.size, 0, none⟩) 0 0) [] (wq.alloc (.cells #[] 3))) := by
                  have hb : Below wq.heap.size wq (wq.alloc (.cells #[] 3)) := (Below.refl _ wq).alloc (Nat.le_refl _) _
                  refine ⟨HSc.out.later hb, ?_, hb.size, fun k _ h2 => hb.block k h2, HPc.out.trans (Below.stp (v := v) hb (Nat.le_of_lt HSc.out.box.lt))⟩
                  have h := World.ownsRow_lit (base := wq.heap.size) wq #[] 0 (e := 3) (size := 1) (Nat.le_refl _) (Nat.zero_le _) rfl
                  unfold OwnN
                  simpa [natsV] using h
                clear HSc HPc
                generalize wq.alloc (.cells #[] 3) = wd at *
                have HOWN : Hid (∀ k, v.ownBlock = some k → k < w.heap.size) := HOW.out
                go_loopw [11, 12, 13, 14, 15] (fun u _ _ _ _ wr => LnI C ns t1 R g c T X most v o w wq u wr) (fun _ _ _ _ _ wr => leftX R T wr)
                case atStart => exact .inl ⟨t1, [], fun _ h => h, Nat.le_refl _, t1T, Nat.zero_le _, fun x hx => by simp at hx, HL0.out⟩
                case round =>
                  clear HL0
                  rcases hrel with ⟨tr, lr, hrun, ht1r, htrT, hlen, h15, hls⟩ | ⟨e, tr, lr, he, hlen, hrun, hls⟩
                  · have HRUN := hidM hrun
                    have H15 := hidM h15
                    have HLS := hidM hls
                    have c4 : wr.cell? ⟨R, 4, none⟩ = some (.int .i64 0) := hls.st.box.c4
                    have HEZ : Hid (leftX R T wr = 1 + (T - tr)) := by unfold Hid leftX; rw [hls.st.err, hls.st.bit, if_pos rfl]
                    obtain ⟨ua, uc, rfl, hsh⟩ := hls.own.shape
                    have HSH := hidM hsh
                    obtain ⟨ll, hll⟩ : ∃ ll, ll = lr.length := ⟨_, rfl⟩
                    have HLL := hidM hll
                    rw [← hll] at HLS hlen
                    rw [← hll]
                    clear hrun h15 hls hsh
                    have ll9 : ll ≤ 316 := by omega
                    by_cases hfull : ll < ns
                    · have f1 : (ll : Int) < (ns : Int) := by omega
                      clear hll
                      have HSY : Hid (Calls Tryz.prog 153 #[.pointer (some ⟨R, 0, none⟩), .slice b1 19 d1] wr fun e w' => SymX C R g c T X tr most v o e w' ∧ Only R wr w') := by
                        have h := rsym_any R g c T tr most B X o v wr C b1 d1 HLS.out.st HGD.out (HLS.out.codes HZc.out HK1.out) hT htrT
                        rw [hCL] at h
                        exact h
                      go_wp2_with fail
                      refine HSY.out.mono ?_
                      rintro _ w5 ⟨hp, ho⟩
                      have HO5 := hidM ho
                      clear ho HSY c4
                      rcases hp with ⟨s, t2, hsym, ht2T, hsL, rfl, hst⟩ | ⟨r, hr, hsym, rfl, hst⟩
                      · have hs19 : s < 19 := by omega
                        have htt : tr < t2 := hsym.lt.2.1
                        have HSYM := hidM hsym
                        have HL5 := hidM (HLS.out.only hRB HZd.out HO5.out hst)
                        have c4 : w5.cell? ⟨R, 4, none⟩ = some (.int .i64 0) := hst.box.c4
                        have HSH5 : Hid (0 < lr.length → ∃ g, ua = some ⟨g, 0, none⟩ ∧ wq.heap.size ≤ g ∧ g < w5.heap.size ∧ ∀ j (hj : j < lr.length), w5.cell? ⟨g, j, none⟩ = some (.int .i64 (lr[j] : Int))) := fun h0 => by
                          obtain ⟨a', c', h1, h2⟩ := HL5.out.own.shape
                          obtain ⟨g5, h3, h4⟩ := h2 h0
                          simp only [Value.slice.injEq] at h1
                          exact ⟨g5, by rw [h1.1]; exact h3, h4⟩
                        clear hst hsym HSH
                        by_cases h16 : s = 16 ∧ lr = []
                        · as_aux_lemma =>
                            obtain ⟨rfl, rfl⟩ := h16
                            have hll0 : ll = 0 := HLL.out
                            subst hll0
                            have HDY : Hid (Dyn X t (.inl 3)) := HBE.out 3 (by decide) (HRUN.out _ (.stop tr [] 3 (by simp; omega) (.first t2 HSYM.out rfl)))
                            have HFl := hidM (rfail_any R g c T t2 most 3 X o v w5 HL5.out.st)
                            go_wp2_with fail
                            refine HFl.out.mono ?_
                            rintro _ _ ⟨rfl, rfl⟩
                            have h1 := HL5.out.st.setE 3
                            have HSf := hidM h1.1
                            have HPf : Hid (Stp R v v w (w5.setCell ⟨R, 4, none⟩ (.int .i64 ((3 : Nat) : Int)))) := HL5.out.stp.trans h1.2.stp
                            clear h1 c4 HFl
                            generalize w5.setCell ⟨R, 4, none⟩ (.int .i64 ((3 : Nat) : Int)) = wf at *
                            have c4 : wf.cell? ⟨R, 4, none⟩ = some (.int .i64 3) := HSf.out.box.c4
                            go_wp2
                            (try simp only [Exit.inBlock, Exit.then])
                            go_ret2
                            exact .inl ⟨3, _,_,_, by decide, HDY.out, rfl, HSf.out, HPf.out⟩
                        · go_upto_block 4 with fail
                          go_cut [13, 14] (fun tm wh wx => ∃ m y : Nat, tm = .int .i64 m ∧ wh = .int .i64 y ∧ m ≤ 140 ∧ 0 < m ∧ y ≤ 20 ∧ SwI C ns tr R g c T X most v o w wq (.slice ua ll uc) lr m y wx)
                          case first =>
                            by_cases s16 : s < 16
                            · as_aux_lemma =>
                                have g1 : ((s : Int) == 16) = false := by simp; omega
                                have g2 : ((s : Int) == 17) = false := by simp; omega
                                have g3 : ((s : Int) == 18) = false := by simp; omega
                                have HFN : Hid (SwI C ns tr R g c T X most v o w wq (.slice ua ll uc) lr 1 s w5) := .inl ⟨t2, HL5.out, htt, ht2T, fun _ => ⟨by omega, .plain s t2 HSYM.out s16⟩, fun h => by have := HLL.out; omega⟩
                                go_wp2_with fail
                                go_meet
                                case rel => exact ⟨1, s, rfl, rfl, by decide, by decide, by omega, HFN.out⟩
                            · have hc : s = 16 ∨ s = 17 ∨ s = 18 := by omega
                              rcases hc with rfl | rfl | rfl
                              · as_aux_lemma =>
                                  have hne : lr ≠ [] := fun h => h16 ⟨rfl, h⟩
                                  have hpos : 0 < lr.length := List.length_pos_iff.2 hne
                                  obtain ⟨g5, rfl, _,_, hcell⟩ := HSH5.out hpos
                                  obtain ⟨q, hq⟩ : ∃ q, q = ll - 1 := ⟨_, rfl⟩
                                  have hll2 := HLL.out
                                  have hql : q < lr.length := by omega
                                  obtain ⟨y, hy⟩ : ∃ y, y = lr[q] := ⟨_, rfl⟩
                                  have cy : w5.cell? ⟨g5, q, none⟩ = some (.int .i64 (y : Int)) := by rw [hy]; exact hcell q hql
                                  have HLY : Hid (lr.getLast?.getD 0 = y) := by
                                    unfold Hid
                                    rw [List.getLast?_eq_getElem?, show lr.length - 1 = q by omega, List.getElem?_eq_getElem hql, hy]
                                    rfl
                                  have y15 : y ≤ 15 := by rw [hy]; exact H15.out _ (List.getElem_mem hql)
                                  have ez : (ll : Int) - 1 = (q : Int) := by omega
                                  have qlt : (q : Int) < (ll : Int) := by omega
                                  have q0 : ((ll : Int) == 0) = false := by simp; omega
                                  have hq9 : q ≤ 316 := by omega
                                  have HNE := hidM hne
                                  clear hcell HSH5 hq hql hy hne hpos
                                  have HNUM : Hid (Calls Tryz.prog 103 #[.pointer (some ⟨R, 0, none⟩), .int .i64 2] w5 fun e w' => NumPost R g c T X t2 most 2 v o e w' ∧ Only R w5 w') := rnum_any R g c T t2 most 2 X o v w5 HL5.out.st hT ht2T (by decide)
                                  clear hll2
                                  go_wp2_with fail
                                  refine HNUM.out.mono ?_
                                  rintro _ w6 ⟨hp, ho⟩
                                  have HO6 := hidM ho
                                  clear ho HNUM
                                  rcases hp with ⟨x, hnum, hx, hxT, rfl, hst⟩ | ⟨hnum, rfl, hst⟩
                                  · have HL6 := hidM (HL5.out.only hRB HZd.out HO6.out hst)
                                    have hx9 : x < 4 := hx
                                    obtain ⟨m, hm⟩ : ∃ m, m = 3 + x := ⟨_, rfl⟩
                                    have HM := hidM hm
                                    have em : (3 : Int) + (x : Int) = (m : Int) := by omega
                                    have m9 : m ≤ 140 := by omega
                                    have m0 : 0 < m := by omega
                                    have HFN : Hid (SwI C ns tr R g c T X most v o w wq (.slice (some ⟨g5, 0, none⟩) ll uc) lr m y w6) := .inl ⟨t2 + 2, HL6.out, by omega, hxT, fun hle => ⟨y15, by
                                      have h9 := StepL.good (c := C) (X := X) (n := ns) (t := tr) (l := lr) 16 t2 x HSYM.out (by decide) (fun h => HNE.out h.2) hnum (by show lr.length + (3 + x) ≤ ns; omega)
                                      rw [if_pos rfl, HLY.out] at h9
                                      rw [HM.out]
                                      exact h9⟩, fun hgt => .many 16 t2 x HSYM.out (by decide) (fun h => HNE.out h.2) hnum (by show ns < lr.length + (3 + x); omega)⟩
                                    clear hm hst hnum
                                    go_wp2_with fail
                                    go_meet
                                    case rel => exact ⟨m, y, rfl, rfl, m9, m0, (by omega), HFN.out⟩
                                  · have HL6 := hidM (HL5.out.only hRB HZd.out HO6.out hst)
                                    have HFN : Hid (SwI C ns tr R g c T X most v o w wq (.slice (some ⟨g5, 0, none⟩) ll uc) lr 3 y w6) := .inr ⟨6, t2, by decide, HL6.out, .times6 16 t2 HSYM.out (by decide) (fun h => HNE.out h.2) hnum⟩
                                    clear hst hnum
                                    go_wp2_with fail
                                    go_meet
                                    case rel => exact ⟨3, y, rfl, rfl, by decide, by decide, (by omega), HFN.out⟩
                              · as_aux_lemma =>
                                  have HNUM : Hid (Calls Tryz.prog 103 #[.pointer (some ⟨R, 0, none⟩), .int .i64 3] w5 fun e w' => NumPost R g c T X t2 most 3 v o e w' ∧ Only R w5 w') := rnum_any R g c T t2 most 3 X o v w5 HL5.out.st hT ht2T (by decide)
                                  go_wp2_with fail
                                  refine HNUM.out.mono ?_
                                  rintro _ w6 ⟨hp, ho⟩
                                  have HO6 := hidM ho
                                  clear ho HNUM
                                  rcases hp with ⟨x, hnum, hx, hxT, rfl, hst⟩ | ⟨hnum, rfl, hst⟩
                                  · have HL6 := hidM (HL5.out.only hRB HZd.out HO6.out hst)
                                    have hx9 : x < 8 := hx
                                    obtain ⟨m, hm⟩ : ∃ m, m = 3 + x := ⟨_, rfl⟩
                                    have HM := hidM hm
                                    have em : (3 : Int) + (x : Int) = (m : Int) := by omega
                                    have m9 : m ≤ 140 := by omega
                                    have m0 : 0 < m := by omega
                                    have HFN : Hid (SwI C ns tr R g c T X most v o w wq (.slice ua ll uc) lr m 0 w6) := .inl ⟨t2 + 3, HL6.out, by omega, hxT, fun hle => ⟨by decide, by
                                      have h9 := StepL.good (c := C) (X := X) (n := ns) (t := tr) (l := lr) 17 t2 x HSYM.out (by decide) (fun h => absurd h.1 (by decide)) hnum (by show lr.length + (3 + x) ≤ ns; omega)
                                      rw [HM.out]
                                      exact h9⟩, fun hgt => .many 17 t2 x HSYM.out (by decide) (fun h => absurd h.1 (by decide)) hnum (by show ns < lr.length + (3 + x); omega)⟩
                                    clear hm hst hnum
                                    go_wp2_with fail
                                    go_meet
                                    case rel => exact ⟨m, 0, rfl, rfl, m9, m0, (by decide), HFN.out⟩
                                  · have HL6 := hidM (HL5.out.only hRB HZd.out HO6.out hst)
                                    have HFN : Hid (SwI C ns tr R g c T X most v o w wq (.slice ua ll uc) lr 3 0 w6) := .inr ⟨6, t2, by decide, HL6.out, .times6 17 t2 HSYM.out (by decide) (fun h => absurd h.1 (by decide)) hnum⟩
                                    clear hst hnum
                                    go_wp2_with fail
                                    go_meet
                                    case rel => exact ⟨3, 0, rfl, rfl, by decide, by decide, (by decide), HFN.out⟩
                              · as_aux_lemma =>
                                  have HNUM : Hid (Calls Tryz.prog 103 #[.pointer (some ⟨R, 0, none⟩), .int .i64 7] w5 fun e w' => NumPost R g c T X t2 most 7 v o e w' ∧ Only R w5 w') := rnum_any R g c T t2 most 7 X o v w5 HL5.out.st hT ht2T (by decide)
                                  go_wp2_with fail
                                  refine HNUM.out.mono ?_
                                  rintro _ w6 ⟨hp, ho⟩
                                  have HO6 := hidM ho
                                  clear ho HNUM
                                  rcases hp with ⟨x, hnum, hx, hxT, rfl, hst⟩ | ⟨hnum, rfl, hst⟩
                                  · have HL6 := hidM (HL5.out.only hRB HZd.out HO6.out hst)
                                    have hx9 : x < 128 := hx
                                    obtain ⟨m, hm⟩ : ∃ m, m = 11 + x := ⟨_, rfl⟩
                                    have HM := hidM hm
                                    have em : (11 : Int) + (x : Int) = (m : Int) := by omega
                                    have m9 : m ≤ 140 := by omega
                                    have m0 : 0 < m := by omega
                                    have HFN : Hid (SwI C ns tr R g c T X most v o w wq (.slice ua ll uc) lr m 0 w6) := .inl ⟨t2 + 7, HL6.out, by omega, hxT, fun hle => ⟨by decide, by
                                      have h9 := StepL.good (c := C) (X := X) (n := ns) (t := tr) (l := lr) 18 t2 x HSYM.out (by decide) (fun h => absurd h.1 (by decide)) hnum (by show lr.length + (11 + x) ≤ ns; omega)
                                      rw [HM.out]
                                      exact h9⟩, fun hgt => .many 18 t2 x HSYM.out (by decide) (fun h => absurd h.1 (by decide)) hnum (by show ns < lr.length + (11 + x); omega)⟩
                                    clear hm hst hnum
                                    go_wp2_with fail
                                    go_meet
                                    case rel => exact ⟨m, 0, rfl, rfl, m9, m0, (by decide), HFN.out⟩
                                  · have HL6 := hidM (HL5.out.only hRB HZd.out HO6.out hst)
                                    have HFN : Hid (SwI C ns tr R g c T X most v o w wq (.slice ua ll uc) lr 11 0 w6) := .inr ⟨6, t2, by decide, HL6.out, .times6 18 t2 HSYM.out (by decide) (fun h => absurd h.1 (by decide)) hnum⟩
                                    clear hst hnum
                                    go_wp2_with fail
                                    go_meet
                                    case rel => exact ⟨11, 0, rfl, rfl, by decide, by decide, (by decide), HFN.out⟩
                          case rest =>
                            obtain ⟨m, y, rfl, rfl, m9, m0, y20, hsw⟩ := hcut
                            clear c4 HL5 HSH5 HSYM
                            have hm0 : (0 : Int) < (m : Int) := by omega
                            obtain ⟨lm, hlm⟩ : ∃ lm, lm = ll + m := ⟨_, rfl⟩
                            have elm : (ll : Int) + (m : Int) = (lm : Int) := by omega
                            have lm9 : lm ≤ 500 := by omega
                            have HLM := hidM hlm
                            clear hlm
                            rcases hsw with ⟨t3, hl6, htt3, ht3T, hA, hB⟩ | ⟨e, t3, he, hl6, hst⟩
                            · have HL6 := hidM hl6
                              have c4 : wc.cell? ⟨R, 4, none⟩ = some (.int .i64 0) := hl6.st.box.c4
                              clear hl6
                              by_cases hfit : ns < lm
                              · as_aux_lemma =>
                                  have k7 : (ns : Int) < (lm : Int) := by omega
                                  have HST := hidM (hB (by have := HLM.out; have := HLL.out; omega))
                                  clear hA hB
                                  have HFl := hidM (rfail_any R g c T t3 most 3 X o v wc HL6.out.st)
                                  go_wp2_with fail
                                  refine HFl.out.mono ?_
                                  rintro _ _ ⟨rfl, rfl⟩
                                  have h1 := HL6.out.st.setE 3
                                  have HL7 := hidM (HL6.out.only hRB HZd.out h1.2 h1.1)
                                  clear h1 c4 HFl HL6
                                  generalize wc.setCell ⟨R, 4, none⟩ (.int .i64 ((3 : Nat) : Int)) = wf at *
                                  have HEN : Hid ((3 : Nat) ≠ 0) := by unfold Hid; decide
                                  have HLB : Hid (Lens C X ns t1 [] (.inl 3)) := HRUN.out _ (.stop tr lr 3 (by rw [← HLL.out]; exact hfull) HST.out)
                                  have HER : Hid (leftX R T wf = 0) := by unfold Hid leftX; rw [HL7.out.st.err, if_neg (by decide)]
                                  rw [HLL.out] at hlen
                                  have c4 : wf.cell? ⟨R, 4, none⟩ = some (.int .i64 3) := HL7.out.st.box.c4
                                  go_wp2
                                  go_loopw [11, 15] (fun l i wr' => l = .slice ua ll uc ∧ i = .int .i64 0 ∧ wr' = wf) (fun _ _ _ => 0)
                                  case atStart => exact ⟨rfl, rfl, rfl⟩
                                  case round =>
                                    obtain ⟨rfl, rfl, rfl⟩ := hrel
                                    skip
                                    go_wp2
                                    go_roundw
                                    case rel => exact .inr ⟨3, _, lr, HEN.out, hlen, HLB.out, HL7.out⟩
                                    case measure => have h1 := HER.out; have h2 := HEZ.out; omega
                              · as_aux_lemma =>
                                  have k7 : ¬ (ns : Int) < (lm : Int) := by omega
                                  have hle : lr.length + m ≤ ns := by have := HLM.out; have := HLL.out; omega
                                  obtain ⟨y15, hst⟩ := hA hle
                                  have HST := hidM hst
                                  clear hA hB hst
                                  have HL6' : Hid (LnS R g c T X t3 most 0 v o w wq (.slice ua ll uc) (lr ++ List.replicate 0 y) wc) := by unfold Hid; rw [List.replicate_zero, List.append_nil]; exact HL6.out
                                  clear HL6
                                  go_wp2
                                  go_loopw [11, 15] (fun u i wr' => ∃ q : Nat, q ≤ m ∧ i = .int .i64 q ∧ LnS R g c T X t3 most 0 v o w wq u (lr ++ List.replicate q y) wr') (fun _ i _ => m - (intOf i).toNat)
                                  case atStart => exact ⟨0, Nat.zero_le _, rfl, HL6'.out⟩
                                  case round =>
                                    obtain ⟨q, hq, rfl, hl7⟩ := hrel
                                    clear HL6' c4
                                    have HL7 := hidM hl7
                                    have c4 : wr.cell? ⟨R, 4, none⟩ = some (.int .i64 0) := hl7.st.box.c4
                                    have HLQ : Hid ((lr ++ List.replicate q y).length = lr.length + q) := by unfold Hid; rw [List.length_append, List.length_replicate]
                                    obtain ⟨va, vc, rfl, hsh7⟩ := hl7.own.shape
                                    have hsz7 := hl7.sz
                                    clear hl7 hsh7
                                    by_cases hqm : q < m
                                    · have k8 : (q : Int) < (m : Int) := by omega
                                      have HRN : Hid (lr ++ List.replicate (q + 1) y = (lr ++ List.replicate q y) ++ [y]) := by unfold Hid; rw [List.append_assoc, List.replicate_succ']
                                      generalize lr ++ List.replicate q y = l1 at *
                                      go_wp2_with (first
                                        | (at_builtin; go_loud (refine wpList_append_own_at _ rfl _ _ 121 rfl wq.heap.size 3 i3 (.int .i64 0) 1 8 Tryz.underlying121 hi3 hz30 hz31 hz32 rfl (by decide) _ _ (natsV l1) rfl (World.ownsRow.alloc HL7.out.own _) ⟨wr.heap.size, 0, none⟩ 1 1 [.int .i64 (y : Int)] ?f0 rfl ?f1 ?f2 ?f3 ?f4 ?f5 ?_)))
                                      try (case f0 => rfl)
                                      case f1 => exact World.news_of_block (heap_alloc_new _ _)
                                      case f2 => first | rfl | (intro u hu; simp at hu; subst hu; rfl)
                                      case f3 => first | (unfold maxLen; have := HLQ.out; omega) | (simp [maxLen]; have := HLQ.out; omega)
                                      case f4 => first | (have := HLQ.out; have := HL7.out.sz; omega) | (simp; have := HL7.out.sz; omega)
                                      case f5 => first | omega | (simp; omega)
                                      intro u1 w7 hown hgrow _ hloc
                                      have HL8 := hidM (HL7.out.push (x := y) hRB HZd.out HOWN.out hgrow hown)
                                      clear hown hgrow hloc HL7 c4
                                      go_wp2
                                      go_roundw
                                      case rel => exact ⟨q + 1, hqm, by go_num, by rw [HRN.out]; exact HL8.out⟩
                                      case measure => simp [intOf]; omega
                                    · have k8 : ¬ (q : Int) < (m : Int) := by omega
                                      have HFN : Hid (LnI C ns t1 R g c T X most v o w wq (.slice va (lr ++ List.replicate q y).length vc) wr) := by
                                        have hqe : q = m := by omega
                                        rw [hqe] at HL7 ⊢
                                        refine .inl ⟨t3, lr ++ List.replicate m y, fun r h => HRUN.out r (.next tr lr t3 _ r (by rw [← HLL.out]; exact hfull) HST.out h), by omega, ht3T, by rw [List.length_append, List.length_replicate]; exact hle, fun x hx => ?_, HL7.out⟩
                                        rcases List.mem_append.1 hx with h1 | h1
                                        · exact H15.out x h1
                                        · rw [(List.mem_replicate.1 h1).2]; exact y15
                                      have HER : Hid (leftX R T wr = 1 + (T - t3)) := by unfold Hid leftX; rw [HL7.out.st.err, HL7.out.st.bit, if_pos rfl]
                                      clear HL7
                                      generalize (lr ++ List.replicate q y).length = lz at *
                                      go_wp2
                                      go_roundw
                                      case rel => exact HFN.out
                                      case measure => have h1 := HER.out; have h2 := HEZ.out; omega
                            · as_aux_lemma =>
                                have HL6 := hidM hl6
                                have HEN := hidM he
                                have e0 : ((e : Int) == 0) = false := by simp; omega
                                have HLB : Hid (Lens C X ns t1 [] (.inl e)) := HRUN.out _ (.stop tr lr e (by rw [← HLL.out]; exact hfull) hst)
                                have HER : Hid (leftX R T wc = 0) := by unfold Hid leftX; rw [hl6.st.err, if_neg he]
                                rw [HLL.out] at hlen
                                clear hl6 hst
                                have c4 : wc.cell? ⟨R, 4, none⟩ = some (.int .i64 (e : Int)) := HL6.out.st.box.c4
                                go_wp2
                                go_loopw [11, 15] (fun l i wr' => l = .slice ua ll uc ∧ i = .int .i64 0 ∧ wr' = wc) (fun _ _ _ => 0)
                                case atStart => exact ⟨rfl, rfl, rfl⟩
                                case round =>
                                  obtain ⟨rfl, rfl, rfl⟩ := hrel
                                  skip
                                  go_wp2
                                  go_roundw
                                  case rel => exact .inr ⟨e, _, lr, HEN.out, hlen, HLB.out, HL6.out⟩
                                  case measure => have h1 := HER.out; have h2 := HEZ.out; omega
                      · as_aux_lemma =>
                          have HL5 := hidM (HLS.out.only hRB HZd.out HO5.out hst)
                          have HEN : Hid (r ≠ 0) := by unfold Hid; omega
                          have e0 : ((r : Int) == 0) = false := by simp; omega
                          have HLB : Hid (Lens C X ns t1 [] (.inl r)) := HRUN.out _ (.stop tr lr r (by rw [← HLL.out]; exact hfull) (.bad r hsym))
                          have HER : Hid (leftX R T w5 = 0) := by unfold Hid leftX; rw [hst.err, if_neg HEN.out]
                          rw [HLL.out] at hlen
                          clear hst hsym
                          have c4 : w5.cell? ⟨R, 4, none⟩ = some (.int .i64 (r : Int)) := HL5.out.st.box.c4
                          go_wp2
                          go_loopw [11, 15] (fun l i wr' => l = .slice ua ll uc ∧ i = .int .i64 0 ∧ wr' = w5) (fun _ _ _ => 0)
                          case atStart => exact ⟨rfl, rfl, rfl⟩
                          case round =>
                            obtain ⟨rfl, rfl, rfl⟩ := hrel
                            skip
                            go_wp2
                            go_roundw
                            case rel => exact .inr ⟨r, _, lr, HEN.out, hlen, HLB.out, HL5.out⟩
                            case measure => have h1 := HER.out; have h2 := HEZ.out; omega
                    · have f1 : ¬ (ll : Int) < (ns : Int) := by omega
                      have hns2 := HNS.out
                      have hlr : lr.length = ns := by omega
                      obtain ⟨g5, cap, hu, hcap, hg5, hi1, hi2⟩ := ints_take (nl := nl) HLS.out.own H15.out (by omega) (by omega)
                      simp only [Value.slice.injEq] at hu
                      obtain ⟨rfl, hxu, rfl⟩ := hu
                      clear hxu
                      obtain ⟨g6, h6, _,_, hcell⟩ := HSH.out (by omega)
                      simp only [Option.some.injEq, Addr.mk.injEq, and_true] at h6
                      subst h6
                      obtain ⟨y, hy⟩ : ∃ y, y = lr[256]'(by omega) := ⟨_, rfl⟩
                      have cy : wr.cell? ⟨g5, 256, none⟩ = some (.int .i64 (y : Int)) := by rw [hy]; exact hcell 256 (by omega)
                      have HY : Hid (lr.getD 256 0 = y) := by
                        unfold Hid
                        rw [List.getD_eq_getElem?_getD, List.getElem?_eq_getElem (by omega), hy]
                        rfl
                      have y15 : y ≤ 15 := by rw [hy]; exact H15.out _ (List.getElem_mem _)
                      have HLN : Hid (Lens C X ns t1 [] (.inr (tr, lr))) := HRUN.out _ (.done tr lr (by omega))
                      have hnd9 : lr.length - nl = nd := by omega
                      rw [hnd9] at hi2
                      have HL1 : Hid ((cdL (lr.take nl)).L = nl) := by unfold Hid; show (lr.take nl).length = nl; rw [List.length_take]; omega
                      have HL2 : Hid ((cdL (lr.drop nl)).L = nd) := by unfold Hid; show (lr.drop nl).length = nd; rw [List.length_drop]; exact hnd9
                      have HM1 : Hid (∀ x ∈ lr.take nl, x ≤ 15) := fun x hx => H15.out x (List.mem_of_mem_take hx)
                      have HM2 : Hid (∀ x ∈ lr.drop nl, x ≤ 15) := fun x hx => H15.out x (List.mem_of_mem_drop hx)
                      have HU3 : Hid (¬ (y ≠ 0 ∧ Fit (cdL (lr.take nl)).ln nl ∧ Fit (cdL (lr.drop nl)).ln nd) → Dyn X t (.inl 3)) := fun h =>
                        .use3 V tr lr HNV.out HC.out HLE.out (by rw [HCE.out]; exact HFIT.out) (by rw [HCE.out, HNL.out, HND.out, ← HNS.out, HT1.out]; exact HLN.out) (by rw [HNL.out, HND.out, HY.out]; exact h)
                      have HUG : Hid (y ≠ 0 ∧ Fit (cdL (lr.take nl)).ln nl ∧ Fit (cdL (lr.drop nl)).ln nd → Dyn X t (.inr (cdL (lr.take nl), cdL (lr.drop nl), tr))) := fun h => by
                        have h9 := Dyn.good V tr lr HNV.out HC.out HLE.out (by rw [HCE.out]; exact HFIT.out) (by rw [HCE.out, HNL.out, HND.out, ← HNS.out, HT1.out]; exact HLN.out) (by rw [HNL.out, HND.out, HY.out]; exact h)
                        rw [HNL.out] at h9
                        exact h9
                      have HI1 := hidM hi1
                      have HI2 := hidM hi2
                      have j1 : (nl : Int) ≤ (uc : Int) := by omega
                      have j2 : (nl : Int) ≤ (ll : Int) := by omega
                      have j3 : (ll : Int) - (nl : Int) = (nd : Int) := by omega
                      have j4 : ¬ uc = nl := by omega
                      have j5 : ll - nl = nd := by omega
                      have j6 : (256 : Int) < (ll : Int) := by omega
                      have HCK1 := hidM (check_anyI (some ⟨g5, 0, none⟩) nl uc _ wr hi1)
                      have HCK2 := hidM (fun cp => check_anyI (some ⟨g5, nl, none⟩) nd cp _ wr hi2)
                      clear hns2 hlr hcell hy hnd9 hi1 hi2 hll
                      generalize hl1 : cdL (lr.take nl) = cl at *
                      generalize hl2 : cdL (lr.drop nl) = cd at *
                      have HP1 : Hid (∀ e, ChkPost (fun i => (cl.ln i : Int)) nl e → (¬ Fit cl.ln nl ∧ e = .returned (.int .i64 4)) ∨ (Fit cl.ln nl ∧ e = .returned (.int .i64 0))) := fun e h => by rw [← hl1] at h ⊢; exact chk_part (by omega) HM1.out h
                      have HP2 : Hid (∀ e, ChkPost (fun i => (cd.ln i : Int)) nd e → (¬ Fit cd.ln nd ∧ e = .returned (.int .i64 4)) ∨ (Fit cd.ln nd ∧ e = .returned (.int .i64 0))) := fun e h => by rw [← hl2] at h ⊢; exact chk_part (by omega) HM2.out h
                      have HG1 : Hid (Fit cl.ln nl → cl.Good) := fun h => ⟨by rw [← hl1] at h ⊢; exact cdL_ok (by have := HL1.out; rw [← hl1] at this; exact this) (by omega) HM1.out h, by rw [HL1.out]; exact h⟩
                      have HG2 : Hid (Fit cd.ln nd → cd.Good) := fun h => ⟨by rw [← hl2] at h ⊢; exact cdL_ok (by have := HL2.out; rw [← hl2] at this; exact this) (by omega) HM2.out h, by rw [HL2.out]; exact h⟩
                      clear hl1 hl2 HM1 HM2 HLN HY HSH H15 HRUN
                      by_cases y0 : y = 0
                      · as_aux_lemma =>
                          subst y0
                          have HDY := hidM (HU3.out (fun h => h.1 rfl))
                          have HFl := hidM (rfail_any R g c T tr most 3 X o v wr HLS.out.st)
                          go_wp2_with fail
                          refine HFl.out.mono ?_
                          rintro _ _ ⟨rfl, rfl⟩
                          have h1 := HLS.out.st.setE 3
                          have HSf := hidM h1.1
                          have HPf : Hid (Stp R v v w (wr.setCell ⟨R, 4, none⟩ (.int .i64 ((3 : Nat) : Int)))) := HLS.out.stp.trans h1.2.stp
                          clear h1 c4 HFl
                          generalize wr.setCell ⟨R, 4, none⟩ (.int .i64 ((3 : Nat) : Int)) = wf at *
                          have c4 : wf.cell? ⟨R, 4, none⟩ = some (.int .i64 3) := HSf.out.box.c4
                          go_wp2
                          (try simp only [Exit.inBlock, Exit.then])
                          go_ret2
                          exact .inl ⟨3, _,_,_, by decide, HDY.out, rfl, HSf.out, HPf.out⟩
                      · have y1 : ((y : Int) == 0) = false := by simp; omega
                        have y2 : ¬ (y : Int) = 0 := by omega
                        go_wp2_with fail
                        refine HCK1.out.mono ?_
                        rintro _ w0 ⟨hp1, h0⟩
                        rw [h0]
                        clear h0 w0 HCK1
                        rcases HP1.out _ hp1 with ⟨hf1, rfl⟩ | ⟨hf1, rfl⟩
                        · as_aux_lemma =>
                            have HDY := hidM (HU3.out (fun h => hf1 h.2.1))
                            have HFl := hidM (rfail_any R g c T tr most 3 X o v wr HLS.out.st)
                            go_wp2_with fail
                            refine HFl.out.mono ?_
                            rintro _ _ ⟨rfl, rfl⟩
                            have h1 := HLS.out.st.setE 3
                            have HSf := hidM h1.1
                            have HPf : Hid (Stp R v v w (wr.setCell ⟨R, 4, none⟩ (.int .i64 ((3 : Nat) : Int)))) := HLS.out.stp.trans h1.2.stp
                            clear h1 c4 HFl
                            generalize wr.setCell ⟨R, 4, none⟩ (.int .i64 ((3 : Nat) : Int)) = wf at *
                            have c4 : wf.cell? ⟨R, 4, none⟩ = some (.int .i64 3) := HSf.out.box.c4
                            go_wp2
                            (try simp only [Exit.inBlock, Exit.then])
                            go_ret2
                            exact .inl ⟨3, _,_,_, by decide, HDY.out, rfl, HSf.out, HPf.out⟩
                        · go_wp2_with fail
                          with_reducible refine (HCK2.out _).mono ?_
                          rintro _ w0 ⟨hp2, h0⟩
                          rw [h0]
                          clear h0 w0 HCK2
                          rcases HP2.out _ hp2 with ⟨hf2, rfl⟩ | ⟨hf2, rfl⟩
                          · as_aux_lemma =>
                              have HDY := hidM (HU3.out (fun h => hf2 h.2.2))
                              have HFl := hidM (rfail_any R g c T tr most 3 X o v wr HLS.out.st)
                              go_wp2_with fail
                              refine HFl.out.mono ?_
                              rintro _ _ ⟨rfl, rfl⟩
                              have h1 := HLS.out.st.setE 3
                              have HSf := hidM h1.1
                              have HPf : Hid (Stp R v v w (wr.setCell ⟨R, 4, none⟩ (.int .i64 ((3 : Nat) : Int)))) := HLS.out.stp.trans h1.2.stp
                              clear h1 c4 HFl
                              generalize wr.setCell ⟨R, 4, none⟩ (.int .i64 ((3 : Nat) : Int)) = wf at *
                              have c4 : wf.cell? ⟨R, 4, none⟩ = some (.int .i64 3) := HSf.out.box.c4
                              go_wp2
                              (try simp only [Exit.inBlock, Exit.then])
                              go_ret2
                              exact .inl ⟨3, _,_,_, by decide, HDY.out, rfl, HSf.out, HPf.out⟩
                          · as_aux_lemma =>
                              have HDY := hidM (HUG.out ⟨y0, hf1, hf2⟩)
                              have HFN : Hid (∀ q, DynX R g c T X t most v o w (.returned (.tuple #[.slice (some ⟨g5, 0, none⟩) nl uc, .slice (some ⟨g5, nl, none⟩) nd (uc - nl)])) (wr.drewN q)) := fun q => by
                                refine .inr ⟨cl, cd, tr, some ⟨g5, 0, none⟩, some ⟨g5, nl, none⟩, uc, uc - nl, HDY.out, HG1.out hf1, HG2.out hf2, ?_, ?_, ?_, HLS.out.st.drewN q, HLS.out.stp.trans ((Only.refl R wr).drewN q).stp, by omega, htrT⟩
                                · rw [HL1.out, HL2.out]
                                · rw [HL1.out]; exact HI1.out
                                · rw [HL2.out]; exact HI2.out
                              go_wp2
                              go_quiet (fail)
                              go_wp2
                              go_ret2
                              exact HFN.out _
                  · as_aux_lemma =>
                      have HDY : Hid (Dyn X t (.inl e)) := HBE.out e he hrun
                      obtain ⟨ua, uc, rfl, _⟩ := hls.own.shape
                      have HLS := hidM hls
                      have c4 := hls.st.box.c4
                      have e0 : ((e : Int) == 0) = false := by simp; omega
                      have e1 : ¬ (e : Int) = 0 := by omega
                      clear hrun hls
                      by_cases gj : (lr.length : Int) < (ns : Int)
                      · go_wp2
                        (try simp only [Exit.inBlock, Exit.then])
                        go_ret2
                        exact .inl ⟨e, _,_,_, he, HDY.out, rfl, HLS.out.st, HLS.out.stp⟩
                      · go_wp2
                        (try simp only [Exit.inBlock, Exit.then])
                        go_ret2
                        exact .inl ⟨e, _,_,_, he, HDY.out, rfl, HLS.out.st, HLS.out.stp⟩
          · as_aux_lemma =>
              have HDY : Hid (Dyn X t (.inl 6)) := .first6 V HNV.out HC.out (by rw [← HTT.out, HNC.out]; exact h6)
              have HS6 := hidM hs6
              have HP6 := hidM hp6
              have c4 : wr.cell? ⟨R, 4, none⟩ = some (.int .i64 6) := hs6.box.c4
              clear hs6 hp6
              by_cases gj : (j : Int) < (nc : Int)
              · go_wp2
                (try simp only [Exit.inBlock, Exit.then])
                go_ret2
                exact .inl ⟨6, _,_,_, by decide, HDY.out, rfl, HS6.out, HP6.out⟩
              · go_wp2
                (try simp only [Exit.inBlock, Exit.then])
                go_ret2
                exact .inl ⟨6, _,_,_, by decide, HDY.out, rfl, HS6.out, HP6.out⟩
end Go.Proofs.YtddoemeellbhaaaGreatDoor
