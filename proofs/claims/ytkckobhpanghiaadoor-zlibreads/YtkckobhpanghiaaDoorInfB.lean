/-
  Walks of inflate: the state of a stream, one byte comes out.
-/
import Derived.Test.YtkckobhpanghiaaDoorInfA
import Derived.Test.YtkckobhpanghiaaDoorBitY
import Derived.Maps.AppendAt
namespace Go.Proofs.YtkckobhpanghiaaDoor
open Go.RowKit

/-- a stream's state: reader at B, box at B + 1, what came out in a row behind them -/
structure StS (w : World) (B : Nat) (X : ByteArray) (t most : Nat) (last : Bool) (v : Value) (o : List UInt8) (p1 p2 p3 p4 : Value) : Prop where
  rd : RBox w B X t
  box : SBox w (B + 1) B v most last p1 p2 p3 p4
  own : OwnB w (B + 2) v o
/-- what a step leaves as it was: all below B; behind the box all that is no row of bytes -/
structure Kept (B : Nat) (w w' : World) : Prop where
  below : Below B w w'
  keep : ∀ k, B + 2 ≤ k → k < w.heap.size → (∀ cur fr, w.heap[k]? ≠ some (.cells cur 5 fr)) → w'.heap[k]? = w.heap[k]?
theorem Kept.refl (B : Nat) (w : World) : Kept B w w := ⟨Below.refl _ _, fun _ _ _ _ => rfl⟩
theorem Kept.trans {B : Nat} {w w' w'' : World} (h : Kept B w w') (k : Kept B w' w'') : Kept B w w'' :=
  ⟨h.below.trans k.below, fun i h1 h2 h3 => by
    have a := h.keep i h1 h2 h3
    exact (k.keep i h1 (Nat.lt_of_lt_of_le h2 h.below.size) (fun cur fr => by rw [a]; exact h3 cur fr)).trans a⟩
theorem Only2.kept {B : Nat} {w w' : World} (h : Only2 B (B + 1) w w') : Kept B w w' :=
  ⟨h.below (Nat.le_refl _) (by omega), fun k h1 _ _ => h.block k (by omega) (by omega)⟩
theorem Only.kept {B : Nat} {w w' : World} (h : Only B w w') : Kept B w w' := (h.two (b := B + 1)).kept
theorem kept_of_below {B : Nat} {w w' : World} (h : Below w.heap.size w w') (hB : B ≤ w.heap.size) : Kept B w w' := ⟨h.mono hB, fun k _ h2 _ => h.block k h2⟩
theorem OwnB.shape {w : World} {B : Nat} {v : Value} {l : List UInt8} (h : OwnB w B v l) : ∃ a c, v = .slice a l.length c := by
  rcases h.2 with ⟨hnil, hn⟩ | ⟨g, cap, cur, rfl, _⟩
  · exact ⟨none, 0, by rw [hnil, hn]⟩
  · exact ⟨_, _, rfl⟩
theorem own_slice {w : World} {B e s n : Nat} {v : Value} {xs : List Value} (h : w.ownsRow B e s v n xs) : ∃ a c, v = .slice a n c := by
  rcases h.2 with ⟨hnil, hn⟩ | ⟨g, cap, cur, rfl, _⟩
  · exact ⟨none, 0, by rw [hnil, hn]⟩
  · exact ⟨_, _, rfl⟩
theorem OwnB.same {w w' : World} {B : Nat} {v : Value} {l : List UInt8} (h : OwnB w B v l) (hh : ∀ g, v.ownBlock = some g → w'.heap[g]? = w.heap[g]?) : OwnB w' B v l := by
  refine ⟨h.1, ?_⟩
  rcases h.2 with h0 | ⟨g, cap, cur, hv, hg, hc, hr⟩
  · exact .inl h0
  · exact .inr ⟨g, cap, cur, hv, hg, by rw [hh g (by rw [hv]; rfl)]; exact hc, hr⟩
theorem OwnB.ge {w : World} {B : Nat} {v : Value} {l : List UInt8} (h : OwnB w B v l) {g : Nat} (hg : v.ownBlock = some g) : B ≤ g ∧ g < w.heap.size := World.ownsRow.lt h g hg
/-- a step that turns the reader alone -/
theorem StS.read {w w' : World} {B : Nat} {X : ByteArray} {t most : Nat} {last : Bool} {v : Value} {o : List UInt8} {p1 p2 p3 p4 : Value} (h : StS w B X t most last v o p1 p2 p3 p4) {t' : Nat} (hr : RBox w' B X t') (ho : Only B w w') : StS w' B X t' most last v o p1 p2 p3 p4 :=
  ⟨hr, h.box.same (ho.block (B + 1) (by omega)), h.own.same fun g hg => ho.block g (by have := (h.own.ge hg).1; omega)⟩
theorem StS.two {w w' : World} {B : Nat} {X : ByteArray} {t most : Nat} {last last' : Bool} {v : Value} {o : List UInt8} {p1 p2 p3 p4 q1 q2 q3 q4 : Value} (h : StS w B X t most last v o p1 p2 p3 p4) {t' : Nat} (hr : RBox w' B X t') (hb : SBox w' (B + 1) B v most last' q1 q2 q3 q4) (ho : Only2 B (B + 1) w w') : StS w' B X t' most last' v o q1 q2 q3 q4 :=
  ⟨hr, hb, h.own.same fun g hg => ho.block g (by have := (h.own.ge hg).1; omega) (by have := (h.own.ge hg).1; omega)⟩

/-- what put answers -/
def PutPost (B : Nat) (X : ByteArray) (t most : Nat) (last : Bool) (o l : List UInt8) (p1 p2 p3 p4 : Value) (w : World) (e : Ending) (w' : World) : Prop :=
  (most < o.length + l.length ∧ e = .returned (.int .i64 2) ∧ Below B w w') ∨
  (o.length + l.length ≤ most ∧ e = .returned (.int .i64 0) ∧ ∃ v', StS w' B X t most last v' (o ++ l) p1 p2 p3 p4 ∧ Kept B w w')
theorem info5_parts : ∃ i, Tryd.prog.info? 5 = some i ∧ i.zero = some (.int .u8 0) ∧ i.size = 1 ∧ i.bytes = 1 := info_parts Tryd.info5

/-- a row grew by an append: the box takes it -/
theorem StS.grow {w0 w w1 : World} {B : Nat} {X : ByteArray} {t most : Nat} {last : Bool} {v v' : Value} {o l : List UInt8} {p1 p2 p3 p4 : Value} (h : StS w0 B X t most last v o p1 p2 p3 p4) (hb : Below w0.heap.size w0 w) (hg : w.grownBy w1 v.ownBlock)
    (hown : w1.ownsRow (B + 2) 5 1 v' (o.length + l.length) (bytesV o ++ bytesV l)) :
    (w1.cell? ⟨B + 1, 1, none⟩ = some v ∧ w1.frozen? ⟨B + 1, 1, none⟩ = false) ∧ StS (w1.setCell ⟨B + 1, 1, none⟩ v') B X t most last v' (o ++ l) p1 p2 p3 p4 ∧ Kept B w0 (w1.setCell ⟨B + 1, 1, none⟩ v') := by
  have hlt := h.box.lt
  have hrt := h.rd.lt
  have hsz := hb.size
  have far : ∀ k, k < w0.heap.size → some k ≠ v.ownBlock → w1.heap[k]? = w0.heap[k]? := fun k h1 h2 => (hg.block k (by omega) h2).trans (hb.block k h1)
  have n1 : some (B + 1) ≠ v.ownBlock := fun e => by have := (h.own.ge e.symm).1; omega
  have n0 : some B ≠ v.ownBlock := fun e => by have := (h.own.ge e.symm).1; omega
  have b1 : SBox w1 (B + 1) B v most last p1 p2 p3 p4 := h.box.same (far _ hlt n1)
  have r1 : RBox w1 B X t := h.rd.same (far _ hrt n0)
  rw [← bytesV_app, ← List.length_append] at hown
  refine ⟨⟨b1.c1, b1.fz 1⟩, ⟨r1.same (Below.heap_setCell w1 ⟨B + 1, 1, none⟩ v' B (by show B ≠ B + 1; omega)), b1.set1 v', ownsRow_setCell_below hown (show B + 1 < B + 2 by omega) v'⟩, ?_, ?_⟩
  · refine ⟨?_, ?_, ?_, ?_, fun k hk => ?_⟩
    · exact hg.os.trans hb.os
    · exact hg.tape.trans hb.tape
    · exact hg.output.trans hb.output
    · have := hg.size; simp; omega
    · rw [Below.heap_setCell w1 ⟨B + 1, 1, none⟩ v' k (by show k ≠ B + 1; omega)]
      exact far k (by omega) (fun e => by have := (h.own.ge e.symm).1; omega)
  · intro k h1 h2 h3
    refine (Below.heap_setCell w1 ⟨B + 1, 1, none⟩ v' k (by show k ≠ B + 1; omega)).trans (far k h2 fun e => ?_)
    rcases h.own.2 with ⟨h0, _⟩ | ⟨g, cap, cur, hv, _, hc, _⟩
    · rw [h0] at e; simp [Value.ownBlock] at e
    · rw [hv] at e
      simp only [Value.ownBlock, Option.some.injEq] at e
      subst e
      exact h3 cur (0, 0) hc

set_option maxHeartbeats 1000000 in
set_option maxRecDepth 100000 in
theorem put_any (B : Nat) (X : ByteArray) (t most : Nat) (last : Bool) (v : Value) (o : List UInt8) (c : UInt8) (p1 p2 p3 p4 : Value) (w : World) (hS : StS w B X t most last v o p1 p2 p3 p4) (hm : most ≤ 65536) (hl : o.length ≤ most) :
    Calls Tryd.prog 51 #[.pointer (some ⟨B + 1, 0, none⟩), .int .u8 (c.toNat : Int)] w fun e w' => PutPost B X t most last o [c] p1 p2 p3 p4 w e w' := by
  obtain ⟨a, cp, rfl⟩ := hS.own.shape
  have HS := hidM hS
  have c1 := hS.box.c1
  have hB1 := hS.box.lt
  have HR := hidM (room_any (B + 1) B most a o.length cp p1 p2 p3 p4 last w hS.box hm hl)
  obtain ⟨i0, hi, hz0, hz1, hz2⟩ := info5_parts
  clear hS
  go_enter Tryd.func51, Tryd.ntmps51
  go_wp2_with fail
  refine HR.out.mono ?_
  rintro _ w1 ⟨rfl, m, rfl⟩
  have HS1 : Hid (StS (w.drewN m) B X t most last (.slice a o.length cp) o p1 p2 p3 p4) := ⟨HS.out.rd, HS.out.box, HS.out.own⟩
  have c1' := HS1.out.box.c1
  have HBW : Hid (Below w.heap.size w (w.drewN m)) := ⟨rfl, rfl, rfl, Nat.le_refl _, fun _ _ => rfl⟩
  have HSZ : Hid ((w.drewN m).heap.size = w.heap.size) := rfl
  generalize w.drewN m = w1 at *
  have hB2 : B + 1 < w1.heap.size := HS1.out.box.lt
  by_cases h0 : most - o.length = 0
  · have e0 : ((most - o.length : Nat) : Int) = 0 := by omega
    rw [e0]
    go_wp2
    go_ret
    exact .inl ⟨by simp; omega, rfl, HBW.out.mono (by omega)⟩
  · obtain ⟨d, hd⟩ : ∃ d, d = most - o.length := ⟨_, rfl⟩
    rw [← hd]
    have e0 : ((d : Int) == 0) = false := by simp; omega
    clear hd c1
    go_wp2_with (first
      | (at_builtin; go_loud (refine wpList_append_own_at _ rfl _ _ 34 rfl (B + 2) 5 i0 (.int .u8 0) 1 1 Tryd.underlying34 hi hz0 hz1 hz2 rfl (by decide) (.slice a o.length cp) o.length (bytesV o) rfl (World.ownsRow.alloc HS1.out.own _) ⟨w1.heap.size, 0, none⟩ 1 1 [.int .u8 (c.toNat : Int)] ?f0 rfl ?f1 ?f2 ?f3 ?f4 ?f5 ?_)))
    try (case f0 => rfl)
    case f1 => exact World.news_of_block (heap_alloc_new _ _)
    case f2 => first | rfl | (intro u hu; simp at hu; subst hu; rfl)
    case f3 => first | (unfold maxLen; omega) | (simp [maxLen]; omega)
    case f4 => first | omega | (simp; omega)
    case f5 => first | omega | (simp; omega)
    intro v' w6 hown hgrow _ hloc
    obtain ⟨a2, c2, rfl⟩ := own_slice hown
    obtain ⟨⟨k0, k1⟩, hst, hkp⟩ := HS1.out.grow (l := [c]) ((Below.refl _ w1).alloc (Nat.le_refl _) _) hgrow hown
    have HST := hidM hst
    have HKP := hidM hkp
    clear hown hgrow hloc hst hkp
    go_wp2
    go_ret
    exact .inr ⟨by simp; omega, rfl, _, HST.out, (kept_of_below HBW.out (by omega)).trans HKP.out⟩
end Go.Proofs.YtkckobhpanghiaaDoor
