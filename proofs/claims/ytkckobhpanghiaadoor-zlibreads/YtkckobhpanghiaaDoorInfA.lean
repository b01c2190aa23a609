/-
  Walks of inflate: the stream's box, bits, room, the head of a block.
-/
import Derived.Test.YtkckobhpanghiaaDoorBitZ
import Derived.Test.YtkckobhpanghiaaDoorInfP
import Derived.Deep.QuietTactic
import Derived.BigQuiet
namespace Go.Proofs.YtkckobhpanghiaaDoor
open Go.RowKit

/-- a stream that is being read: its reader, what came out, the limit, is the block the last one, the sets -/
def SBox (w : World) (db rb : Nat) (v : Value) (most : Nat) (last : Bool) (p1 p2 p3 p4 : Value) : Prop :=
  w.heap[db]? = some (.cells #[.pointer (some ⟨rb, 0, none⟩), v, .int .i64 (most : Int), .bool last, p1, p2, p3, p4] 52 (0, 0))
section
variable {w w' : World} {db rb most : Nat} {v p1 p2 p3 p4 : Value} {last : Bool}
theorem SBox.c0 (h : SBox w db rb v most last p1 p2 p3 p4) : w.cell? ⟨db, 0, none⟩ = some (.pointer (some ⟨rb, 0, none⟩)) := by rw [cell_of_row w db _ _ 52 (0, 0) h]; rfl
theorem SBox.c1 (h : SBox w db rb v most last p1 p2 p3 p4) : w.cell? ⟨db, 1, none⟩ = some v := by rw [cell_of_row w db _ _ 52 (0, 0) h]; rfl
theorem SBox.c2 (h : SBox w db rb v most last p1 p2 p3 p4) : w.cell? ⟨db, 2, none⟩ = some (.int .i64 (most : Int)) := by rw [cell_of_row w db _ _ 52 (0, 0) h]; rfl
theorem SBox.c3 (h : SBox w db rb v most last p1 p2 p3 p4) : w.cell? ⟨db, 3, none⟩ = some (.bool last) := by rw [cell_of_row w db _ _ 52 (0, 0) h]; rfl
theorem SBox.c4 (h : SBox w db rb v most last p1 p2 p3 p4) : w.cell? ⟨db, 4, none⟩ = some p1 := by rw [cell_of_row w db _ _ 52 (0, 0) h]; rfl
theorem SBox.c5 (h : SBox w db rb v most last p1 p2 p3 p4) : w.cell? ⟨db, 5, none⟩ = some p2 := by rw [cell_of_row w db _ _ 52 (0, 0) h]; rfl
theorem SBox.c6 (h : SBox w db rb v most last p1 p2 p3 p4) : w.cell? ⟨db, 6, none⟩ = some p3 := by rw [cell_of_row w db _ _ 52 (0, 0) h]; rfl
theorem SBox.c7 (h : SBox w db rb v most last p1 p2 p3 p4) : w.cell? ⟨db, 7, none⟩ = some p4 := by rw [cell_of_row w db _ _ 52 (0, 0) h]; rfl
theorem SBox.fz (h : SBox w db rb v most last p1 p2 p3 p4) (j : Nat) : w.frozen? ⟨db, j, none⟩ = false := frozen_of_row w db j _ 52 h
theorem SBox.lt (h : SBox w db rb v most last p1 p2 p3 p4) : db < w.heap.size := (Array.getElem?_eq_some_iff.1 h).1
theorem SBox.same (h : SBox w db rb v most last p1 p2 p3 p4) (hh : w'.heap[db]? = w.heap[db]?) : SBox w' db rb v most last p1 p2 p3 p4 := hh.trans h
theorem SBox.set1 (h : SBox w db rb v most last p1 p2 p3 p4) (u : Value) : SBox (w.setCell ⟨db, 1, none⟩ u) db rb u most last p1 p2 p3 p4 := by unfold SBox; rw [heap_setCell_same w db _ _ 52 _ h]; rfl
theorem SBox.set3 (h : SBox w db rb v most last p1 p2 p3 p4) (b : Bool) : SBox (w.setCell ⟨db, 3, none⟩ (.bool b)) db rb v most b p1 p2 p3 p4 := by unfold SBox; rw [heap_setCell_same w db _ _ 52 _ h]; rfl
theorem SBox.set4 (h : SBox w db rb v most last p1 p2 p3 p4) (u : Value) : SBox (w.setCell ⟨db, 4, none⟩ u) db rb v most last u p2 p3 p4 := by unfold SBox; rw [heap_setCell_same w db _ _ 52 _ h]; rfl
theorem SBox.set5 (h : SBox w db rb v most last p1 p2 p3 p4) (u : Value) : SBox (w.setCell ⟨db, 5, none⟩ u) db rb v most last p1 u p3 p4 := by unfold SBox; rw [heap_setCell_same w db _ _ 52 _ h]; rfl
end

/-- what bits answers -/
def BitsPost (X : ByteArray) (t n rb : Nat) (e : Ending) (w' : World) : Prop :=
  (∃ x, num X.data.toList t n = some x ∧ x < 2 ^ n ∧ e = .returned (.tuple #[.int .i64 (x : Int), .int .i64 0]) ∧ RBox w' rb X (t + n)) ∨
  (num X.data.toList t n = none ∧ e = .returned (.tuple #[.int .i64 0, .int .i64 6]) ∧ RBox w' rb X t)
theorem total_size (X : ByteArray) : total X.data.toList = 8 * X.size := by show 8 * X.data.toList.length = 8 * X.data.size; rw [Array.length_toList]
theorem num_yes {X : ByteArray} {t n l : Nat} (hl : t + l = 8 * X.size) (h : n ≤ l) : num X.data.toList t n = some (bitsN X.data.toList t n) := by
  unfold num; rw [total_size, if_pos (by omega)]
theorem num_no {X : ByteArray} {t n l : Nat} (hl : t + l = 8 * X.size) (h : l < n) : num X.data.toList t n = none := by
  unfold num; rw [total_size, if_neg (by omega)]
set_option maxHeartbeats 1000000 in
set_option maxRecDepth 100000 in
theorem sbits_any (db rb : Nat) (X : ByteArray) (t l n : Nat) (w : World) (hS : w.cell? ⟨db, 0, none⟩ = some (.pointer (some ⟨rb, 0, none⟩))) (hr : RBox w rb X t) (hX : X.size ≤ 100000000000) (hl : t + l = 8 * X.size) (hn : n ≤ 32) :
    Calls Tryd.prog 74 #[.pointer (some ⟨db, 0, none⟩), .int .i64 n] w fun e w' => BitsPost X t n rb e w' ∧ Only rb w w' := by
  have HR := hidM hr
  have HL := hidM hl
  clear hr hl
  go_enter Tryd.func74, Tryd.ntmps74
  by_cases hk : n ≤ l
  · have HN := hidM (num_yes HL.out hk)
    have HLT := hidM (bitsN_lt X.data.toList t n)
    have hlt : bitsN X.data.toList t n < 4294967296 := Nat.lt_of_lt_of_le HLT.out (by have : 2 ^ n ≤ 2 ^ 32 := Nat.pow_le_pow_right (by decide) hn; omega)
    have HB := hidM (bits_yes rb X t l n w HR.out hX HL.out hn hk)
    generalize bitsN X.data.toList t n = x at *
    go_wp2_with fail
    refine HB.out.mono ?_
    rintro e w1 ⟨rfl, m, rfl⟩
    have HRX := hidM (HR.out.put m n)
    have HOX : Hid (Only rb w ((w.drewN m).setCell ⟨rb, 1, none⟩ (.int .i64 ((t + n : Nat) : Int)))) := ((Only.refl rb w).drewN m).setCell _ _
    generalize (w.drewN m).setCell ⟨rb, 1, none⟩ (.int .i64 ((t + n : Nat) : Int)) = w1 at *
    go_wp2
    go_ret2
    exact ⟨.inl ⟨x, HN.out, HLT.out, rfl, HRX.out⟩, HOX.out⟩
  · have HN := hidM (num_no HL.out (Nat.lt_of_not_le hk))
    have HB := hidM (bits_no rb X t l n w HR.out hX HL.out hn (Nat.lt_of_not_le hk))
    go_wp2_with fail
    refine HB.out.mono ?_
    rintro e w1 ⟨rfl, m, rfl⟩
    go_wp2
    go_ret2
    exact ⟨.inr ⟨HN.out, rfl, HR.out.drewN m⟩, (Only.refl rb w).drewN m⟩

theorem and_one (x : Nat) : bits .and .i64 (x : Int) 1 = ((x % 2 : Nat) : Int) ∨ ¬ x < 8 := by
  by_cases h : x < 8
  · left
    have : ∀ y : Fin 8, bits .and .i64 ((y.val : Nat) : Int) 1 = ((y.val % 2 : Nat) : Int) := by decide +kernel
    exact this ⟨x, h⟩
  · exact .inr h
/-- what readHead answers -/
def HeadPost (X : ByteArray) (t rb db : Nat) (v : Value) (most : Nat) (p1 p2 p3 p4 : Value) (e : Ending) (w' : World) : Prop :=
  (∃ x, num X.data.toList t 3 = some x ∧ x < 8 ∧ e = .returned (.tuple #[.int .i64 ((x / 2 : Nat) : Int), .int .i64 0]) ∧ RBox w' rb X (t + 3) ∧ SBox w' db rb v most (x % 2 == 1) p1 p2 p3 p4) ∨
  (num X.data.toList t 3 = none ∧ e = .returned (.tuple #[.int .i64 0, .int .i64 6]))
/-- of all memory blocks a and b alone may have turned; no block is new -/
structure Only2 (a b : Nat) (w w' : World) : Prop where
  os : w'.os = w.os
  tape : w'.tape = w.tape
  output : w'.output = w.output
  size : w'.heap.size = w.heap.size
  block : ∀ k, k ≠ a → k ≠ b → w'.heap[k]? = w.heap[k]?
theorem Only2.below {a b B : Nat} {w w' : World} (h : Only2 a b w w') (ha : B ≤ a) (hb : B ≤ b) : Below B w w' :=
  ⟨h.os, h.tape, h.output, by rw [h.size]; exact Nat.le_refl _, fun k hk => h.block k (by omega) (by omega)⟩
theorem Only.two {a b : Nat} {w w' : World} (h : Only a w w') : Only2 a b w w' := ⟨h.os, h.tape, h.output, h.size, fun k ha _ => h.block k ha⟩
theorem Only2.set {a b o : Nat} {w w' : World} (h : Only2 a b w w') (u : Value) : Only2 a b w (w'.setCell ⟨b, o, none⟩ u) :=
  ⟨h.os, h.tape, h.output, by simpa using h.size, fun k ha hb => (Below.heap_setCell w' ⟨b, o, none⟩ u k hb).trans (h.block k ha hb)⟩
set_option maxHeartbeats 1000000 in
set_option maxRecDepth 100000 in
theorem readHead_any (db rb : Nat) (X : ByteArray) (t l most : Nat) (v p1 p2 p3 p4 : Value) (last : Bool) (w : World) (hne : rb ≠ db) (hS : SBox w db rb v most last p1 p2 p3 p4) (hr : RBox w rb X t) (hX : X.size ≤ 100000000000) (hl : t + l = 8 * X.size) :
    Calls Tryd.prog 46 #[.pointer (some ⟨db, 0, none⟩)] w fun e w' => HeadPost X t rb db v most p1 p2 p3 p4 e w' ∧ Only2 rb db w w' := by
  have HS := hidM hS
  have HB := hidM (sbits_any db rb X t l 3 w hS.c0 hr hX hl (by decide))
  clear hS hr hl
  go_enter Tryd.func46, Tryd.ntmps46
  go_wp2_with fail
  refine HB.out.mono ?_
  rintro _ w1 ⟨hp, ho⟩
  have HS1 : Hid (SBox w1 db rb v most last p1 p2 p3 p4) := HS.out.same (ho.block db (fun e => hne e.symm))
  have HO := hidM ho
  have c3 := HS1.out.c3
  have f3 := HS1.out.fz 3
  clear ho
  rcases hp with ⟨x, hx, hlt, rfl, hrx⟩ | ⟨hx, rfl, hrx⟩
  · have HX := hidM hx
    have HRX := hidM hrx
    have hlt8 : x < 8 := hlt
    have e1 : bits .and .i64 (x : Int) 1 = ((x % 2 : Nat) : Int) := (and_one x).resolve_right (fun h => h hlt8)
    clear hx hrx hlt
    obtain ⟨y, hy⟩ : ∃ y, y = x % 2 := ⟨_, rfl⟩
    obtain ⟨z, hz⟩ : ∃ z, z = x / 2 := ⟨_, rfl⟩
    have e2 : (x : Int) / 2 = (z : Int) := by omega
    have y2 : y < 2 := by omega
    have HBL : Hid ((x % 2 == 1) = decide ((y : Int) = 1)) := by
      unfold Hid; rw [← hy]
      by_cases h : y = 1
      · subst h; rfl
      · have : y = 0 := by omega
        subst this; rfl
    have HZ : Hid (((x / 2 : Nat) : Int) = (z : Int)) := by unfold Hid; rw [hz]
    rw [← hy] at e1
    clear hy hz
    go_wp2
    go_ret2
    refine ⟨.inl ⟨x, HX.out, hlt8, ?_, (HRX.out.same (Below.heap_setCell w1 ⟨db, 3, none⟩ _ rb hne)), ?_⟩, HO.out.two.set _⟩
    · rw [HZ.out]; rfl
    · rw [HBL.out]
      exact HS1.out.set3 _
  · have HX := hidM hx
    clear hx hrx
    go_wp2
    go_ret2
    exact ⟨.inr ⟨HX.out, rfl⟩, HO.out.two.set _⟩

set_option maxRecDepth 100000 in
theorem room_any (db rb : Nat) (most : Nat) (a : Option Addr) (n cap : Nat) (p1 p2 p3 p4 : Value) (last : Bool) (w : World) (hS : SBox w db rb (.slice a n cap) most last p1 p2 p3 p4) (hm : most ≤ 65536) (hn : n ≤ most) :
    Calls Tryd.prog 78 #[.pointer (some ⟨db, 0, none⟩)] w fun e w' => e = .returned (.int .i64 ((most - n : Nat) : Int)) ∧ ∃ m, w' = w.drewN m := by
  have c1 := hS.c1
  have c2 := hS.c2
  obtain ⟨d, hd⟩ : ∃ d, d = most - n := ⟨_, rfl⟩
  have e1 : (most : Int) - (n : Int) = (d : Int) := by omega
  rw [← hd]
  clear hd
  go_enter Tryd.func78, Tryd.ntmps78
  go_wp2
  go_quiet (fail)
  go_wp2
  go_ret
  exact ⟨rfl, _, rfl⟩
end Go.Proofs.YtkckobhpanghiaaDoor
