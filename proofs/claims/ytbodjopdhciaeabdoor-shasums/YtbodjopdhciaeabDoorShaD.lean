/-
  Walks of sha: what is begun of a block: take, full.
-/
import Derived.Test.YtbodjopdhciaeabDoorShaC
import Derived.Deep.RegionLaw
namespace Go.Proofs.YtbodjopdhciaeabDoor
open Go.RowKit

/-- Of all memory block b alone may have turned; no block is new. -/
structure Only (b : Nat) (w w' : World) : Prop where
  os : w'.os = w.os
  tape : w'.tape = w.tape
  output : w'.output = w.output
  size : w'.heap.size = w.heap.size
  block : ∀ k, k ≠ b → w'.heap[k]? = w.heap[k]?
theorem Only.refl (b : Nat) (w : World) : Only b w w := ⟨rfl, rfl, rfl, rfl, fun _ _ => rfl⟩
theorem Only.trans {b : Nat} {u v w : World} (h : Only b u v) (k : Only b v w) : Only b u w :=
  ⟨k.os.trans h.os, k.tape.trans h.tape, k.output.trans h.output, k.size.trans h.size, fun i hi => (k.block i hi).trans (h.block i hi)⟩
theorem Only.drewN {b : Nat} {w w' : World} (h : Only b w w') (n : Nat) : Only b w (w'.drewN n) := ⟨h.os, h.tape, h.output, h.size, h.block⟩
theorem Only.setCell {b : Nat} {w w' : World} (h : Only b w w') (o : Nat) (v : Value) : Only b w (w'.setCell ⟨b, o, none⟩ v) :=
  ⟨h.os, h.tape, h.output, by simpa using h.size, fun k hk => (Below.heap_setCell w' ⟨b, o, none⟩ v k hk).trans (h.block k hk)⟩
theorem Only.setRow {b : Nat} {w w' : World} (h : Only b w w') (c : Array Value) : Only b w (w'.setRow b c) :=
  ⟨h.os, h.tape, h.output, by simpa using h.size, fun k hk => (setRow_other w' b k c hk).trans (h.block k hk)⟩
theorem Only.below {b B : Nat} {w w' : World} (h : Only b w w') (hB : B ≤ b) : Below B w w' :=
  ⟨h.os, h.tape, h.output, by rw [h.size]; exact Nat.le_refl _, fun k hk => h.block k (by omega)⟩

/-- A sum's box: words, the begun block, how many bytes were written. -/
def HBox (w : World) (b t : Nat) (pre : List Value) (part : List UInt8) (n : Nat) : Prop :=
  w.heap[b]? = some (.cells (pre ++ (bytesV part ++ [Value.int .u64 (n : Int)])).toArray t (0, 0))
theorem HBox.cellN {w : World} {b t : Nat} {pre : List Value} {part : List UInt8} {n : Nat} (h : HBox w b t pre part n) (hp : part.length = 64) : w.cell? ⟨b, pre.length + 64, none⟩ = some (.int .u64 (n : Int)) := by
  rw [cell_of_row w b _ _ t (0, 0) h]
  simp only [List.getElem?_toArray]
  rw [List.getElem?_append_right (by omega), List.getElem?_append_right (by rw [bytesV_len]; omega), bytesV_len, hp, show pre.length + 64 - pre.length - 64 = 0 by omega]
  rfl
theorem HBox.frozenN {w : World} {b t : Nat} {pre : List Value} {part : List UInt8} {n : Nat} (h : HBox w b t pre part n) (j : Nat) : w.frozen? ⟨b, j, none⟩ = false := frozen_of_row w b j _ t h
theorem HBox.setN {w : World} {b t : Nat} {pre : List Value} {part : List UInt8} {n : Nat} (h : HBox w b t pre part n) (hp : part.length = 64) (m : Nat) : HBox (w.setCell ⟨b, pre.length + 64, none⟩ (.int .u64 (m : Int))) b t pre part m := by
  unfold HBox
  rw [heap_setCell_same w b _ _ t _ h]
  congr 2
  rw [List.setIfInBounds_toArray, List.set_append_right _ _ (by omega), List.set_append_right _ _ (by rw [bytesV_len]; omega), bytesV_len, hp, show pre.length + 64 - pre.length - 64 = 0 by omega]
  rfl
theorem HBox.same {w w' : World} {b t : Nat} {pre : List Value} {part : List UInt8} {n : Nat} (h : HBox w b t pre part n) (hh : w'.heap[b]? = w.heap[b]?) : HBox w' b t pre part n := by
  unfold HBox; rw [hh]; exact h

set_option maxHeartbeats 400000 in
theorem full_any (b t o : Nat) (pre : List Value) (part : List UInt8) (n : Nat) (w : World) (hp : part.length = 64) (ho : pre.length = o) (h : HBox w b t pre part n) :
    Calls Tryd.prog 39 #[.pointer (some ⟨b, o, none⟩)] w fun e w' => e = .returned (.bool (decide (n % 64 = 0))) ∧ w' = w := by
  have hc := h.cellN hp
  rw [ho] at hc
  go_enter Tryd.func39, Tryd.ntmps39
  go_wp2
  go_ret
  refine ⟨?_, rfl⟩
  by_cases h0 : n % 64 = 0
  · have : ((n : Int) % 64 == 0) = true := by simp; omega
    simp [this, h0]
  · have : ((n : Int) % 64 == 0) = false := by simp; omega
    simp [this, h0]

/-- 'copy(dst, s)' of a string into a row, as one step of a region that draws. -/
theorem run_copy_string {P : Program} (w : World) (dT sT ty elem : TypeId) (g o dLen dCap : Nat) (s : ByteArray) (cur : Array Value) (t : TypeId) (k : Nat)
    (hu : P.underlying dT = some (.slice elem)) (hs : (P.info? elem).map (·.size) = some 1)
    (hg : w.heap[g]? = some (.cells cur t (0, 0))) (hn : k = Nat.min s.size dLen) (hfit : o + k ≤ cur.size) :
    (Builtin.copy_ #[dT, sT] ty #[.slice (some ⟨g, o, none⟩) dLen dCap, .string s]).run P w =
      .ok (goInt k) (w.setRow g (cur.toList.take o ++ bytesV (s.data.toList.take k) ++ cur.toList.drop (o + k)).toArray) := by
  have hk : k ≤ s.size := by rw [hn]; exact Nat.min_le_left _ _
  have hlen : (bytesV (s.data.toList.take k)).length = k := by rw [bytesV_len, List.length_take]; simp; omega
  have hst := run_storeCells_at P g o t (bytesV (s.data.toList.take k)) 0 cur w hg (by rw [hlen]; simpa using hfit) (by
    intro v hv
    simp only [bytesV, List.mem_map] at hv
    obtain ⟨c, _, rfl⟩ := hv
    rfl)
  rw [hlen, Nat.add_zero] at hst
  have hcells : ((s.extract 0 k).data.map fun b => Value.int .u8 b.toNat).toList = bytesV (s.data.toList.take k) := by simp [bytesV]
  cases hq : P.info? elem with
  | none => simp [hq] at hs
  | some i =>
    have hi : i.size = 1 := by simpa [hq] using hs
    have hmin : s.size.min dLen = k := hn.symm
    have e5 : List.take k (List.map (fun b : UInt8 => Value.int .u8 (b.toNat : Int)) s.data.toList) = bytesV (s.data.toList.take k) := by simp [bytesV, List.map_take]
    simp only [List.append_assoc] at hst
    simp [Builtin.copy_, run_underlying hu, Builtin.lenOf, Builtin.firstCells, sizeOf, typeInfo, hq, hmin, e5, hst]
theorem step_copy_string {P : Program} {ops : Array Oper} {o : Oper} {a : Act} {w : World} {K : Act → World → Prop} {Q : Exit → Act → World → Prop} {E : Prop} (hgd : o.guard = none) (d x : Operand) (dT sT : TypeId)
    (ho : o.op = .call { callee := .builtin .copy, args := #[d, x], argTypes := #[dT, sT] }) (elem : TypeId) (hu : P.underlying dT = some (.slice elem)) (hsz : (P.info? elem).map (·.size) = some 1)
    (g off dLen dCap : Nat) (s : ByteArray) (hd : a.eval d = .slice (some ⟨g, off, none⟩) dLen dCap) (hs : a.eval x = .string s)
    (cur : Array Value) (t : TypeId) (hg : w.heap[g]? = some (.cells cur t (0, 0))) (k : Nat) (hn : k = Nat.min s.size dLen) (hfit : off + k ≤ cur.size)
    (h : K (a.put o.dst (goInt k)) (w.setRow g (cur.toList.take off ++ bytesV (s.data.toList.take k) ++ cur.toList.drop (off + k)).toArray)) :
    if Region.wanted o (yielded ops a.tmps) = true then Oper.wp P o a w K Q else E := by
  have hw : Region.wanted o (yielded ops a.tmps) = true := by simp [Region.wanted, hgd]
  rw [if_pos hw]
  have hrun := run_copy_string (P := P) w dT sT o.type elem g off dLen dCap s cur t k hu hsz hg hn hfit
  unfold Oper.wp
  simp only [execOp, ho, resolve, invoke, builtin, Sem.run_bind, Sem.run_pure, Result.andThen_ok, List.map_toArray, List.map_cons, List.map_nil, hd, hs, hrun]
  exact h

theorem size5 : (Tryd.prog.info? 5).map (·.size) = some 1 := by kernel_rfl
/-- The begun block behind a take. -/
def putB (part : List UInt8) (r : Nat) (l : List UInt8) : List UInt8 := part.take r ++ l ++ part.drop (r + l.length)
theorem putB_len (part : List UInt8) (r : Nat) (l : List UInt8) (h : r + l.length ≤ part.length) : (putB part r l).length = part.length := by
  unfold putB; simp; omega
theorem splice_box (pre : List Value) (part : List UInt8) (l : List UInt8) (x : Value) (r : Nat) (h : r + l.length ≤ part.length) :
    ((pre ++ (bytesV part ++ [x])).take (pre.length + r) ++ bytesV l ++ (pre ++ (bytesV part ++ [x])).drop (pre.length + r + l.length)) = pre ++ (bytesV (putB part r l) ++ [x]) := by
  have e1 : (pre ++ (bytesV part ++ [x])).take (pre.length + r) = pre ++ bytesV (part.take r) := by
    rw [List.take_length_add_append, List.take_append_of_le_length (by rw [bytesV_len]; omega)]
    simp [bytesV, List.map_take]
  have e2 : (pre ++ (bytesV part ++ [x])).drop (pre.length + r + l.length) = bytesV (part.drop (r + l.length)) ++ [x] := by
    rw [Nat.add_assoc, List.drop_length_add_append, List.drop_append_of_le_length (by rw [bytesV_len]; omega)]
    simp [bytesV, List.map_drop]
  rw [e1, e2]
  unfold putB
  simp [bytesV]

set_option maxHeartbeats 800000 in
theorem take_any (b t o : Nat) (pre : List Value) (part : List UInt8) (n : Nat) (s : ByteArray) (w : World) (hp : part.length = 64) (ho : pre.length = o) (hn : n ≤ 1099511627776) (h : HBox w b t pre part n) :
    Calls Tryd.prog 38 #[.pointer (some ⟨b, o, none⟩), .string s] w fun e w' => ∃ k : Nat, k = min s.size (64 - n % 64) ∧ e = .returned (.int .i64 (k : Int)) ∧ HBox w' b t pre (putB part (n % 64) (s.data.toList.take k)) (n + k) ∧ Only b w w' := by
  have hc := h.cellN hp
  rw [ho] at hc
  obtain ⟨r, hr⟩ : ∃ r, r = n % 64 := ⟨_, rfl⟩
  have r64 : r < 64 := by omega
  have hrr : (n : Int) % 64 = (r : Int) := by omega
  have hrt : (n : Int).tmod 64 = (r : Int) := by rw [Int.tmod_eq_emod_of_nonneg (by omega)]; exact hrr
  have hsl : ∀ v : World, (Instr.sliceAt 33 (.pointer (some ⟨b, o, none⟩)) (some (.int .u64 (r : Int))) none none).run Tryd.prog v = .ok (.slice (some ⟨b, o + r, none⟩) (64 - r) (64 - r)) v := by
    intro v
    have e1 : (0 : Int) ≤ (r : Int) := by omega
    have e2 : (r : Int) ≤ (64 : Nat) := by omega
    have e3 : ¬ (64 = r) := by omega
    have e4 : (Instr.sliceBound (.int .u64 (r : Int)) 64 .sliceB).run Tryd.prog v = .ok r v := by
      rw [run_sliceBound _ _ _ _ _ e1 e2]; simp
    simp only [Instr.sliceAt, Instr.sureAddr, run_underlying Tryd.underlying33, Instr.sliceBounds, Sem.run_bind, Sem.run_pure, Result.andThen_ok, Option.isSome_none]
    have e5 : (sizeOf 5).run Tryd.prog v = .ok 1 v := by
      have hz := size5
      cases hq : Tryd.prog.info? 5 with
      | none => simp [hq] at hz
      | some i =>
        have hi : i.size = 1 := by simpa [hq] using hz
        simp [sizeOf, typeInfo, hq, hi]
    simp only [Bool.false_eq_true, if_false, e4, e5, Result.andThen_ok, e3, Nat.mul_one]
    unfold Addr.add
    by_cases h0 : r = 0
    · subst h0; rfl
    · simp [h0]
  have HRR := hidM hr
  obtain ⟨k, hk⟩ : ∃ k, k = min s.size (64 - r) := ⟨_, rfl⟩
  have kk : r + k ≤ 64 := by omega
  have HK := hidM hk
  have hkl : (s.data.toList.take k).length = k := by rw [List.length_take]; simp; omega
  have h1 : HBox (w.drew.setRow b (pre ++ (bytesV (putB part r (s.data.toList.take k)) ++ [Value.int .u64 (n : Int)])).toArray) b t pre (putB part r (s.data.toList.take k)) n := setRow_heap _ _ _ _ t _ h
  have hpl : (putB part r (s.data.toList.take k)).length = 64 := by rw [putB_len _ _ _ (by rw [hkl]; omega), hp]
  have hcell : (pre ++ (bytesV part ++ [Value.int .u64 (n : Int)])).toArray.toList.take (o + r) ++ bytesV (s.data.toList.take k) ++ (pre ++ (bytesV part ++ [Value.int .u64 (n : Int)])).toArray.toList.drop (o + r + k) = pre ++ (bytesV (putB part r (s.data.toList.take k)) ++ [Value.int .u64 (n : Int)]) := by
    have := splice_box pre part (s.data.toList.take k) (Value.int .u64 (n : Int)) r (by rw [hkl]; omega)
    rw [hkl, ho] at this
    exact this
  have H := hidM h
  have HCL := hidM (congrArg List.toArray hcell)
  have HG := hidM (show w.drew.heap[b]? = _ from h)
  clear hcell
  have HO1 : Hid (Only b w (w.drew.setRow b (pre ++ (bytesV (putB part r (s.data.toList.take k)) ++ [Value.int .u64 (n : Int)])).toArray)) := ((Only.refl b w).drewN 1).setRow _
  have HSZ : Hid ((pre ++ (bytesV part ++ [Value.int .u64 (n : Int)])).toArray.size = o + 65) := by unfold Hid; simp [bytesV_len, hp, ho]
  have HC2 := hidM (h1.cellN hpl)
  have HF2 := hidM (h1.frozenN (o + 64))
  have HB2 := hidM (h1.setN hpl (n + k))
  rw [ho] at HC2 HB2
  generalize (pre ++ (bytesV (putB part r (s.data.toList.take k)) ++ [Value.int .u64 (n : Int)])).toArray = D at *
  generalize (pre ++ (bytesV part ++ [Value.int .u64 (n : Int)])).toArray = C at *
  clear hr hk hrr h hpl
  go_enter Tryd.func38, Tryd.ntmps38
  go_wp2
  go_region_law (refine step_copy_string rfl (.tmp 14) (.tmp 15) 57 9 rfl 5 Tryd.underlying57 size5 b (o + r) (64 - r) (64 - r) s (by rfl) (by rfl) C t HG.out k HK.out (by rw [HSZ.out]; omega) ?_; rw [HCL.out])
  all_goals
    clear hc
    have hc := HC2.out
    have hf := HF2.out
    go_wp2
    go_ret
    have ek := HRR.out
    refine ⟨k, by rw [← ek]; exact HK.out, rfl, ?_, HO1.out.setCell _ _⟩
    rw [← ek]
    have := HB2.out
    simpa using this
end Go.Proofs.YtbodjopdhciaeabDoor
