/-
  Taken over from another program: ShaY.
-/
import Derived.Test.YtlmeoahcpmikiaaGreatDoorShaX
import Derived.Laws.BitsAllLaws
import Derived.WalkKit
import Derived.WalkSpells
import Derived.WalkLawsBesides
import Derived.Laws.IdiomStrings
import Derived.Deep.QuietTactic
import Derived.BigQuiet
import Derived.Deep.RegionHeld3
import Derived.Deep.MidRow
import Derived.Deep.RegionLaw
import Derived.Laws.MakeOwn
import Derived.Deep.RegionWith
namespace Go.Proofs.YtlmeoahcpmikiaaGreatDoor
open Go.RowKit
def wordB (x : Nat) : List UInt8 := [UInt8.ofNat (x / 16777216 % 256), UInt8.ofNat (x / 65536 % 256), UInt8.ofNat (x / 256 % 256), UInt8.ofNat (x % 256)]
theorem wordB_len (x : Nat) : (wordB x).length = 4 := rfl
def wordsB (l : List Nat) : List UInt8 := l.flatMap wordB
theorem wordsB_snoc (l : List Nat) (x : Nat) : wordsB (l ++ [x]) = wordsB l ++ wordB x := by simp [wordsB]
theorem wordsB_len (l : List Nat) : (wordsB l).length = 4 * l.length := by
  induction l with
  | nil => rfl
  | cons x l ih => show (wordB x ++ wordsB l).length = _; rw [List.length_append, ih, wordB_len]; simp; omega
theorem conv_row {w : World} {b off cap : Nat} {l : List UInt8} (h : w.rangeAt b off (bytesVO l)) :
    (convert 74 9 (.slice (some ⟨b, off, none⟩) l.length cap)).run Tryz.prog w = .ok (.string ⟨l.toArray⟩) w := by
  refine run_convert_bytes_back w 74 9 5 _ cap l Tryz.underlying74 Tryz.underlying5 Tryz.underlying9 ?_
  intro j hj
  rw [Addr.add_lit]
  exact h j _ (bytesV_atO l j hj)
theorem word_cells (x : Nat) (hx : x < 4294967296) : [Value.int .u8 ((x : Int) / 16777216), .int .u8 ((x : Int) / 65536 % 256), .int .u8 ((x : Int) / 256 % 256), .int .u8 ((x : Int) % 256)] = bytesVO (wordB x) := by
  unfold bytesVO wordB
  simp only [List.map_cons, List.map_nil]
  rw [val_intO (show (x : Int) / 16777216 = ((UInt8.ofNat (x / 16777216 % 256)).toNat : Int) by simp; omega),
    val_intO (show (x : Int) / 65536 % 256 = ((UInt8.ofNat (x / 65536 % 256)).toNat : Int) by simp),
    val_intO (show (x : Int) / 256 % 256 = ((UInt8.ofNat (x / 256 % 256)).toNat : Int) by simp),
    val_intO (show (x : Int) % 256 = ((UInt8.ofNat (x % 256)).toNat : Int) by simp)]
theorem range_new (w : World) (cs : List Value) (t : TypeId) : (w.alloc (.cells cs.toArray t)).rangeAt w.heap.size 0 cs := by
  intro j v hv
  rw [cell_of_row _ w.heap.size (0 + j) cs.toArray t (0, 0) (heap_alloc_new w _)]
  simpa using hv
set_option maxHeartbeats 400000 in
set_option maxRecDepth 100000 in
theorem wordText_any (x : Nat) (w : World) (hx : x < 4294967296) :
    Calls Tryz.prog 195 #[.int .u32 x] w fun e w' => e = .returned (.string ⟨(wordB x).toArray⟩) ∧ Below w.heap.size w w' := by
  have hcv := conv_row (cap := 4) (l := wordB x) (range_new w (bytesVO (wordB x)) 5)
  rw [wordB_len, ← word_cells x hx] at hcv
  go_enter Tryz.func195, Tryz.ntmps195
  go_wp2
  go_ret
  exact ⟨rfl, (Below.refl _ _).alloc (Nat.le_refl _) _⟩
theorem add32_lt (a b : Nat) : add32 a b < 4294967296 := Nat.mod_lt _ (by decide)
/-- Of all memory block b alone may have turned; no block is new. -/
structure OnlyO (b : Nat) (w w' : World) : Prop where
  os : w'.os = w.os
  tape : w'.tape = w.tape
  output : w'.output = w.output
  size : w'.heap.size = w.heap.size
  block : ∀ k, k ≠ b → w'.heap[k]? = w.heap[k]?
theorem OnlyO.refl (b : Nat) (w : World) : OnlyO b w w := ⟨rfl, rfl, rfl, rfl, fun _ _ => rfl⟩
theorem OnlyO.trans {b : Nat} {u v w : World} (h : OnlyO b u v) (k : OnlyO b v w) : OnlyO b u w :=
  ⟨k.os.trans h.os, k.tape.trans h.tape, k.output.trans h.output, k.size.trans h.size, fun i hi => (k.block i hi).trans (h.block i hi)⟩
theorem OnlyO.drewN {b : Nat} {w w' : World} (h : OnlyO b w w') (n : Nat) : OnlyO b w (w'.drewN n) := ⟨h.os, h.tape, h.output, h.size, h.block⟩
theorem OnlyO.setCell {b : Nat} {w w' : World} (h : OnlyO b w w') (o : Nat) (v : Value) : OnlyO b w (w'.setCell ⟨b, o, none⟩ v) :=
  ⟨h.os, h.tape, h.output, by simpa using h.size, fun k hk => (Below.heap_setCell w' ⟨b, o, none⟩ v k hk).trans (h.block k hk)⟩
theorem OnlyO.setRow {b : Nat} {w w' : World} (h : OnlyO b w w') (c : Array Value) : OnlyO b w (w'.setRow b c) :=
  ⟨h.os, h.tape, h.output, by simpa using h.size, fun k hk => (setRow_other w' b k c hk).trans (h.block k hk)⟩
theorem OnlyO.below {b B : Nat} {w w' : World} (h : OnlyO b w w') (hB : B ≤ b) : Below B w w' :=
  ⟨h.os, h.tape, h.output, by rw [h.size]; exact Nat.le_refl _, fun k hk => h.block k (by omega)⟩
/-- A sum's box: words, the begun block, how many bytes were written. -/
def HBox (w : World) (b t : Nat) (pre : List Value) (part : List UInt8) (n : Nat) : Prop :=
  w.heap[b]? = some (.cells (pre ++ (bytesVO part ++ [Value.int .u64 (n : Int)])).toArray t (0, 0))
theorem HBox.cellN {w : World} {b t : Nat} {pre : List Value} {part : List UInt8} {n : Nat} (h : HBox w b t pre part n) (hp : part.length = 64) : w.cell? ⟨b, pre.length + 64, none⟩ = some (.int .u64 (n : Int)) := by
  rw [cell_of_row w b _ _ t (0, 0) h]
  simp only [List.getElem?_toArray]
  rw [List.getElem?_append_right (by omega), List.getElem?_append_right (by rw [bytesV_lenO]; omega), bytesV_lenO, hp, show pre.length + 64 - pre.length - 64 = 0 by omega]
  rfl
theorem HBox.frozenN {w : World} {b t : Nat} {pre : List Value} {part : List UInt8} {n : Nat} (h : HBox w b t pre part n) (j : Nat) : w.frozen? ⟨b, j, none⟩ = false := frozen_of_row w b j _ t h
theorem HBox.setN {w : World} {b t : Nat} {pre : List Value} {part : List UInt8} {n : Nat} (h : HBox w b t pre part n) (hp : part.length = 64) (m : Nat) : HBox (w.setCell ⟨b, pre.length + 64, none⟩ (.int .u64 (m : Int))) b t pre part m := by
  unfold HBox
  rw [heap_setCell_same w b _ _ t _ h]
  congr 2
  rw [List.setIfInBounds_toArray, List.set_append_right _ _ (by omega), List.set_append_right _ _ (by rw [bytesV_lenO]; omega), bytesV_lenO, hp, show pre.length + 64 - pre.length - 64 = 0 by omega]
  rfl
theorem HBox.same {w w' : World} {b t : Nat} {pre : List Value} {part : List UInt8} {n : Nat} (h : HBox w b t pre part n) (hh : w'.heap[b]? = w.heap[b]?) : HBox w' b t pre part n := by
  unfold HBox; rw [hh]; exact h
set_option maxHeartbeats 400000 in
set_option maxRecDepth 100000 in
theorem full_any (b t o : Nat) (pre : List Value) (part : List UInt8) (n : Nat) (w : World) (hp : part.length = 64) (ho : pre.length = o) (h : HBox w b t pre part n) :
    Calls Tryz.prog 143 #[.pointer (some ⟨b, o, none⟩)] w fun e w' => e = .returned (.bool (decide (n % 64 = 0))) ∧ w' = w := by
  have hc := h.cellN hp
  rw [ho] at hc
  go_enter Tryz.func143, Tryz.ntmps143
  go_wp2
  go_ret
  refine ⟨?_, rfl⟩
  by_cases h0 : n % 64 = 0
  · have : ((n : Int) % 64 == 0) = true := by simp; omega
    simp [this, h0]
  · have : ((n : Int) % 64 == 0) = false := by simp; omega
    simp [this, h0]
/-- 'copy(dst, s)' of a string into a row, as one step of a region that draws. -/
theorem run_copy_string {P : Program} (w : World) (dT sT ty elem : TypeId) (g o dLen dCap : Nat) (s : ByteArray) (cur : Array Value) (t : TypeId) (k : Nat)
    (hu : P.underlying dT = some (.slice elem)) (hs : (P.info? elem).map (·.size) = some 1)
    (hg : w.heap[g]? = some (.cells cur t (0, 0))) (hn : k = Nat.min s.size dLen) (hfit : o + k ≤ cur.size) :
    (Builtin.copy_ #[dT, sT] ty #[.slice (some ⟨g, o, none⟩) dLen dCap, .string s]).run P w =
      .ok (goInt k) (w.setRow g (cur.toList.take o ++ bytesVO (s.data.toList.take k) ++ cur.toList.drop (o + k)).toArray) := by
  have hk : k ≤ s.size := by rw [hn]; exact Nat.min_le_left _ _
  have hlen : (bytesVO (s.data.toList.take k)).length = k := by rw [bytesV_lenO, List.length_take]; simp; omega
  have hst := run_storeCells_at P g o t (bytesVO (s.data.toList.take k)) 0 cur w hg (by rw [hlen]; simpa using hfit) (by
    intro v hv
    simp only [bytesVO, List.mem_map] at hv
    obtain ⟨c, _, rfl⟩ := hv
    rfl)
  rw [hlen, Nat.add_zero] at hst
  have hcells : ((s.extract 0 k).data.map fun b => Value.int .u8 b.toNat).toList = bytesVO (s.data.toList.take k) := by simp [bytesVO]
  cases hq : P.info? elem with
  | none => simp [hq] at hs
  | some i =>
    have hi : i.size = 1 := by simpa [hq] using hs
    have hmin : s.size.min dLen = k := hn.symm
    have e5 : List.take k (List.map (fun b : UInt8 => Value.int .u8 (b.toNat : Int)) s.data.toList) = bytesVO (s.data.toList.take k) := by simp [bytesVO, List.map_take]
    simp only [List.append_assoc] at hst
    simp [Builtin.copy_, run_underlying hu, Builtin.lenOf, Builtin.firstCells, sizeOf, typeInfo, hq, hmin, e5, hst]
theorem step_copy_string {P : Program} {ops : Array Oper} {o : Oper} {a : Act} {w : World} {K : Act → World → Prop} {Q : Exit → Act → World → Prop} {E : Prop} (hgd : o.guard = none) (d x : Operand) (dT sT : TypeId)
    (ho : o.op = .call { callee := .builtin .copy, args := #[d, x], argTypes := #[dT, sT] }) (elem : TypeId) (hu : P.underlying dT = some (.slice elem)) (hsz : (P.info? elem).map (·.size) = some 1)
    (g off dLen dCap : Nat) (s : ByteArray) (hd : a.eval d = .slice (some ⟨g, off, none⟩) dLen dCap) (hs : a.eval x = .string s)
    (cur : Array Value) (t : TypeId) (hg : w.heap[g]? = some (.cells cur t (0, 0))) (k : Nat) (hn : k = Nat.min s.size dLen) (hfit : off + k ≤ cur.size)
    (h : K (a.put o.dst (goInt k)) (w.setRow g (cur.toList.take off ++ bytesVO (s.data.toList.take k) ++ cur.toList.drop (off + k)).toArray)) :
    if Region.wanted o (yielded ops a.tmps) = true then Oper.wp P o a w K Q else E := by
  have hw : Region.wanted o (yielded ops a.tmps) = true := by simp [Region.wanted, hgd]
  rw [if_pos hw]
  have hrun := run_copy_string (P := P) w dT sT o.type elem g off dLen dCap s cur t k hu hsz hg hn hfit
  unfold Oper.wp
  simp only [execOp, ho, resolve, invoke, builtin, Sem.run_bind, Sem.run_pure, Result.andThen_ok, List.map_toArray, List.map_cons, List.map_nil, hd, hs, hrun]
  exact h
theorem size5 : (Tryz.prog.info? 5).map (·.size) = some 1 := by kernel_rfl
/-- The begun block behind a take. -/
def putB (part : List UInt8) (r : Nat) (l : List UInt8) : List UInt8 := part.take r ++ l ++ part.drop (r + l.length)
theorem putB_len (part : List UInt8) (r : Nat) (l : List UInt8) (h : r + l.length ≤ part.length) : (putB part r l).length = part.length := by
  unfold putB; simp; omega
theorem splice_box (pre : List Value) (part : List UInt8) (l : List UInt8) (x : Value) (r : Nat) (h : r + l.length ≤ part.length) :
    ((pre ++ (bytesVO part ++ [x])).take (pre.length + r) ++ bytesVO l ++ (pre ++ (bytesVO part ++ [x])).drop (pre.length + r + l.length)) = pre ++ (bytesVO (putB part r l) ++ [x]) := by
  have e1 : (pre ++ (bytesVO part ++ [x])).take (pre.length + r) = pre ++ bytesVO (part.take r) := by
    rw [List.take_length_add_append, List.take_append_of_le_length (by rw [bytesV_lenO]; omega)]
    simp [bytesVO, List.map_take]
  have e2 : (pre ++ (bytesVO part ++ [x])).drop (pre.length + r + l.length) = bytesVO (part.drop (r + l.length)) ++ [x] := by
    rw [Nat.add_assoc, List.drop_length_add_append, List.drop_append_of_le_length (by rw [bytesV_lenO]; omega)]
    simp [bytesVO, List.map_drop]
  rw [e1, e2]
  unfold putB
  simp [bytesVO]
set_option maxHeartbeats 800000 in
set_option maxRecDepth 100000 in
theorem take_any (b t o : Nat) (pre : List Value) (part : List UInt8) (n : Nat) (s : ByteArray) (w : World) (hp : part.length = 64) (ho : pre.length = o) (hn : n ≤ 1099511627776) (h : HBox w b t pre part n) :
    Calls Tryz.prog 142 #[.pointer (some ⟨b, o, none⟩), .string s] w fun e w' => ∃ k : Nat, k = min s.size (64 - n % 64) ∧ e = .returned (.int .i64 (k : Int)) ∧ HBox w' b t pre (putB part (n % 64) (s.data.toList.take k)) (n + k) ∧ OnlyO b w w' := by
  have hc := h.cellN hp
  rw [ho] at hc
  obtain ⟨r, hr⟩ : ∃ r, r = n % 64 := ⟨_, rfl⟩
  have r64 : r < 64 := by omega
  have hrr : (n : Int) % 64 = (r : Int) := by omega
  have hrt : (n : Int).tmod 64 = (r : Int) := by rw [Int.tmod_eq_emod_of_nonneg (by omega)]; exact hrr
  have hsl : ∀ v : World, (Instr.sliceAt 151 (.pointer (some ⟨b, o, none⟩)) (some (.int .u64 (r : Int))) none none).run Tryz.prog v = .ok (.slice (some ⟨b, o + r, none⟩) (64 - r) (64 - r)) v := by
    intro v
    have e1 : (0 : Int) ≤ (r : Int) := by omega
    have e2 : (r : Int) ≤ (64 : Nat) := by omega
    have e3 : ¬ (64 = r) := by omega
    have e4 : (Instr.sliceBound (.int .u64 (r : Int)) 64 .sliceB).run Tryz.prog v = .ok r v := by
      rw [run_sliceBound _ _ _ _ _ e1 e2]; simp
    simp only [Instr.sliceAt, Instr.sureAddr, run_underlying Tryz.underlying151, Instr.sliceBounds, Sem.run_bind, Sem.run_pure, Result.andThen_ok, Option.isSome_none]
    have e5 : (sizeOf 5).run Tryz.prog v = .ok 1 v := by
      have hz := size5
      cases hq : Tryz.prog.info? 5 with
      | none => simp [hq] at hz
      | some i =>
        have hi : i.size = 1 := by simpa [hq] using hz
        simp [sizeOf, typeInfo, hq, hi]
    simp only [Bool.false_eq_true, if_false, e4, e5, Result.andThen_ok, e3, Nat.mul_one]
    unfold Addr.add
    by_cases h0 : r = 0
    · subst h0; rfl
    · simp [h0]
  have HRR := hidMO hr
  obtain ⟨k, hk⟩ : ∃ k, k = min s.size (64 - r) := ⟨_, rfl⟩
  have kk : r + k ≤ 64 := by omega
  have HK := hidMO hk
  have hkl : (s.data.toList.take k).length = k := by rw [List.length_take]; simp; omega
  have h1 : HBox (w.drew.setRow b (pre ++ (bytesVO (putB part r (s.data.toList.take k)) ++ [Value.int .u64 (n : Int)])).toArray) b t pre (putB part r (s.data.toList.take k)) n := setRow_heap _ _ _ _ t _ h
  have hpl : (putB part r (s.data.toList.take k)).length = 64 := by rw [putB_len _ _ _ (by rw [hkl]; omega), hp]
  have hcell : (pre ++ (bytesVO part ++ [Value.int .u64 (n : Int)])).toArray.toList.take (o + r) ++ bytesVO (s.data.toList.take k) ++ (pre ++ (bytesVO part ++ [Value.int .u64 (n : Int)])).toArray.toList.drop (o + r + k) = pre ++ (bytesVO (putB part r (s.data.toList.take k)) ++ [Value.int .u64 (n : Int)]) := by
    have := splice_box pre part (s.data.toList.take k) (Value.int .u64 (n : Int)) r (by rw [hkl]; omega)
    rw [hkl, ho] at this
    exact this
  have H := hidMO h
  have HCL := hidMO (congrArg List.toArray hcell)
  have HG := hidMO (show w.drew.heap[b]? = _ from h)
  clear hcell
  have HO1 : Hid (OnlyO b w (w.drew.setRow b (pre ++ (bytesVO (putB part r (s.data.toList.take k)) ++ [Value.int .u64 (n : Int)])).toArray)) := ((OnlyO.refl b w).drewN 1).setRow _
  have HSZ : Hid ((pre ++ (bytesVO part ++ [Value.int .u64 (n : Int)])).toArray.size = o + 65) := by unfold Hid; simp [bytesV_lenO, hp, ho]
  have HC2 := hidMO (h1.cellN hpl)
  have HF2 := hidMO (h1.frozenN (o + 64))
  have HB2 := hidMO (h1.setN hpl (n + k))
  rw [ho] at HC2 HB2
  generalize (pre ++ (bytesVO (putB part r (s.data.toList.take k)) ++ [Value.int .u64 (n : Int)])).toArray = D at *
  generalize (pre ++ (bytesVO part ++ [Value.int .u64 (n : Int)])).toArray = C at *
  clear hr hk hrr h hpl
  go_enter Tryz.func142, Tryz.ntmps142
  go_wp2
  go_region_law (refine step_copy_string rfl (.tmp 14) (.tmp 15) 74 9 rfl 5 Tryz.underlying74 size5 b (o + r) (64 - r) (64 - r) s (by rfl) (by rfl) C t HG.out k HK.out (by rw [HSZ.out]; omega) ?_; rw [HCL.out])
  all_goals
    clear hc
    have hc := HC2.out
    have hf := HF2.out
    go_wp2
    go_ret
    have ek := HRR.out
    refine ⟨k, by rw [← ek]; exact HK.out, rfl, ?_, HO1.out.setCell _ _⟩
    rw [← ek]
    have := HB2.out
    simpa using this
/-- What stands behind a text of n bytes. -/
def padN (n : Nat) : Nat := (119 - n % 64) % 64
def padB (n : Nat) : List UInt8 := (128 :: List.replicate (padN n) 0) ++ wordB (n * 8 / 4294967296) ++ wordB (n * 8 % 4294967296)
theorem padB_len (n : Nat) : (padB n).length = 9 + padN n := by
  unfold padB; simp [wordB_len]; omega
def zerosV (n : Nat) : Array Value := (bytesVO (List.replicate n 0)).toArray
theorem info_byte : ∃ i, Tryz.prog.info? 5 = some i ∧ i.zero = some (.int .u8 0) ∧ i.size = 1 ∧ i.bytes = 1 := by
  have h : ((Tryz.prog.info? 5).map fun i => (i.zero, i.size, i.bytes)) = some (some (.int .u8 0), 1, 1) := by kernel_rfl
  cases hq : Tryz.prog.info? 5 with
  | none => simp [hq] at h
  | some i => simp [hq] at h; exact ⟨i, rfl, h.1, h.2.1, h.2.2⟩
theorem made_zeros (n : Nat) (w : World) (hn : n ≤ 1000) :
    (Instr.makeSlice 74 (.int .u64 (n : Int)) (.int .u64 (n : Int))).run Tryz.prog w = .ok (.slice (some ⟨w.heap.size, 0, none⟩) n n) (w.alloc (.cells (zerosV n) 5)) := by
  obtain ⟨i, hi, h1, h2, h3⟩ := info_byte
  have h := run_make (P := Tryz.prog) w 74 5 i (.int .u8 0) Tryz.underlying74 hi h1 .u64 .u64 (n : Int) (n : Int) (by omega) (by omega) (by rw [h3]; omega) (by omega)
  rw [h, h2]
  have e : madeCells (Value.int .u8 0).cells n = zerosV n := by
    unfold madeCells zerosV bytesVO
    apply Array.ext
    · simp
    · intro j h1 h2
      simp [Value.cells, Nat.mod_one]
  simp [e]
theorem wordText_int (x : Int) (k : Nat) (w : World) (hk : x = (k : Int)) (hx : k < 4294967296) :
    Calls Tryz.prog 195 #[.int .u32 x] w fun e w' => e = .returned (.string ⟨(wordB k).toArray⟩) ∧ Below w.heap.size w w' := by
  subst hk; exact wordText_any k w hx
/-- While the padding is put together its row stands. -/
structure Pad (w W : World) (l : List UInt8) : Prop where
  row : RowB W w.heap.size 5 l
  below : Below w.heap.size w W
  size : w.heap.size < W.heap.size
theorem Pad.next {w W W1 : World} {l : List UInt8} (h : Pad w W l) (hb : Below W.heap.size W W1) : Pad w W1 l :=
  ⟨(hb.block _ h.size).trans h.row, h.below.trans (hb.mono (Nat.le_of_lt h.size)), Nat.lt_of_lt_of_le h.size hb.size⟩
theorem Pad.drew {w W : World} {l : List UInt8} (h : Pad w W l) : Pad w W.drew l := ⟨h.row, h.below.drew, h.size⟩
theorem Pad.conv {w W : World} {l : List UInt8} (h : Pad w W l) : (convert 74 9 (.slice (some ⟨w.heap.size, 0, none⟩) l.length l.length)).run Tryz.prog W = .ok (.string ⟨l.toArray⟩) W :=
  conv_row h.row.range
theorem str_appO (a b : List UInt8) : (⟨a.toArray⟩ : ByteArray) ++ ⟨b.toArray⟩ = ⟨(a ++ b).toArray⟩ := by
  apply ByteArray.ext
  simp
set_option maxHeartbeats 400000 in
set_option maxRecDepth 100000 in
theorem padding_any (n : Nat) (w : World) (hn : n ≤ 1099511627776) :
    Calls Tryz.prog 145 #[.int .u64 (n : Int)] w fun e w' => e = .returned (.string ⟨(padB n).toArray⟩) ∧ Below w.heap.size w w' := by
  obtain ⟨r, hr⟩ : ∃ r, r = n % 64 := ⟨_, rfl⟩
  have hrt : (n : Int).tmod 64 = (r : Int) := by rw [Int.tmod_eq_emod_of_nonneg (by omega)]; omega
  have r64 : r < 64 := by omega
  obtain ⟨m, hm⟩ : ∃ m, m = padN n := ⟨_, rfl⟩
  have m64 : m < 64 := by rw [hm]; unfold padN; omega
  have hmt : (119 - (r : Int)).tmod 64 = (m : Int) := by rw [Int.tmod_eq_emod_of_nonneg (by omega), hm]; unfold padN; omega
  have hmk : ∀ w : World, (Instr.makeSlice 74 (.int .u64 (1 + (m : Int))) (.int .u64 (1 + (m : Int)))).run Tryz.prog w = .ok (.slice (some ⟨w.heap.size, 0, none⟩) (m + 1) (m + 1)) (w.alloc (.cells (zerosV (m + 1)) 5)) := by
    intro w
    have := made_zeros (m + 1) w (by omega)
    rwa [show ((m + 1 : Nat) : Int) = 1 + (m : Int) by omega] at this
  have hz0 : (zerosV (m + 1))[0]? = some (.int .u8 0) := by simp [zerosV, bytesVO, List.replicate_succ]
  have HZ : Hid ((zerosV (m + 1)).setIfInBounds 0 (.int .u8 128) = (bytesVO (128 :: List.replicate m 0)).toArray) := by
    unfold Hid zerosV bytesVO; simp [List.replicate_succ]
  have HLEN : Hid ((128 :: List.replicate m (0 : UInt8)).length = m + 1) := by unfold Hid; simp
  have HP : Hid (padB n = ((128 :: List.replicate m 0) ++ wordB (n * 8 / 4294967296)) ++ wordB (n * 8 % 4294967296)) := by unfold Hid padB; rw [hm]
  generalize (128 :: List.replicate m (0 : UInt8)) = L at *
  have hadd1 : ∀ w : World, (Op.stringOp .add ⟨L.toArray⟩ ⟨(wordB (n * 8 / 4294967296)).toArray⟩).run Tryz.prog w = .ok (.string ⟨(L ++ wordB (n * 8 / 4294967296)).toArray⟩) w := by
    intro w
    rw [run_string_add_sum _ _ _ (by show L.toArray.size + (wordB _).toArray.size ≤ _; rw [List.size_toArray, List.size_toArray, HLEN.out, wordB_len]; omega), str_appO]
  have hadd2 : ∀ w : World, (Op.stringOp .add ⟨(L ++ wordB (n * 8 / 4294967296)).toArray⟩ ⟨(wordB (n * 8 % 4294967296)).toArray⟩).run Tryz.prog w = .ok (.string ⟨(padB n).toArray⟩) w := by
    intro w
    rw [run_string_add_sum _ _ _ (by show (L ++ wordB _).toArray.size + (wordB _).toArray.size ≤ _; rw [List.size_toArray, List.size_toArray, List.length_append, HLEN.out, wordB_len, wordB_len]; omega), str_appO, HP.out]
  clear hr hm
  go_enter Tryz.func145, Tryz.ntmps145
  go_wp2
  have hp : Pad w (w.alloc (.cells ((zerosV (m + 1)).setIfInBounds 0 (.int .u8 128)) 5)).drew L := by
    rw [HZ.out]
    exact ⟨heap_alloc_new _ _, ((Below.refl _ _).alloc (Nat.le_refl _) _).drew, by simp⟩
  have hcv := hp.conv
  rw [HLEN.out] at hcv
  go_region_with (go_at_call 195; first
    | (refine (wordText_int _ (n * 8 / 4294967296) _ ?_ ?_).mono ?_
       · rw [IntKind.wrap_u32]; omega
       · omega
       rintro _ w1 ⟨rfl, hb1⟩
       have hp1 := hp.next hb1
       clear hp hb1 hcv
       have hp := hp1
       have hcv := hp1.conv
       rw [HLEN.out] at hcv
       clear hp1)
    | (refine (wordText_int _ (n * 8 % 4294967296) _ ?_ ?_).mono ?_
       · rw [IntKind.wrap_u32]; omega
       · omega
       rintro _ w1 ⟨rfl, hb1⟩
       have hp1 := hp.next hb1
       clear hp hb1 hcv
       have hp := hp1
       have hcv := hp1.conv
       rw [HLEN.out] at hcv
       clear hp1))
  all_goals
    go_wp2
    go_ret
    exact ⟨rfl, hp.below⟩
theorem rangeW_keep {w W : World} {b off : Nat} {l : List Value} {B : Nat} (h : w.rangeAt b off l) (hb : Below B w W) (hB : b < B) : W.rangeAt b off l := by
  intro j v hv
  have h1 := h j v hv
  unfold World.cell? at h1 ⊢
  rw [hb.block b hB]
  exact h1
set_option maxHeartbeats 400000 in
set_option maxRecDepth 100000 in
theorem wordsText_any (b off cap : Nat) (l : List Nat) (w : World) (hl : l.length ≤ 100) (hbd : ∀ j, l.getD j 0 < 4294967296) (hr : w.rangeAt b off (wordsV l)) (hb : b < w.heap.size) :
    Calls Tryz.prog 146 #[.slice (some ⟨b, off, none⟩) l.length cap] w fun e w' => e = .returned (.string ⟨(wordsB l).toArray⟩) ∧ Below w.heap.size w w' := by
  have HR := hidMO hr
  have HBD := hidMO hbd
  obtain ⟨N, hN⟩ : ∃ N, N = l.length := ⟨_, rfl⟩
  have HN := hidMO hN
  rw [← hN] at hl ⊢
  clear hr hbd hN
  go_enter Tryz.func146, Tryz.ntmps146
  go_wp2
  go_loopw [3, 5, 8] (fun v _ i wr => ∃ (k : Nat) (P : List UInt8), k ≤ N ∧ i = .int .i64 k ∧ P = wordsB (l.take k) ∧ v = .string ⟨P.toArray⟩ ∧ Below w.heap.size w wr) (fun _ _ i _ => N - (intOf i).toNat)
  case atStart => exact ⟨0, [], Nat.zero_le _, rfl, rfl, rfl, Below.refl _ _⟩
  case round =>
    obtain ⟨k, P, hk, rfl, hP, rfl, hbr⟩ := hrel
    by_cases hlt : k < N
    · have hlk : k < l.length := by rw [← HN.out]; exact hlt
      have hcell : wr.cell? ⟨b, off + k, none⟩ = some (.int .u32 (l.getD k 0 : Nat)) := by
        rw [← getElem_D l k hlk]
        exact rangeW_keep HR.out hbr hb k _ (wordsV_at l k hlk)
      have hx := HBD.out k
      have HX : Hid (wordsB (l.take (k + 1)) = P ++ wordB (l.getD k 0)) := by
        unfold Hid
        rw [hP, ← wordsB_snoc, List.take_add_one, List.getElem?_eq_getElem hlk, getElem_D l k hlk]; rfl
      have HPL : Hid (P.length = 4 * k) := by unfold Hid; rw [hP, wordsB_len, List.length_take]; omega
      have HB := hidMO hbr
      generalize l.getD k 0 = x at *
      have hadd : ∀ w : World, (Op.stringOp .add ⟨P.toArray⟩ ⟨(wordB x).toArray⟩).run Tryz.prog w = .ok (.string ⟨(P ++ wordB x).toArray⟩) w := by
        intro w
        rw [run_string_add_sum _ _ _ (by show P.toArray.size + (wordB _).toArray.size ≤ _; rw [List.size_toArray, List.size_toArray, HPL.out, wordB_len]; omega), str_appO]
      clear hP hbr
      go_wp2_with fail
      refine (wordText_any x _ hx).mono ?_
      rintro _ w1 ⟨rfl, hb1⟩
      have HB2 := hidMO (HB.out.trans (hb1.mono HB.out.size))
      clear hb1
      go_wp2
      go_roundw
      case rel => exact ⟨k + 1, _, by omega, by go_num, HX.out.symm, rfl, HB2.out⟩
      case measure => simp [intOf]; omega
    · have HF : Hid (wordsB l = P) := by unfold Hid; rw [hP, List.take_of_length_le (by rw [← HN.out]; omega)]
      have HB := hidMO hbr
      clear hbr hP
      go_wp2
      go_ret
      exact ⟨by rw [HF.out]; rfl, HB.out⟩
def blk (M : List UInt8) (k : Nat) : List UInt8 := (M.drop (64 * k)).take 64
def absN (mix : List Nat → List UInt8 → List Nat) (s : List Nat) (M : List UInt8) : Nat → List Nat
  | 0 => s
  | k + 1 => mix (absN mix s M k) (blk M k)
theorem absN_app (mix : List Nat → List UInt8 → List Nat) (s : List Nat) (M l : List UInt8) (k : Nat) (h : 64 * k ≤ M.length) : absN mix s (M ++ l) k = absN mix s M k := by
  induction k with
  | zero => rfl
  | succ k ih =>
    have e : blk (M ++ l) k = blk M k := by
      unfold blk
      rw [List.drop_append_of_le_length (by omega), List.take_append_of_le_length (by rw [List.length_drop]; omega)]
    rw [absN, absN, ih (by omega), e]
def wordsAt (mix : List Nat → List UInt8 → List Nat) (s : List Nat) (M : List UInt8) : List Nat := absN mix s M (M.length / 64)
/-- A row of words of 32 bits. -/
structure W32 (n : Nat) (l : List Nat) : Prop where
  len : l.length = n
  bd : ∀ j, l.getD j 0 < 4294967296
theorem absN_ok {mix : List Nat → List UInt8 → List Nat} {s : List Nat} {n : Nat} (hs : W32 n s) (hm : ∀ h p, W32 n h → W32 n (mix h p)) (M : List UInt8) (k : Nat) : W32 n (absN mix s M k) := by
  induction k with
  | zero => exact hs
  | succ k ih => exact hm _ _ ih
/-- Part of a block is taken in; the block is not full. -/
theorem wordsAt_more (mix : List Nat → List UInt8 → List Nat) (s : List Nat) (M l : List UInt8) (h : (M.length + l.length) / 64 = M.length / 64) : wordsAt mix s (M ++ l) = wordsAt mix s M := by
  unfold wordsAt
  rw [List.length_append, h]
  exact absN_app mix s M l _ (by omega)
theorem wordsAt_full (mix : List Nat → List UInt8 → List Nat) (s : List Nat) (M l : List UInt8) (h : (M.length + l.length) / 64 = M.length / 64 + 1) (h0 : (M.length + l.length) % 64 = 0) :
    wordsAt mix s (M ++ l) = mix (wordsAt mix s M) ((M ++ l).drop (M.length / 64 * 64)) := by
  unfold wordsAt
  rw [List.length_append, h, absN, absN_app mix s M l _ (by omega)]
  congr 1
  unfold blk
  rw [Nat.mul_comm, List.take_of_length_le]
  rw [List.length_drop, List.length_append]; omega
theorem part_next (part M l : List UInt8) (hp : part.length = 64) (h : part.take (M.length % 64) = M.drop (M.length / 64 * 64)) (_hl : M.length % 64 + l.length ≤ 64) :
    (putB part (M.length % 64) l).take (M.length % 64 + l.length) = (M ++ l).drop (M.length / 64 * 64) := by
  unfold putB
  have e1 : (part.take (M.length % 64) ++ l).length = M.length % 64 + l.length := by rw [List.length_append, List.length_take]; omega
  rw [List.take_append_of_le_length (by omega), List.take_of_length_le (by omega), h, List.drop_append_of_le_length (by omega)]
theorem part_full (part M l : List UInt8) (hp : part.length = 64) (h : part.take (M.length % 64) = M.drop (M.length / 64 * 64)) (hl : M.length % 64 + l.length = 64) :
    putB part (M.length % 64) l = (M ++ l).drop (M.length / 64 * 64) := by
  rw [← part_next part M l hp h (by omega), hl, List.take_of_length_le]
  rw [putB_len _ _ _ (by omega)]; omega
/-- Blocks below B are as they were, but for b. -/
structure But (b B : Nat) (w w' : World) : Prop where
  os : w'.os = w.os
  tape : w'.tape = w.tape
  output : w'.output = w.output
  size : w.heap.size ≤ w'.heap.size
  block : ∀ k, k < B → k ≠ b → w'.heap[k]? = w.heap[k]?
theorem But.refl (b B : Nat) (w : World) : But b B w w := ⟨rfl, rfl, rfl, Nat.le_refl _, fun _ _ _ => rfl⟩
theorem But.trans {b B : Nat} {u v w : World} (h : But b B u v) (k : But b B v w) : But b B u w :=
  ⟨k.os.trans h.os, k.tape.trans h.tape, k.output.trans h.output, Nat.le_trans h.size k.size, fun i hi hb => (k.block i hi hb).trans (h.block i hi hb)⟩
theorem But.mono {b B B' : Nat} {w w' : World} (h : But b B w w') (hB : B' ≤ B) : But b B' w w' := ⟨h.os, h.tape, h.output, h.size, fun k hk => h.block k (Nat.lt_of_lt_of_le hk hB)⟩
theorem OnlyO.but {b : Nat} {w w' : World} (h : OnlyO b w w') (B : Nat) : But b B w w' := ⟨h.os, h.tape, h.output, by rw [h.size]; exact Nat.le_refl _, fun k _ hb => h.block k hb⟩
theorem But.below {b B : Nat} {w w' : World} (h : But b B w w') (hB : B ≤ b) : Below B w w' := ⟨h.os, h.tape, h.output, h.size, fun k hk => h.block k hk (by omega)⟩
theorem But.ofBelow {b B : Nat} {w w' : World} (h : Below B w w') : But b B w w' := ⟨h.os, h.tape, h.output, h.size, fun k hk _ => h.block k hk⟩
theorem But.drewN {b B : Nat} {w w' : World} (h : But b B w w') (n : Nat) : But b B w (w'.drewN n) := ⟨h.os, h.tape, h.output, h.size, h.block⟩
theorem OnlyO.setCells {b : Nat} : ∀ (vs : List Value) (o : Nat) {w w' : World}, OnlyO b w w' → OnlyO b w (w'.setCells b o vs)
  | [], _,_,_, h => h
  | v :: r, o, _,_, h => OnlyO.setCells r (o + 1) (h.setCell o v)
theorem setCells_box (b t : Nat) (rest : List Value) : ∀ (vs old A : List Value) (w : World), vs.length = old.length → w.heap[b]? = some (.cells (A ++ (old ++ rest)).toArray t (0, 0)) →
    (w.setCells b A.length vs).heap[b]? = some (.cells (A ++ (vs ++ rest)).toArray t (0, 0))
  | [], [], _,_,_, h => h
  | v :: r, x :: old, A, w, hl, h => by
    rw [World.setCells]
    have h1 := heap_setCell_same w b A.length _ t v h
    have e : (A ++ (x :: old ++ rest)).toArray.setIfInBounds A.length v = ((A ++ [v]) ++ (old ++ rest)).toArray := by
      rw [List.setIfInBounds_toArray, List.set_append_right _ _ (by omega)]; simp
    rw [e] at h1
    have h2 := setCells_box b t rest r old (A ++ [v]) _ (by simpa using hl) h1
    rw [List.length_append] at h2
    simpa using h2
theorem HBox.setPre {w : World} {b t : Nat} {pre : List Value} {part : List UInt8} {n : Nat} (h : HBox w b t pre part n) (pre' : List Value) (hl : pre'.length = pre.length) : HBox (w.setCells b 0 pre') b t pre' part n := by
  have := setCells_box b t (bytesVO part ++ [Value.int .u64 (n : Int)]) pre' pre [] w hl h
  exact this
theorem HBox.rangePre {w : World} {b t : Nat} {pre : List Value} {part : List UInt8} {n : Nat} (h : HBox w b t pre part n) : w.rangeAt b 0 pre := by
  intro j v hv
  rw [cell_of_row w b (0 + j) _ t (0, 0) h]
  have hj : j < pre.length := (List.getElem?_eq_some_iff.1 hv).1
  rw [Nat.zero_add]
  simp only [List.getElem?_toArray]
  rw [List.getElem?_append_left hj]; exact hv
theorem HBox.rangePart {w : World} {b t : Nat} {pre : List Value} {part : List UInt8} {n : Nat} (h : HBox w b t pre part n) : w.rangeAt b pre.length (bytesVO part) := by
  intro j v hv
  rw [cell_of_row w b (pre.length + j) _ t (0, 0) h]
  have hj : j < (bytesVO part).length := (List.getElem?_eq_some_iff.1 hv).1
  simp only [List.getElem?_toArray]
  rw [List.getElem?_append_right (by omega), show pre.length + j - pre.length = j by omega, List.getElem?_append_left hj]; exact hv
theorem HBox.therePre {w : World} {b t : Nat} {pre : List Value} {part : List UInt8} {n : Nat} (h : HBox w b t pre part n) : w.there b 0 pre.length := by
  intro j hj
  exact ⟨h.rangePre.isSome j hj, h.frozenN (0 + j)⟩
/-- The sum at b has taken in M. -/
def HashT (mix : List Nat → List UInt8 → List Nat) (s : List Nat) (t : Nat) (w : World) (b : Nat) (M : List UInt8) : Prop :=
  ∃ part, part.length = 64 ∧ part.take (M.length % 64) = M.drop (M.length / 64 * 64) ∧ HBox w b t (wordsV (wordsAt mix s M)) part M.length
/-- The same, but of an untouched sum the words are whatever. -/
def HashS (mix : List Nat → List UInt8 → List Nat) (s : List Nat) (t : Nat) (w : World) (b : Nat) (M : List UInt8) : Prop :=
  ∃ ws part, ws.length = s.length ∧ part.length = 64 ∧ (M ≠ [] → ws = wordsAt mix s M) ∧ part.take (M.length % 64) = M.drop (M.length / 64 * 64) ∧ HBox w b t (wordsV ws) part M.length
theorem HashT.loose {mix : List Nat → List UInt8 → List Nat} {s : List Nat} {t : Nat} {w : World} {b : Nat} {M : List UInt8} (h : HashT mix s t w b M) (hl : (wordsAt mix s M).length = s.length) : HashS mix s t w b M := by
  obtain ⟨part, h1, h2, h3⟩ := h
  exact ⟨_, part, hl, h1, fun _ => rfl, h2, h3⟩
theorem HashS.same {mix : List Nat → List UInt8 → List Nat} {s : List Nat} {t : Nat} {w w' : World} {b : Nat} {M : List UInt8} (h : HashS mix s t w b M) (hh : w'.heap[b]? = w.heap[b]?) : HashS mix s t w' b M := by
  obtain ⟨ws, part, h1, h2, h3, h4, h5⟩ := h
  exact ⟨ws, part, h1, h2, h3, h4, h5.same hh⟩
theorem h0_ok : W32 5 h0 := ⟨rfl, by
  intro j
  match j with
  | 0 | 1 | 2 | 3 | 4 => decide
  | j + 5 => simp [h0]⟩
theorem mixL1_form (h : List Nat) (p : List UInt8) : ∃ a b c d e a' b' c' d' e', mixL1 h p = [add32 a a', add32 b b', add32 c c', add32 d d', add32 e e'] := by
  unfold mixL1
  generalize rounds1 (sched1 p) (h.getD 0 0, h.getD 1 0, h.getD 2 0, h.getD 3 0, h.getD 4 0) 80 = r
  exact ⟨_,_,_,_,_,_,_,_,_,_, rfl⟩
theorem mixL1_ok (h : List Nat) (p : List UInt8) : W32 5 (mixL1 h p) := by
  obtain ⟨a, b, c, d, e, a', b', c', d', e', hf⟩ := mixL1_form h p
  rw [hf]
  refine ⟨rfl, ?_⟩
  intro j
  match j with
  | 0 => exact add32_lt a a'
  | 1 => exact add32_lt b b'
  | 2 => exact add32_lt c c'
  | 3 => exact add32_lt d d'
  | 4 => exact add32_lt e e'
  | j + 5 => simp
theorem five_of (h : List Nat) (hl : h.length = 5) : ∃ a b c d e, h = [a, b, c, d, e] := by
  match h, hl with
  | [a, b, c, d, e], _ => exact ⟨a, b, c, d, e, rfl⟩
theorem W32.at5 {n : Nat} {l : List Nat} (h : W32 n l) (j x : Nat) (hx : l.getD j 0 = x) : x < 4294967296 := by rw [← hx]; exact h.bd j
theorem mix1_list (h : List Nat) (p : List UInt8) (w : World) (hp : p.length = 64) (hh : W32 5 h) :
    Calls Tryz.prog 144 #[.agg (wordsV h).toArray, .agg (bytesVO p).toArray] w fun e w' => e = .returned (.agg (wordsV (mixL1 h p)).toArray) ∧ Below w.heap.size w w' := by
  obtain ⟨a, b, c, d, e, rfl⟩ := five_of h hh.len
  exact mix1_any a b c d e p w hp (hh.at5 0 a rfl) (hh.at5 1 b rfl) (hh.at5 2 c rfl) (hh.at5 3 d rfl) (hh.at5 4 e rfl)
end Go.Proofs.YtlmeoahcpmikiaaGreatDoor
