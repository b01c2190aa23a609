/-
  Taken over from another program: DltA.
  Taken over from another program: DltB.
-/
import Derived.Test.YtddoemeellbhaaaGreatDoorRows
import Derived.WalkKit
import Derived.WalkSpells
import Derived.WalkLawsBesides
import Derived.Laws.IdiomStrings
import Derived.Laws.BitsAllLaws
import Derived.Deep.QuietTactic
import Derived.BigQuiet
import Derived.Deep.RegionHeld3
import Derived.Deep.MidRow
import Derived.Deep.DeepCutAuto
import Derived.Defers
import Derived.Recover
namespace Go.Proofs.YtddoemeellbhaaaGreatDoor.Dlt
open Go.RowKit
theorem hidM {p : Prop} (h : p) : Hid p := h
theorem ret_int {k : IntKind} {a b : Int} (h : a = b) : Ending.returned (.int k a) = .returned (.int k b) := by rw [h]
theorem val_int {k : IntKind} {a b : Int} (h : a = b) : Value.int k a = .int k b := by rw [h]
/-- Only block b has turned. -/
structure Only (b : Nat) (w w' : World) : Prop where
  os : w'.os = w.os
  tape : w'.tape = w.tape
  output : w'.output = w.output
  size : w'.heap.size = w.heap.size
  block : ∀ k, k ≠ b → w'.heap[k]? = w.heap[k]?
theorem Only.refl (b : Nat) (w : World) : Only b w w := ⟨rfl, rfl, rfl, rfl, fun _ _ => rfl⟩
theorem Only.trans {b : Nat} {u v w : World} (h : Only b u v) (k : Only b v w) : Only b u w :=
  ⟨k.os.trans h.os, k.tape.trans h.tape, k.output.trans h.output, k.size.trans h.size, fun n hn => (k.block n hn).trans (h.block n hn)⟩
theorem Only.drewN {b : Nat} {w w' : World} (h : Only b w w') (n : Nat) : Only b w (w'.drewN n) := ⟨h.os, h.tape, h.output, h.size, h.block⟩
theorem Only.setCell {b : Nat} {w w' : World} (h : Only b w w') (o : Nat) (v : Value) : Only b w (w'.setCell ⟨b, o, none⟩ v) :=
  ⟨h.os, h.tape, h.output, by rw [← h.size]; simp [World.setCell], fun k hk => (Below.heap_setCell w' ⟨b, o, none⟩ v k hk).trans (h.block k hk)⟩
theorem Only.below {b B : Nat} {w w' : World} (h : Only b w w') (hB : B ≤ b) : Below B w w' :=
  ⟨h.os, h.tape, h.output, by rw [h.size]; exact Nat.le_refl _, fun k hk => h.block k (by omega)⟩
/-- A reader's box: the text, and how many bytes are taken. -/
def RBox (w : World) (b : Nat) (s : ByteArray) (t : Nat) : Prop := w.heap[b]? = some (.cells #[.string s, .int .i64 (t : Int)] 92 (0, 0))
theorem RBox.text {w : World} {b : Nat} {s : ByteArray} {t : Nat} (h : RBox w b s t) : w.cell? ⟨b, 0, none⟩ = some (.string s) := by
  rw [cell_of_row w b _ _ 92 (0, 0) h]; rfl
theorem RBox.taken {w : World} {b : Nat} {s : ByteArray} {t : Nat} (h : RBox w b s t) : w.cell? ⟨b, 1, none⟩ = some (.int .i64 (t : Int)) := by
  rw [cell_of_row w b _ _ 92 (0, 0) h]; rfl
theorem RBox.frozen {w : World} {b : Nat} {s : ByteArray} {t : Nat} (h : RBox w b s t) (j : Nat) : w.frozen? ⟨b, j, none⟩ = false := frozen_of_row w b j _ 92 h
theorem RBox.set {w : World} {b : Nat} {s : ByteArray} {t : Nat} (h : RBox w b s t) (m : Nat) : RBox (w.setCell ⟨b, 1, none⟩ (.int .i64 (m : Int))) b s m := by
  unfold RBox
  rw [heap_setCell_same w b _ _ 92 _ h]
  rfl
theorem RBox.same {w w' : World} {b : Nat} {s : ByteArray} {t : Nat} (h : RBox w b s t) (hh : w'.heap[b]? = w.heap[b]?) : RBox w' b s t := by
  unfold RBox; rw [hh]; exact h
theorem RBox.lt {w : World} {b : Nat} {s : ByteArray} {t : Nat} (h : RBox w b s t) : b < w.heap.size := by
  unfold RBox at h
  exact (Array.getElem?_eq_some_iff.1 h).1
theorem RBox.drewN {w : World} {b : Nat} {s : ByteArray} {t : Nat} (h : RBox w b s t) (n : Nat) : RBox (w.drewN n) b s t := h
theorem RBox.below {w w' : World} {B b : Nat} {s : ByteArray} {t : Nat} (h : RBox w b s t) (hb : Below B w w') (hB : b < B) : RBox w' b s t := h.same (hb.block b hB)
/-- The panic with which reading gives up. -/
def gave (n : Nat) : Ending := .panicked [{ v := .iface 136 (.agg #[.int .i64 (n : Int)]), recovered := false }]
set_option maxHeartbeats 400000 in
theorem take_no (b : Nat) (s : ByteArray) (t n : Nat) (w : World) (h : RBox w b s t) (_hs : s.size ≤ 100000000000) (ht : t ≤ s.size) (hn : n ≤ 1000000) (hx : s.size < t + n) :
    Calls Tryz.prog 163 #[.pointer (some ⟨b, 0, none⟩), .int .i64 (n : Int)] w fun e w' => e = gave 6 ∧ Only b w w' := by
  have h1 := h.text
  have h2 := h.taken
  have e0 : (s.size : Int) - t < n := by omega
  go_enter Tryz.func163, Tryz.ntmps163
  go_wp2
  go_quiet (fail)
  go_wp2
  exact ⟨rfl, rfl, (Only.refl _ _).drewN _⟩
set_option maxHeartbeats 800000 in
theorem take_ok (b : Nat) (s : ByteArray) (t n m : Nat) (w : World) (h : RBox w b s t) (hs : s.size ≤ 100000000000) (hm : t + n = m) (hn : n ≤ 1000000) (hx : m ≤ s.size) :
    Calls Tryz.prog 163 #[.pointer (some ⟨b, 0, none⟩), .int .i64 (n : Int)] w fun e w' => e = .returned (.string (s.extract t m)) ∧ RBox w' b s m ∧ Only b w w' := by
  have h1 := h.text
  have h2 := h.taken
  have h3 := h.frozen 1
  have e0 : ¬ (s.size : Int) - t < n := by omega
  have e1 : (t : Int) + n = m := by omega
  have e2 : (m : Int) - n = t := by omega
  have ht : t ≤ m := by omega
  have m1 : m ≤ 100000000000 := by omega
  clear hm
  go_enter Tryz.func163, Tryz.ntmps163
  go_wp2
  go_quiet (fail)
  go_wp2
  obtain ⟨V, hV⟩ : ∃ V, V = (w.drewN nq).setCell { block := b, off := 1 } (Value.int IntKind.i64 ↑m) := ⟨_, rfl⟩
  have B1 : RBox V b s m := by rw [hV]; exact RBox.set (h.drewN nq) m
  have O1 := hidM (show Only b w V by rw [hV]; exact ((Only.refl _ _).drewN _).setCell _ _)
  have g1 := B1.text
  have g2 := B1.taken
  have HB := hidM B1
  rw [← hV]
  clear hV B1 h1 h2 h3 h
  go_quiet (fail)
  go_wp2
  go_ret
  exact ⟨rfl, HB.out.drewN _, O1.out.drewN _⟩
theorem ex_one (s : ByteArray) (t : Nat) (h : t < s.size) : (s.extract t (t + 1)).size = 1 := by simp; omega
theorem ex_get (s : ByteArray) (t : Nat) (h : t < s.size) (h' : 0 < (s.extract t (t + 1)).size) : (s.extract t (t + 1))[0] = s[t] := by
  simp [ByteArray.getElem_extract]
set_option maxHeartbeats 400000 in
theorem next_no (b : Nat) (s : ByteArray) (w : World) (t : Nat) (h : RBox w b s t) (hs : s.size ≤ 100000000000) (ht : t ≤ s.size) (hx : ¬ t < s.size) :
    Calls Tryz.prog 162 #[.pointer (some ⟨b, 0, none⟩)] w fun e w' => e = gave 6 ∧ Only b w w' := by
  go_enter Tryz.func162, Tryz.ntmps162
  go_wp2_with fail
  refine (take_no b s t 1 w h hs ht (by decide) (by omega)).mono ?_
  rintro e w' ⟨rfl, hO⟩
  have HO := hidM hO
  clear hO
  unfold gave
  go_wp2
  exact ⟨rfl, rfl, HO.out⟩
set_option maxHeartbeats 400000 in
theorem next_ok (b : Nat) (s : ByteArray) (w : World) (t : Nat) (h : RBox w b s t) (hs : s.size ≤ 100000000000) (hx : t < s.size) (c : Nat) (hc : s[t].toNat = c) :
    Calls Tryz.prog 162 #[.pointer (some ⟨b, 0, none⟩)] w fun e w' => e = .returned (.int .i64 (c : Int)) ∧ RBox w' b s (t + 1) ∧ Only b w w' := by
  have k1 := ex_one s t hx
  have k2 : ∀ h', (s.extract t (t + 1))[0]'h' = s[t] := ex_get s t hx
  go_enter Tryz.func162, Tryz.ntmps162
  go_wp2_with fail
  refine (take_ok b s t 1 (t + 1) w h hs rfl (by decide) (by omega)).mono ?_
  rintro e w' ⟨rfl, hB, hO⟩
  have HO := hidM (And.intro hB hO)
  clear hO hB
  generalize s.extract t (t + 1) = x at *
  have k3 : 0 < x.size := by omega
  have k4 : (x[0].toNat : Int) = c := by rw [k2 k3, hc]
  have k5 : c < 256 := by rw [← hc]; exact s[t].toNat_lt
  clear k2
  go_wp2
  go_ret
  exact ⟨ret_int (by omega), HO.out.1, HO.out.2⟩
theorem i64_or_nat (a b : Nat) (ha : a < 9223372036854775808) (hb : b < 9223372036854775808) : bits .or .i64 (a : Int) (b : Int) = ((a ||| b : Nat) : Int) := by
  have hx : a ||| b < 2 ^ 63 := Nat.or_lt_two_pow (by omega) (by omega)
  show IntKind.i64.wrap ((BitVec.ofInt 64 (a : Int) ||| BitVec.ofInt 64 (b : Int)).toNat : Int) = _
  rw [BitVec.toNat_or, ofInt_u64 a (by omega), ofInt_u64 b (by omega), IntKind.wrap_i64]
  omega
theorem or_add (x b s : Nat) (hx : x < 2 ^ s) : x ||| b * 2 ^ s = x + 2 ^ s * b := by
  rw [Nat.or_comm, Nat.mul_comm b, ← Nat.two_pow_add_eq_or_of_lt hx, Nat.add_comm]
theorem i64_or_add (x b s : Nat) (hs : s ≤ 32) (hx : x < 2 ^ s) (hb : b < 256) : bits .or .i64 (x : Int) ((b : Int) * 2 ^ s) = ((x + b * 2 ^ s : Nat) : Int) := by
  have hp : 2 ^ s ≤ 2 ^ 32 := Nat.pow_le_pow_right (by decide) hs
  have h1 : b * 2 ^ s < 256 * 2 ^ 32 := Nat.lt_of_lt_of_le (Nat.mul_lt_mul_of_pos_right hb (Nat.pow_pos (by decide))) (Nat.mul_le_mul_left _ hp)
  have e1 : ((b : Int) * 2 ^ s) = ((b * 2 ^ s : Nat) : Int) := by simp
  rw [e1, i64_or_nat x _ (Nat.lt_of_lt_of_le hx (Nat.le_trans hp (by decide))) (Nat.lt_of_lt_of_le h1 (by decide)), or_add _ _ _ hx, Nat.mul_comm]
/-- A size from place t on: i bytes are read, n is what they say, at most k more may come. (value, next place, error's number) -/
def szL (d : ByteArray) (t : Nat) : (k i n : Nat) → Nat × Nat × Nat
  | 0, i, _ => if t + i < d.size then (0, 0, 3) else (0, 0, 6)
  | k + 1, i, n =>
    if h : t + i < d.size then
      if d[t + i].toNat < 128 then (n + d[t + i].toNat % 128 * 2 ^ (7 * i), t + i + 1, 0) else szL d t k (i + 1) (n + d[t + i].toNat % 128 * 2 ^ (7 * i))
    else (0, 0, 6)
/-- What size leaves behind. -/
def SizePost (b : Nat) (s : ByteArray) (w : World) (r : Nat × Nat × Nat) (e : Ending) (w' : World) : Prop :=
  Only b w w' ∧ if r.2.2 = 0 then e = .returned (.int .i64 (r.1 : Int)) ∧ RBox w' b s r.2.1 else e = gave r.2.2
theorem szL_no (d : ByteArray) (t k i n : Nat) (h : ¬ t + i < d.size) : szL d t k i n = (0, 0, 6) := by
  cases k <;> simp [szL, h]
theorem szL_last (d : ByteArray) (t k i n c : Nat) (h : t + i < d.size) (hc : d[t + i].toNat = c) (hl : c < 128) : szL d t (k + 1) i n = (n + c * 2 ^ (7 * i), t + i + 1, 0) := by
  rw [szL, dif_pos h, if_pos (by omega), hc, Nat.mod_eq_of_lt hl]
theorem szL_more (d : ByteArray) (t k i n c : Nat) (h : t + i < d.size) (hc : d[t + i].toNat = c) (hl : ¬ c < 128) : szL d t (k + 1) i n = szL d t k (i + 1) (n + c % 128 * 2 ^ (7 * i)) := by
  rw [szL, dif_pos h, if_neg (by omega), hc]
theorem size_or (n q k : Nat) (hk : k ≤ 4) (hn : n < 2 ^ (7 * k)) (hq : q < 256) : bits .or .i64 (n : Int) (wrap64 ((q : Int) * 2 ^ (7 * k))) = ((n + q * 2 ^ (7 * k) : Nat) : Int) := by
  have h0 := i64_or_add n q (7 * k) (by omega) hn hq
  have hp : 2 ^ (7 * k) ≤ 2 ^ 28 := Nat.pow_le_pow_right (by decide) (by omega)
  have e1 : ((q : Int) * 2 ^ (7 * k)) = ((q * 2 ^ (7 * k) : Nat) : Int) := by simp
  have h1 : q * 2 ^ (7 * k) < 256 * 2 ^ 28 := Nat.lt_of_lt_of_le (Nat.mul_lt_mul_of_pos_right hq (Nat.pow_pos (by decide))) (Nat.mul_le_mul_left _ hp)
  have e2 : wrap64 ((q * 2 ^ (7 * k) : Nat) : Int) = ((q * 2 ^ (7 * k) : Nat) : Int) := by
    have h2 : q * 2 ^ (7 * k) < 68719476736 := Nat.lt_of_lt_of_le h1 (by decide)
    generalize q * 2 ^ (7 * k) = x at h2
    unfold wrap64
    omega
  rw [e1, e2, ← e1]
  exact h0
theorem size_lt (n q k : Nat) (hn : n < 2 ^ (7 * k)) (hq : q < 128) : n + q * 2 ^ (7 * k) < 2 ^ (7 * (k + 1)) := by
  have e : 2 ^ (7 * (k + 1)) = 128 * 2 ^ (7 * k) := by rw [show 7 * (k + 1) = 7 + 7 * k by omega, Nat.pow_add]
  rw [e]
  have h1 : (q + 1) * 2 ^ (7 * k) ≤ 128 * 2 ^ (7 * k) := Nat.mul_le_mul_right _ (by omega)
  rw [Nat.add_mul] at h1
  omega
set_option maxHeartbeats 1600000 in
set_option maxRecDepth 20000 in
theorem size_any (b : Nat) (s : ByteArray) (t : Nat) (w : World) (h : RBox w b s t) (hs : s.size ≤ 100000000000) (ht : t ≤ s.size) :
    Calls Tryz.prog 115 #[.pointer (some ⟨b, 0, none⟩)] w fun e w' => SizePost b s w (szL s t 5 0 0) e w' := by
  go_enter Tryz.func115, Tryz.ntmps115
  go_wp2_with fail
  go_loopw [3, 4] (fun v i wr => ∃ (k n : Nat), k ≤ 5 ∧ t + k ≤ s.size ∧ n < 2 ^ (7 * k) ∧ i = .int .i64 k ∧ v = .int .i64 n ∧ RBox wr b s (t + k) ∧ Only b w wr ∧ szL s t 5 0 0 = szL s t (5 - k) k n) (fun _ i _ => 5 - (intOf i).toNat)
  case atStart => exact ⟨0, 0, by decide, ht, by decide, rfl, rfl, h, Only.refl _ _, rfl⟩
  case round =>
    obtain ⟨k, n, hk, hkt, hn, rfl, rfl, hB, hO, hz⟩ := hrel
    have HZ := hidM hz
    have HO := hidM hO
    clear hO hz
    by_cases hlt : t + k < s.size
    · obtain ⟨c, hc⟩ : ∃ c, s[t + k].toNat = c := ⟨_, rfl⟩
      have c256 : c < 256 := by rw [← hc]; exact s[t + k].toNat_lt
      have HC := hidM hc
      go_wp2_with fail
      refine (next_ok b s wr (t + k) hB hs hlt c hc).mono ?_
      rintro e w1 ⟨rfl, hB1, hO1⟩
      have HO1 := hidM (HO.out.trans hO1)
      have HB1 := hidM hB1
      clear hO1 hB1 HO hB hc h
      by_cases h5 : k = 5
      · subst h5
        go_wp2
        refine ⟨rfl, HO1.out, ?_⟩
        rw [HZ.out]
        simp only [Nat.sub_self, szL, if_pos hlt]
        rfl
      · obtain ⟨q, hq⟩ : ∃ q, q = c % 128 := ⟨_, rfl⟩
        have h51 : ¬ (k : Int) = 5 := by omega
        have h52 : (c : Int).tmod 128 = (q : Int) := by rw [Int.tmod_eq_emod_of_nonneg (by omega)]; omega
        have q1' : q < 128 := by omega
        have OR := hidM (size_or n q k (by omega) hn (by omega))
        have HN := hidM (size_lt n q k hn q1')
        have HQ := hidM hq
        clear hq hn
        by_cases hl : c < 128
        · have hl1 : (c : Int) < 128 := by omega
          go_wp2
          go_ret
          refine ⟨HO1.out, ?_⟩
          have hk5 : 5 - k = (4 - k) + 1 := by omega
          rw [HZ.out, hk5, szL_last s t _ k n c hlt HC.out hl, if_pos rfl]
          have hq := HQ.out
          rw [Nat.mod_eq_of_lt hl] at hq
          rw [← hq]
          exact ⟨ret_int OR.out, HB1.out⟩
        · have hl1 : ¬ (c : Int) < 128 := by omega
          go_wp2
          refine ⟨⟨k + 1, n + q * 2 ^ (7 * k), by omega, by omega, HN.out, rfl, val_int OR.out, HB1.out, HO1.out, ?_⟩, ?_⟩
          · have hk5 : 5 - k = (5 - (k + 1)) + 1 := by omega
            rw [HZ.out, hk5, szL_more s t _ k n c hlt HC.out hl, HQ.out]
          · simp [intOf]; omega
    · go_wp2_with fail
      refine (next_no b s wr (t + k) hB hs hkt hlt).mono ?_
      rintro e w1 ⟨rfl, hO1⟩
      have HO1 := hidM (HO.out.trans hO1)
      clear hO1 HO hB h
      unfold gave
      go_wp2
      refine ⟨rfl, HO1.out, ?_⟩
      rw [HZ.out, szL_no s t _ k n hlt]
      rfl
end Go.Proofs.YtddoemeellbhaaaGreatDoor.Dlt
namespace Go.Proofs.YtddoemeellbhaaaGreatDoor.Dlt
open Go.RowKit
set_option maxRecDepth 100000 in
theorem catch_idle (p : Addr) (w : World) :
    CallsD Tryz.prog 116 #[.pointer (some p)] .returning w fun e u' w' => e = .returned (.tuple #[]) ∧ u' = .returning ∧ w' = w := by
  have hnn : ∀ w, (binOp .eql 20 .nilIface .nilIface).run Tryz.prog w = .ok (.bool true) w := fun w => rfl
  refine callsD_of_wpS Tryz.func116 rfl fun c₀ cs hu => ?_
  apply wpS_seq
  apply wpS_region
  simp [wpOpsS, go_sem, recoverD, hu, Tryz.ntmps116, Exit.thenS]
  apply wpS_seq
  apply wpS_seq
  apply wpS_region
  simp [wpOpsS, go_sem, Exit.thenS, hnn]
  refine wpS_cond (t := true) (by simp [Act.eval, Array.replicate]) ?_
  simp only [if_true]
  refine wpS_of_wp (wp_ret ?_)
  cases c₀
  simp_all [bodyPostS, results, Tryz.results116, Exit.thenS]
theorem tmps27 (a b u v : Value) : (#[a] ++ ((((Array.replicate 16 u).setIfInBounds 3 b).setIfInBounds 0 b).setIfInBounds 4 b).setIfInBounds 5 v) = #[a, b, u, u, b, b, v, u, u, u, u, u, u, u, u, u, u] := by kernel_rfl
set_option maxRecDepth 100000 in
theorem catch_gave (p : Addr) (n : Nat) (v : Value) (w : World) (hp : p.block < w.heap.size) (hc : w.cell? p = some v) (hz : w.frozen? p = false) :
    CallsD Tryz.prog 116 #[.pointer (some p)] (.panicking [{ v := .iface 136 (.agg #[.int .i64 (n : Int)]), recovered := false }]) w fun e u' w' =>
      e = .returned (.tuple #[]) ∧ u' = .panicking [{ v := .iface 136 (.agg #[.int .i64 (n : Int)]), recovered := true }] ∧ w' = (w.alloc (.cells #[.int .i64 (n : Int)] 136)).setCell p (.int .i64 (n : Int)) := by
  have hnn : ∀ w, (binOp .eql 20 (.iface 136 (.agg #[.int .i64 (n : Int)])) .nilIface).run Tryz.prog w = .ok (.bool false) w := fun w => rfl
  have hta : ∀ w, (Instr.typeAssert (.iface 136 (.agg #[.int .i64 (n : Int)])) 20 136 true).run Tryz.prog w = .ok (.tuple #[.agg #[.int .i64 (n : Int)], .bool true]) w := fun w => by kernel_rfl
  have hfz : (w.alloc (.cells #[.int .i64 (n : Int)] 136)).frozen? p = false := by
    rw [((Below.refl w.heap.size w).alloc (Nat.le_refl _) _).frozen hp]; exact hz
  refine callsD_of_wpS Tryz.func116 rfl fun c₀ cs hu => ?_
  apply wpS_seq
  apply wpS_region
  simp [wpOpsS, go_sem, recoverD, hu, Tryz.ntmps116, Exit.thenS]
  apply wpS_seq
  apply wpS_seq
  apply wpS_region
  simp [wpOpsS, go_sem, Exit.thenS, hnn]
  refine wpS_cond (t := false) (by simp [Act.eval, Array.replicate]) ?_
  simp only [Bool.false_eq_true, if_false]
  refine wpS_of_wp ?_
  apply wp_skip
  simp only [Exit.thenS]
  refine wpS_of_wp ?_
  rw [tmps27]
  go_wp2
  simp [bodyPostS, results, Tryz.results116]
set_option maxHeartbeats 1000000 in
theorem attempt_ok (F : Nat) (cap : Array Value) (w : World) (Q : World → Prop) (hF : ∀ args w, (callFunc F args).run Tryz.prog w = .ok (.enter F args) w)
    (hc : Calls Tryz.prog F cap (w.alloc (.cells #[.int .i64 0] 26)) fun e w' => e = .returned (.tuple #[]) ∧ w'.heap[w.heap.size]? = some (.cells #[.int .i64 0] 26 (0, 0)) ∧ Q w') :
    Calls Tryz.prog 70 #[.func (.func F) #[] cap] w fun e w' => e = .returned (.int .i64 0) ∧ ∃ w1, Q w1 ∧ w' = w1.setCell ⟨w.heap.size, 0, none⟩ (.int .i64 0) := by
  have hmf : ∀ (fn : Fn) (first cap : Array Value) (w : World), (Instr.makeFunc fn first cap).run Tryz.prog w = .ok (.func fn first cap) w := fun _ _ _ _ => rfl
  go_enter_defers Tryz.func70, Tryz.ntmps70
  go_wp2_with fail
  refine hc.mono ?_
  rintro e w1 ⟨rfl, hk, hq⟩
  have c1 : w1.cell? ⟨w.heap.size, 0, none⟩ = some (.int .i64 0) := by rw [cell_of_row w1 _ _ _ 26 (0, 0) hk]; rfl
  have c2 : w1.frozen? ⟨w.heap.size, 0, none⟩ = false := frozen_of_row w1 _ 0 _ 26 hk
  have HQ := hidM hq
  have HK := hidM hk
  clear hq hk hc
  go_wp2
  refine leaves_cons (f := 116) (args := #[.pointer (some ⟨w.heap.size, 0, none⟩)]) (by simp) (by simp [go_sem]) ?_
  refine (catch_idle ⟨w.heap.size, 0, none⟩ _).mono ?_
  rintro e u' w'' ⟨rfl, rfl, rfl⟩
  have c3 : (w1.setCell ⟨w.heap.size, 0, none⟩ (.int .i64 0)).cell? ⟨w.heap.size, 0, none⟩ = some (.int .i64 0) := World.cell?_setCell_same _ _ _ c1
  simp [Leaves, settle, results, Tryz.results70, go_sem, c3]
  exact ⟨w1, HQ.out, rfl⟩
set_option maxHeartbeats 1000000 in
theorem attempt_gave (F : Nat) (cap : Array Value) (n : Nat) (w : World) (Q : World → Prop) (hF : ∀ args w, (callFunc F args).run Tryz.prog w = .ok (.enter F args) w)
    (hc : Calls Tryz.prog F cap (w.alloc (.cells #[.int .i64 0] 26)) fun e w' => e = gave n ∧ w'.heap[w.heap.size]? = some (.cells #[.int .i64 0] 26 (0, 0)) ∧ Q w') :
    Calls Tryz.prog 70 #[.func (.func F) #[] cap] w fun e w' => e = .returned (.int .i64 (n : Int)) ∧ ∃ w1, Q w1 ∧ w.heap.size < w1.heap.size ∧ w' = (w1.alloc (.cells #[.int .i64 (n : Int)] 136)).setCell ⟨w.heap.size, 0, none⟩ (.int .i64 (n : Int)) := by
  have hmf : ∀ (fn : Fn) (first cap : Array Value) (w : World), (Instr.makeFunc fn first cap).run Tryz.prog w = .ok (.func fn first cap) w := fun _ _ _ _ => rfl
  go_enter_defers Tryz.func70, Tryz.ntmps70
  go_wp2_with fail
  refine hc.mono ?_
  rintro e w1 ⟨rfl, hk, hq⟩
  have c1 : w1.cell? ⟨w.heap.size, 0, none⟩ = some (.int .i64 0) := by rw [cell_of_row w1 _ _ _ 26 (0, 0) hk]; rfl
  have c2 : w1.frozen? ⟨w.heap.size, 0, none⟩ = false := frozen_of_row w1 _ 0 _ 26 hk
  have hlt : w.heap.size < w1.heap.size := (Array.getElem?_eq_some_iff.1 hk).1
  have HQ := hidM hq
  have HK := hidM hk
  clear hq hk hc
  unfold gave
  go_wp2
  refine leaves_cons (f := 116) (args := #[.pointer (some ⟨w.heap.size, 0, none⟩)]) (by simp) (by simp [go_sem]) ?_
  refine (catch_gave ⟨w.heap.size, 0, none⟩ n _ w1 hlt c1 c2).mono ?_
  rintro e u' w'' ⟨rfl, rfl, rfl⟩
  have c3 : ((w1.alloc (.cells #[.int .i64 (n : Int)] 136)).setCell ⟨w.heap.size, 0, none⟩ (.int .i64 (n : Int))).cell? ⟨w.heap.size, 0, none⟩ = some (.int .i64 (n : Int)) :=
    World.cell?_setCell_same _ _ _ (u := .int .i64 0) (by rw [((Below.refl w1.heap.size w1).alloc (Nat.le_refl _) _).cell hlt]; exact c1)
  simp [Leaves, settle, results, Tryz.results70, go_sem, c3]
  exact ⟨w1, HQ.out, hlt, rfl⟩
end Go.Proofs.YtddoemeellbhaaaGreatDoor.Dlt
