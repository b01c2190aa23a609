/-
  Walks: the cyclic sum and Adler's sum, the program's and the document's.
-/
import Derived.Test.YtbodjopdhciaeaaDoorWalkC
import Derived.Test.YtbodjopdhciaeaaDoorCrc
import Derived.Deep.QuietTactic
import Derived.BigQuiet
namespace Go.Proofs.YtbodjopdhciaeaaDoor
open Go.RowKit

/-- The table of sixteen lies in the first block. -/
def Tab (w : World) : Prop := 0 < w.heap.size ∧ ∀ i, i < 16 → w.cell? ⟨0, i, none⟩ = some (.int .u32 (tabN i : Nat))
theorem Tab.below {w w' : World} (h : Tab w) (hb : Below w.heap.size w w') : Tab w' :=
  ⟨Nat.lt_of_lt_of_le h.1 hb.size, fun i hi => (hb.cell (p := ⟨0, i, none⟩) h.1).trans (h.2 i hi)⟩
theorem Tab.set {w : World} (h : Tab w) {b o : Nat} (hb : 0 < b) (v : Value) : Tab (w.setCell ⟨b, o, none⟩ v) :=
  ⟨by simpa using h.1, fun i hi => by
    have := Below.heap_setCell w ⟨b, o, none⟩ v 0 (by show 0 ≠ b; omega)
    exact (World.cell?_of_block (a := ⟨0, i, none⟩) this).trans (h.2 i hi)⟩
theorem Tab.alloc {w : World} (h : Tab w) (o : Obj) : Tab (w.alloc o) := h.below ((Below.refl _ _).alloc (Nat.le_refl _) _)

theorem xor32 (a b : Nat) (ha : a < 4294967296) (hb : b < 4294967296) : bits .xor .u32 (a : Int) (b : Int) = ((a ^^^ b : Nat) : Int) := u32_xor_nat a b ha hb
theorem and15 (a : Nat) (ha : a < 4294967296) : bits .and .u32 (a : Int) 15 = ((a % 16 : Nat) : Int) := by
  have := u32_and_nat a 15 ha (by omega)
  rw [nat_mask4] at this
  exact this
theorem umax32 : IntKind.u32.max = ((ones32 : Nat) : Int) := by decide
theorem ones32_lt : ones32 < 4294967296 := by decide

set_option maxHeartbeats 800000 in
theorem crcWrite_any (b c : Nat) (s : ByteArray) (w : World) (hs : s.size ≤ maxLen) (hc : c < 4294967296) (ht : Tab w)
    (hcell : w.cell? ⟨b, 0, none⟩ = some (.int .u32 c)) (hfz : w.frozen? ⟨b, 0, none⟩ = false) :
    Calls Tryd.prog 15 #[.pointer (some ⟨b, 0, none⟩), .string s] w fun e w' => e = .returned (.tuple #[]) ∧ w' = w.setCell ⟨b, 0, none⟩ (.int .u32 (crcW c s.data.toList : Nat)) := by
  unfold maxLen at hs
  have hfl : bits .xor .u32 IntKind.u32.max (c : Int) = ((flip32 c : Nat) : Int) := by rw [umax32, flip32_eq]; exact xor32 _ _ ones32_lt hc
  obtain ⟨c', hc'⟩ : ∃ d, d = flip32 c := ⟨_, rfl⟩
  rw [← hc'] at hfl
  have hcl : c' < 4294967296 := by rw [hc']; exact flip32_lt c hc
  have HC := hidM hc'
  have HT := hidM ht
  clear hc' ht
  go_enter Tryd.func15, Tryd.ntmps15
  go_wp2
  go_loop [4, 5] (fun x i => ∃ (k y : Nat), k ≤ s.size ∧ i = .int .i64 k ∧ x = .int .u32 y ∧ y < 4294967296 ∧ y = crcRaw c' (s.data.toList.take k)) (fun _ i => s.size - (intOf i).toNat)
  case atStart => exact ⟨0, c', Nat.zero_le _, rfl, rfl, hcl, rfl⟩
  case round =>
    obtain ⟨k, y, hk, rfl, rfl, hy, hyy⟩ := hrel
    have HY := hidM hyy
    clear hyy hfl
    by_cases hlt : k < s.size
    · have hb := byte_lt s[k]
      obtain ⟨d0, hd0⟩ : ∃ d, d = y ^^^ s[k].toNat := ⟨_, rfl⟩
      have hx0 : bits .xor .u32 (y : Int) (s[k].toNat : Int) = (d0 : Int) := by rw [hd0]; exact xor32 _ _ hy (by omega)
      have hl0 : d0 < 4294967296 := by rw [hd0]; exact xor_lt hy (by omega)
      obtain ⟨m0, hm0⟩ : ∃ m, m = d0 % 16 := ⟨_, rfl⟩
      have ha0 : bits .and .u32 (d0 : Int) 15 = (m0 : Int) := by rw [hm0]; exact and15 d0 hl0
      have hml0 : m0 < 16 := by omega
      have hc0 := HT.out.2 m0 hml0
      have htl0 := tabN_lt m0
      obtain ⟨d1, hd1⟩ : ∃ d, d = nib d0 := ⟨_, rfl⟩
      have hx1 : bits .xor .u32 ((d0 : Int) / 16) ((tabN m0 : Nat) : Int) = (d1 : Int) := by
        rw [hd1, show (d0 : Int) / 16 = ((d0 / 16 : Nat) : Int) by omega, hm0]; exact xor32 _ _ (by omega) (tabN_lt _)
      have hl1 : d1 < 4294967296 := by rw [hd1]; exact nib_lt d0 hl0
      obtain ⟨m1, hm1⟩ : ∃ m, m = d1 % 16 := ⟨_, rfl⟩
      have ha1 : bits .and .u32 (d1 : Int) 15 = (m1 : Int) := by rw [hm1]; exact and15 d1 hl1
      have hml1 : m1 < 16 := by omega
      have hc1 := HT.out.2 m1 hml1
      obtain ⟨d2, hd2⟩ : ∃ d, d = nib d1 := ⟨_, rfl⟩
      have hx2 : bits .xor .u32 ((d1 : Int) / 16) ((tabN m1 : Nat) : Int) = (d2 : Int) := by
        rw [hd2, show (d1 : Int) / 16 = ((d1 / 16 : Nat) : Int) by omega, hm1]; exact xor32 _ _ (by omega) (tabN_lt _)
      have hl2 : d2 < 4294967296 := by rw [hd2]; exact nib_lt d1 hl1
      have HD : Hid (d2 = crcRaw c' (s.data.toList.take (k + 1))) := by
        unfold Hid; rw [crcW_take c' s k hlt, ← HY.out, hd2, hd1, hd0]; rfl
      clear hd0 hm0 hd1 hm1 hd2
      generalize tabN m0 = t0 at *
      generalize tabN m1 = t1 at *
      go_wp2
      go_round
      case rel => exact ⟨k + 1, d2, by omega, by go_num, rfl, hl2, HD.out⟩
      case measure => simp [intOf]; omega
    · have HE : Hid (crcW c s.data.toList = flip32 y) := by
        unfold Hid crcW; rw [HY.out, ← HC.out, List.take_of_length_le (by simp; omega)]
      have hfl : bits .xor .u32 IntKind.u32.max (y : Int) = ((flip32 y : Nat) : Int) := by rw [umax32, flip32_eq]; exact xor32 _ _ ones32_lt hy
      generalize flip32 y = f at *
      go_wp2
      go_end0
      exact ⟨rfl, by rw [HE.out]⟩

set_option maxHeartbeats 400000 in
theorem crcSum_any (b c : Nat) (w : World) (hcell : w.cell? ⟨b, 0, none⟩ = some (.int .u32 c)) :
    Calls Tryd.prog 17 #[.pointer (some ⟨b, 0, none⟩)] w fun e w' => e = .returned (.int .u32 c) ∧ w' = w := by
  go_enter Tryd.func17, Tryd.ntmps17
  go_wp2
  go_ret
  exact ⟨rfl, rfl⟩

theorem two_pow_le (b j : Nat) : b / 2 ^ j ≤ b := Nat.div_le_self _ _
theorem odd_test (z b j : Nat) (hz : z < 4294967296) (hb : b < 256) :
    bits .and .u32 (bits .xor .u32 (z : Int) ((b : Int) / 2 ^ j % 4294967296)) 1 = (((z ^^^ (b / 2 ^ j)) % 2 : Nat) : Int) := by
  have h1 := two_pow_le b j
  have e : ((b : Int) / 2 ^ j % 4294967296) = ((b / 2 ^ j : Nat) : Int) := by
    have : ((b : Int) / 2 ^ j) = ((b / 2 ^ j : Nat) : Int) := by simp
    rw [this]
    generalize b / 2 ^ j = q at *
    omega
  rw [e, xor32 _ _ hz (by omega)]
  have hx : z ^^^ (b / 2 ^ j) < 4294967296 := xor_lt hz (by omega)
  have := u32_and_nat (z ^^^ (b / 2 ^ j)) 1 hx (by omega)
  rw [nat_mask1] at this
  exact this
theorem poly_half (z : Nat) (hz : z < 4294967296) : bits .xor .u32 ((z : Int) / 2) 3988292384 = ((z / 2 ^^^ poly : Nat) : Int) := by
  have := xor32 (z / 2) poly (by omega) (by decide)
  rw [← this]
  rfl
theorem refBit_yes {z b j : Nat} (h : (bits .and .u32 (bits .xor .u32 (z : Int) ((b : Int) / 2 ^ j % 4294967296)) 1 == 1) = true) (hz : z < 4294967296) (hb : b < 256) :
    bits .xor .u32 ((z : Int) / 2) 3988292384 = ((refBit b z j : Nat) : Int) := by
  rw [odd_test z b j hz hb] at h
  have h2 : (z ^^^ (b / 2 ^ j)) % 2 = 1 := by have := beq_iff_eq.1 h; omega
  rw [poly_half z hz]; unfold refBit; rw [if_pos h2]
theorem refBit_no {z b j : Nat} (h : (bits .and .u32 (bits .xor .u32 (z : Int) ((b : Int) / 2 ^ j % 4294967296)) 1 == 1) = false) (hz : z < 4294967296) (hb : b < 256) :
    (z : Int) / 2 = ((refBit b z j : Nat) : Int) := by
  rw [odd_test z b j hz hb] at h
  have h2 : ¬ (z ^^^ (b / 2 ^ j)) % 2 = 1 := by have := beq_eq_false_iff_ne.1 h; omega
  unfold refBit; rw [if_neg h2]; omega
theorem refBit_lt (b z j : Nat) (hz : z < 4294967296) : refBit b z j < 4294967296 := by
  unfold refBit
  split
  · exact xor_lt (by omega) (by decide)
  · omega
theorem foldl_range_succ {α : Type} (f : α → Nat → α) (a : α) (j : Nat) : (List.range (j + 1)).foldl f a = f ((List.range j).foldl f a) j := by
  rw [List.range_succ, List.foldl_append]; rfl

set_option maxHeartbeats 800000 in
theorem rcrc_any (s : ByteArray) (w : World) (hs : s.size ≤ maxLen) :
    Calls Tryd.prog 12 #[.string s] w fun e w' => e = .returned (.int .u32 (crcW 0 s.data.toList : Nat)) ∧ w' = w := by
  unfold maxLen at hs
  go_enter Tryd.func12, Tryd.ntmps12
  go_wp2
  go_loop [3, 4, 5, 6] (fun x i _ _ => ∃ (k y : Nat), k ≤ s.size ∧ i = .int .i64 k ∧ x = .int .u32 y ∧ y < 4294967296 ∧ y = crcRaw ones32 (s.data.toList.take k)) (fun _ i _ _ => s.size - (intOf i).toNat)
  case atStart => exact ⟨0, 4294967295, Nat.zero_le _, rfl, rfl, by decide, rfl⟩
  case round =>
    obtain ⟨k, y, hk, rfl, rfl, hy, hyy⟩ := hrel
    have HY := hidM hyy
    clear hyy
    by_cases hlt : k < s.size
    · have hb := byte_lt s[k]
      go_wp2
      go_loop [3, 5, 6] (fun x i _ => ∃ (j z : Nat), j ≤ 8 ∧ i = .int .i64 j ∧ x = .int .u32 z ∧ z < 4294967296 ∧ z = (List.range j).foldl (refBit s[k].toNat) y) (fun _ i _ => 8 - (intOf i).toNat)
      case atStart => exact ⟨0, y, by omega, rfl, rfl, hy, rfl⟩
      case round =>
        obtain ⟨j, z, hj, rfl, rfl, hz, hzz⟩ := hrel
        have HZ := hidM hzz
        clear hzz
        by_cases hj8 : j < 8
        · go_wp2
          · go_round
            case rel =>
              have ht : (bits .and .u32 (bits .xor .u32 (z : Int) ((s[k].toNat : Int) / 2 ^ j % 4294967296)) 1 == 1) = true := by assumption
              exact ⟨j + 1, refBit s[k].toNat z j, by omega, by go_num, val_int (refBit_yes ht hz hb), refBit_lt _ _ _ hz, by rw [foldl_range_succ, ← HZ.out]⟩
            case measure => simp [intOf]; omega
          · go_round
            case rel =>
              have ht : (bits .and .u32 (bits .xor .u32 (z : Int) ((s[k].toNat : Int) / 2 ^ j % 4294967296)) 1 == 1) = false := by assumption
              exact ⟨j + 1, refBit s[k].toNat z j, by omega, by go_num, val_int (refBit_no ht hz hb), refBit_lt _ _ _ hz, by rw [foldl_range_succ, ← HZ.out]⟩
            case measure => simp [intOf]; omega
        · have HD : Hid (z = crcRaw ones32 (s.data.toList.take (k + 1))) := by
            have e8 : j = 8 := by omega
            subst e8
            unfold Hid
            rw [crcW_take ones32 s k hlt, ← HY.out, HZ.out]
            exact refByte_eq y s[k]
          go_wp2
          go_round
          case rel => exact ⟨k + 1, z, by omega, by go_num, rfl, hz, HD.out⟩
          case measure => simp [intOf]; omega
    · have HE : Hid (crcW 0 s.data.toList = flip32 y) := by
        unfold Hid crcW; rw [HY.out, List.take_of_length_le (by simp; omega)]; rfl
      have hfl : bits .xor .u32 (y : Int) 4294967295 = ((flip32 y : Nat) : Int) := by
        rw [flip32_eq, Nat.xor_comm]; exact xor32 _ _ hy ones32_lt
      generalize flip32 y = f at *
      go_wp2
      go_ret
      exact ⟨ret_int (by rw [HE.out]), rfl⟩

theorem cell_new (w : World) (v : Value) (t : TypeId) : (w.alloc (.cells #[v] t)).cell? ⟨w.heap.size, 0, none⟩ = some v := by simp

set_option maxHeartbeats 400000 in
theorem crc32_any (s : ByteArray) (w : World) (hs : s.size ≤ maxLen) (ht : Tab w) :
    Calls Tryd.prog 11 #[.string s] w fun e w' => e = .returned (.int .u32 (crcW 0 s.data.toList : Nat)) ∧ Below w.heap.size w w' := by
  go_enter Tryd.func11, Tryd.ntmps11
  go_wp2_with fail
  refine (crcWrite_any _ 0 s _ hs (by decide) (ht.alloc _) (cell_new w _ _) (by simp)).mono ?_
  rintro e w1 ⟨rfl, rfl⟩
  generalize hcc : crcW 0 s.data.toList = c at *
  have HCC := hidM hcc
  clear hcc
  go_wp2_with fail
  refine (crcSum_any _ c _ (cell_new w _ _)).mono ?_
  rintro e w2 ⟨rfl, rfl⟩
  go_wp2
  go_ret
  exact ⟨ret_int (by rw [HCC.out]), (Below.refl _ _).alloc (Nat.le_refl _) _⟩

set_option maxHeartbeats 400000 in
theorem told_any (b a : Nat) (w : World) (ha : a < 65521) (hcell : w.cell? ⟨b, 0, none⟩ = some (.int .u32 a)) :
    Calls Tryd.prog 35 #[.pointer (some ⟨b, 0, none⟩)] w fun e w' => e = .returned (.int .u32 ((a + 1) % 65521 : Nat)) ∧ w' = w := by
  go_enter Tryd.func35, Tryd.ntmps35
  go_wp2
  go_ret
  exact ⟨ret_int (by omega), rfl⟩

theorem or16' (d t : Nat) (hd : d < 65521) (ht : t < 65521) : bits .or .u32 ((d : Int) * 65536) (t : Int) = ((d * 65536 + t : Nat) : Int) := by
  rw [show (d : Int) * 65536 = ((d * 65536 : Nat) : Int) by omega, u32_or_nat _ _ (by omega) (by omega), nat_join 16 _ _ (by omega) (by omega)]

set_option maxHeartbeats 400000 in
theorem adlerSum_any (b a d : Nat) (w : World) (ha : a < 65521) (hd : d < 65521) (h0 : w.cell? ⟨b, 0, none⟩ = some (.int .u32 a)) (h1 : w.cell? ⟨b, 1, none⟩ = some (.int .u32 d)) :
    Calls Tryd.prog 18 #[.pointer (some ⟨b, 0, none⟩)] w fun e w' => e = .returned (.int .u32 (d * 65536 + (a + 1) % 65521 : Nat)) ∧ ∃ n, w' = w.drewN n := by
  go_enter Tryd.func18, Tryd.ntmps18
  go_wp2
  go_quiet ((go_at_call 35; exact Calls.quiet_of_same (told_any b a _ ha (by simpa using h0))))
  go_wp2
  go_ret
  have e := or16' d ((a + 1) % 65521) hd (by omega)
  rw [show (((a + 1) % 65521 : Nat) : Int) = ((a : Int) + 1) % 65521 by omega] at e
  exact ⟨ret_int e, nq, rfl⟩

set_option maxHeartbeats 800000 in
theorem radler_any (s : ByteArray) (w : World) (hs : s.size ≤ maxLen) :
    Calls Tryd.prog 14 #[.string s] w fun e w' => e = .returned (.int .u32 (adSum s.data.toList : Nat)) ∧ w' = w := by
  unfold maxLen at hs
  go_enter Tryd.func14, Tryd.ntmps14
  go_wp2
  go_loop [3, 4, 5] (fun x y i => ∃ (k p q : Nat), k ≤ s.size ∧ i = .int .i64 k ∧ x = .int .i64 p ∧ y = .int .i64 q ∧ p < 65521 ∧ q < 65521 ∧ (p, q) = adR (1, 0) (s.data.toList.take k)) (fun _ _ i => s.size - (intOf i).toNat)
  case atStart => exact ⟨0, 1, 0, Nat.zero_le _, rfl, rfl, rfl, by omega, by omega, rfl⟩
  case round =>
    obtain ⟨k, p, q, hk, rfl, rfl, rfl, hp, hq, hr⟩ := hrel
    have HR := hidM hr
    clear hr
    by_cases hlt : k < s.size
    · have hb := byte_lt s[k]
      have HD : Hid (((p + s[k].toNat) % 65521, (q + (p + s[k].toNat) % 65521) % 65521) = adR (1, 0) (s.data.toList.take (k + 1))) := by
        unfold Hid; rw [adR_take (1, 0) s k hlt, ← HR.out]; rfl
      go_wp2
      go_round
      case rel => exact ⟨k + 1, _, _, by omega, by go_num, val_int (by omega), val_int (by omega), by omega, by omega, HD.out⟩
      case measure => simp [intOf]; omega
    · have HE : Hid (adSum s.data.toList = q * 65536 + p) := by
        have : adR (1, 0) s.data.toList = (p, q) := by rw [HR.out, List.take_of_length_le (by simp; omega)]
        unfold Hid adSum; rw [this]
      go_wp2
      go_ret
      exact ⟨ret_int (by rw [HE.out]; omega), rfl⟩

/-- Of all memory block b alone may have turned; no block is new. -/
structure Only (b : Nat) (w w' : World) : Prop where
  os : w'.os = w.os
  tape : w'.tape = w.tape
  output : w'.output = w.output
  size : w'.heap.size = w.heap.size
  block : ∀ k, k ≠ b → w'.heap[k]? = w.heap[k]?
theorem Only.refl (b : Nat) (w : World) : Only b w w := ⟨rfl, rfl, rfl, rfl, fun _ _ => rfl⟩
theorem Only.drewN {b : Nat} {w w' : World} (h : Only b w w') (n : Nat) : Only b w (w'.drewN n) := ⟨h.os, h.tape, h.output, h.size, h.block⟩
theorem Only.setCell {b : Nat} {w w' : World} (h : Only b w w') (o : Nat) (v : Value) : Only b w (w'.setCell ⟨b, o, none⟩ v) :=
  ⟨h.os, h.tape, h.output, by simpa using h.size, fun k hk => (Below.heap_setCell w' ⟨b, o, none⟩ v k hk).trans (h.block k hk)⟩
theorem Only.below {b B : Nat} {w w' : World} (h : Only b w w') (hB : B ≤ b) : Below B w w' :=
  ⟨h.os, h.tape, h.output, by rw [h.size]; exact Nat.le_refl _, fun k hk => h.block k (by omega)⟩
theorem Only.cell {b : Nat} {w w' : World} (h : Only b w w') {p : Addr} (hp : p.block ≠ b) : w'.cell? p = w.cell? p := World.cell?_of_block (h.block _ hp)
theorem Only.frozen {b : Nat} {w w' : World} (h : Only b w w') {p : Addr} (hp : p.block ≠ b) : w'.frozen? p = w.frozen? p := World.frozen?_of_block (h.block _ hp)
theorem Tab.only {w w' : World} (h : Tab w) {b : Nat} (ho : Only b w w') (hb : 0 < b) : Tab w' :=
  ⟨by rw [ho.size]; exact h.1, fun i hi => (ho.cell (p := ⟨0, i, none⟩) (by show 0 ≠ b; omega)).trans (h.2 i hi)⟩

/-- A box of Adler's: a is one less than it is told. -/
structure AdBox (w : World) (b : Nat) (s : Nat × Nat) : Prop where
  lt1 : s.1 < 65521
  lt2 : s.2 < 65521
  c0 : w.cell? ⟨b, 0, none⟩ = some (.int .u32 ((s.1 + 65520) % 65521 : Nat))
  c1 : w.cell? ⟨b, 1, none⟩ = some (.int .u32 (s.2 : Nat))
  f0 : w.frozen? ⟨b, 0, none⟩ = false
  f1 : w.frozen? ⟨b, 1, none⟩ = false
theorem AdBox.only {w w' : World} {b c : Nat} {s : Nat × Nat} (h : AdBox w b s) (ho : Only c w w') (hne : b ≠ c) : AdBox w' b s :=
  ⟨h.lt1, h.lt2, (ho.cell (p := ⟨b, 0, none⟩) hne).trans h.c0, (ho.cell (p := ⟨b, 1, none⟩) hne).trans h.c1, (ho.frozen (p := ⟨b, 0, none⟩) hne).trans h.f0, (ho.frozen (p := ⟨b, 1, none⟩) hne).trans h.f1⟩
theorem AdBox.below {w w' : World} {b B : Nat} {s : Nat × Nat} (h : AdBox w b s) (ho : Below B w w') (hlt : b < B) : AdBox w' b s :=
  ⟨h.lt1, h.lt2, (ho.cell (p := ⟨b, 0, none⟩) hlt).trans h.c0, (ho.cell (p := ⟨b, 1, none⟩) hlt).trans h.c1, (ho.frozen (p := ⟨b, 0, none⟩) hlt).trans h.f0, (ho.frozen (p := ⟨b, 1, none⟩) hlt).trans h.f1⟩
theorem adBox_stored {w : World} {b n x y : Nat} {u v : Value} (s : Nat × Nat) (h1 : s.1 < 65521) (h2 : s.2 < 65521) (hx : x = (s.1 + 65520) % 65521) (hy : y = s.2)
    (c0 : w.cell? ⟨b, 0, none⟩ = some u) (c1 : w.cell? ⟨b, 1, none⟩ = some v) (f0 : w.frozen? ⟨b, 0, none⟩ = false) (f1 : w.frozen? ⟨b, 1, none⟩ = false) :
    AdBox (((w.drewN n).setCell ⟨b, 0, none⟩ (.int .u32 (x : Int))).setCell ⟨b, 1, none⟩ (.int .u32 (y : Int))) b s := by
  have g0 : (w.drewN n).cell? ⟨b, 0, none⟩ = some u := c0
  have g1 : (w.drewN n).cell? ⟨b, 1, none⟩ = some v := c1
  have k0 : (((w.drewN n).setCell ⟨b, 0, none⟩ (.int .u32 (x : Int))).setCell ⟨b, 1, none⟩ (.int .u32 (y : Int))).cell? ⟨b, 0, none⟩ = some (.int .u32 (x : Int)) := by
    rw [World.cell?_setCell_other _ _ _ _ (by simp), World.cell?_setCell_same _ _ _ g0]
  have k1 : (((w.drewN n).setCell ⟨b, 0, none⟩ (.int .u32 (x : Int))).setCell ⟨b, 1, none⟩ (.int .u32 (y : Int))).cell? ⟨b, 1, none⟩ = some (.int .u32 (y : Int)) := by
    rw [World.cell?_setCell_same (u := v)]
    rw [World.cell?_setCell_other _ _ _ _ (by simp)]
    exact g1
  have l0 : (((w.drewN n).setCell ⟨b, 0, none⟩ (.int .u32 (x : Int))).setCell ⟨b, 1, none⟩ (.int .u32 (y : Int))).frozen? ⟨b, 0, none⟩ = false := by
    rw [World.frozen?_setCell, World.frozen?_setCell]; exact f0
  have l1 : (((w.drewN n).setCell ⟨b, 0, none⟩ (.int .u32 (x : Int))).setCell ⟨b, 1, none⟩ (.int .u32 (y : Int))).frozen? ⟨b, 1, none⟩ = false := by
    rw [World.frozen?_setCell, World.frozen?_setCell]; exact f1
  generalize ((w.drewN n).setCell ⟨b, 0, none⟩ (.int .u32 (x : Int))).setCell ⟨b, 1, none⟩ (.int .u32 (y : Int)) = W at *
  rw [hx] at k0
  rw [hy] at k1
  exact ⟨h1, h2, k0, k1, l0, l1⟩

set_option maxHeartbeats 800000 in
theorem adlerWrite_core (b a d : Nat) (s : ByteArray) (w : World) (hs : s.size ≤ maxLen) (ha : a < 65521) (hd : d < 65521)
    (h0 : w.cell? ⟨b, 0, none⟩ = some (.int .u32 a)) (h1 : w.cell? ⟨b, 1, none⟩ = some (.int .u32 d)) (hf0 : w.frozen? ⟨b, 0, none⟩ = false) (hf1 : w.frozen? ⟨b, 1, none⟩ = false) :
    Calls Tryd.prog 16 #[.pointer (some ⟨b, 0, none⟩), .string s] w fun e w' => e = .returned (.tuple #[]) ∧
      ∃ n, w' = ((w.drewN n).setCell ⟨b, 0, none⟩ (.int .u32 (((adR ((a + 1) % 65521, d) s.data.toList).1 + 65520) % 65521 : Nat))).setCell ⟨b, 1, none⟩ (.int .u32 ((adR ((a + 1) % 65521, d) s.data.toList).2 : Nat)) := by
  unfold maxLen at hs
  go_enter Tryd.func16, Tryd.ntmps16
  go_wp2
  go_quiet ((go_at_call 35; exact Calls.quiet_of_same (told_any b a _ ha (by simpa using h0))))
  go_wp2
  go_loop [4, 5, 6] (fun x y i => ∃ (k p q : Nat), k ≤ s.size ∧ i = .int .i64 k ∧ x = .int .u32 p ∧ y = .int .u32 q ∧ p < 65521 ∧ q < 65521 ∧ (p, q) = adR ((a + 1) % 65521, d) (s.data.toList.take k)) (fun _ _ i => s.size - (intOf i).toNat)
  case atStart => exact ⟨0, _, _, Nat.zero_le _, rfl, rfl, rfl, by omega, by omega, rfl⟩
  case round =>
    obtain ⟨k, p, q, hk, rfl, rfl, rfl, hp, hq, hr⟩ := hrel
    have HR := hidM hr
    clear hr
    by_cases hlt : k < s.size
    · have hb := byte_lt s[k]
      have HD : Hid (((p + s[k].toNat) % 65521, (q + (p + s[k].toNat) % 65521) % 65521) = adR ((a + 1) % 65521, d) (s.data.toList.take (k + 1))) := by
        unfold Hid; rw [adR_take _ s k hlt, ← HR.out]; rfl
      go_wp2
      go_round
      case rel => exact ⟨k + 1, _, _, by omega, by go_num, val_int (by omega), val_int (by omega), by omega, by omega, HD.out⟩
      case measure => simp [intOf]; omega
    · have HE : Hid (adR ((a + 1) % 65521, d) s.data.toList = (p, q)) := by
        unfold Hid; rw [HR.out, List.take_of_length_le (by simp; omega)]
      go_wp2
      go_end0
      exact ⟨rfl, nq, by rw [HE.out]; simp only [show (p : Int) + 65521 - 1 = (p : Int) + 65520 by omega]⟩

theorem adlerWrite_any (b : Nat) (s0 : Nat × Nat) (s : ByteArray) (w : World) (hs : s.size ≤ maxLen) (h : AdBox w b s0) :
    Calls Tryd.prog 16 #[.pointer (some ⟨b, 0, none⟩), .string s] w fun e w' => e = .returned (.tuple #[]) ∧ Only b w w' ∧ AdBox w' b (adR s0 s.data.toList) := by
  have hl := adR_lt s.data.toList s0 h.lt1 h.lt2
  have e1 : ((s0.1 + 65520) % 65521 + 1) % 65521 = s0.1 := by have := h.lt1; omega
  refine (adlerWrite_core b _ _ s w hs (Nat.mod_lt _ (by decide)) h.lt2 h.c0 h.c1 h.f0 h.f1).mono ?_
  rintro e w' ⟨rfl, n, rfl⟩
  rw [e1]
  refine ⟨rfl, (((Only.refl b w).drewN n).setCell 0 _).setCell 1 _, adBox_stored _ hl.1 hl.2 rfl rfl h.c0 h.c1 h.f0 h.f1⟩

theorem adlerSum_box (b : Nat) (s0 : Nat × Nat) (w : World) (h : AdBox w b s0) :
    Calls Tryd.prog 18 #[.pointer (some ⟨b, 0, none⟩)] w fun e w' => e = .returned (.int .u32 (s0.2 * 65536 + s0.1 : Nat)) ∧ ∃ n, w' = w.drewN n := by
  have e1 : ((s0.1 + 65520) % 65521 + 1) % 65521 = s0.1 := by have := h.lt1; omega
  have := adlerSum_any b _ _ w (Nat.mod_lt _ (by decide)) h.lt2 h.c0 h.c1
  rw [e1] at this
  exact this

theorem adBox_new (w : World) : AdBox (w.alloc (.cells #[.int .u32 0, .int .u32 0] 31)) w.heap.size (1, 0) :=
  ⟨by decide, by decide, by simp, by simp, by simp, by simp⟩

set_option maxHeartbeats 400000 in
theorem adler32_any (s : ByteArray) (w : World) (hs : s.size ≤ maxLen) :
    Calls Tryd.prog 13 #[.string s] w fun e w' => e = .returned (.int .u32 (adSum s.data.toList : Nat)) ∧ Below w.heap.size w w' := by
  have hbox := hidM (adBox_new w)
  go_enter Tryd.func13, Tryd.ntmps13
  go_wp2_with fail
  refine (adlerWrite_any _ (1, 0) s _ hs hbox.out).mono ?_
  rintro e w1 ⟨rfl, ho, hb⟩
  have HB := hidM hb
  have HL : Hid (Below w.heap.size w w1) := ((Below.refl _ _).alloc (Nat.le_refl _) _).trans (ho.below (Nat.le_refl _))
  have HE : Hid (adSum s.data.toList = (adR (1, 0) s.data.toList).2 * 65536 + (adR (1, 0) s.data.toList).1) := rfl
  clear hb ho hbox
  generalize adR (1, 0) s.data.toList = r at *
  go_wp2_with fail
  refine (adlerSum_box _ r _ HB.out).mono ?_
  rintro e w2 ⟨rfl, n, rfl⟩
  go_wp2
  go_ret
  exact ⟨ret_int (by rw [HE.out]; omega), below_drewN HL.out n⟩

end Go.Proofs.YtbodjopdhciaeaaDoor
