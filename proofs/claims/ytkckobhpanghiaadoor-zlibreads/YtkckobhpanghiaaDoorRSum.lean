/-
  The document's Little, Turn, Big, Adler32, in this seat.
-/
import Derived.Test.YtkckobhpanghiaaDoorStoB
import Derived.Laws.AppendOwn
namespace Go.Proofs.YtkckobhpanghiaaDoor
open Go.RowKit

set_option maxRecDepth 100000 in
theorem rev_all (s : ByteArray) (k : Nat) (h : k < s.size) :
    (s.data.toList.drop k).reverse = (s.data.toList.drop (k + 1)).reverse ++ [s[k]] := by
  rw [List.drop_eq_getElem_cons (i := k) (by simp; omega), List.reverse_cons]
  rfl

set_option maxRecDepth 100000 in
theorem cell_new_one (w : World) (v : Value) : ∀ j u, [v][j]? = some u → (w.alloc (.cells #[v] 5)).cell? ((⟨w.heap.size, 0, none⟩ : Addr).add j) = some u := by
  intro j u hj
  match j, hj with
  | 0, hj => simp at hj; subst hj; simp [Addr.add]

set_option maxRecDepth 100000 in
theorem own_empty (w : World) : OwnB (w.alloc (.cells #[] 5)) w.heap.size (.slice (some ⟨w.heap.size, 0, none⟩) 0 0) [] :=
  World.ownsRow_lit w #[] 0 (Nat.le_refl _) (Nat.zero_le _) rfl

/-- What one append of a byte leaves. -/
theorem own_push {w1 : World} {B : Nat} {v' : Value} {P : List UInt8} {c : UInt8} (h : w1.ownsRow B 5 1 v' (P.length + 1) (bytesV P ++ [.int .u8 (c.toNat : Int)])) : OwnB w1 B v' (P ++ [c]) := by
  unfold OwnB
  rw [bytesV_app]
  simpa [bytesV] using h

set_option maxRecDepth 100000 in
theorem below_push {w wr w1 : World} {B : Nat} {v : Value} {P : List UInt8} {o : Obj} (hown : OwnB wr B v P) (hb : Below B w wr) (hB : B ≤ wr.heap.size) (hg : (wr.alloc o).grownBy w1 v.ownBlock) : Below B w w1 :=
  (hb.alloc hB o).grown hg (by simp; omega) (fun k hk => (World.ownsRow.lt hown k hk).1)

set_option maxHeartbeats 400000 in
set_option maxRecDepth 100000 in
theorem rlittle_any (x n : Nat) (w : World) (hx : x < M64) (h1 : n ≤ 2147483647) :
    Calls Tryd.prog 73 #[.int .u64 x, .int .i64 n] w fun e w' => e = .returned (.string ⟨(littleL x n).toArray⟩) ∧ Below w.heap.size w w' := by
  obtain ⟨i0, hi, hz0, hz1, hz2⟩ := info_parts Tryd.info5
  have hst := own_empty w
  have hb0 : Below w.heap.size w (w.alloc (.cells #[] 5)) := (Below.refl _ _).alloc (Nat.le_refl _) _
  go_enter Tryd.func73, Tryd.ntmps73
  go_wp2
  go_loopw [0, 5, 6] (fun xv v i wr => ∃ (k y : Nat) (P : List UInt8), y < M64 ∧ k + P.length = n ∧ i = .int .i64 (P.length : Nat) ∧ xv = .int .u64 y ∧ littleL x n = P ++ littleL y k ∧ OwnB wr w.heap.size v P ∧ Below w.heap.size w wr)
    (fun _ _ i _ => n - (intOf i).toNat)
  case atStart => exact ⟨n, x, [], hx, by simp, rfl, rfl, by simp, hst, hb0⟩
  case round =>
    obtain ⟨k, y, P, hy, hk, rfl, rfl, hT, hown, hbr⟩ := hrel
    clear hst hb0
    have HY := hidM hy
    clear hy
    have HT := hidM hT
    clear hT
    have hB := hbr.size
    obtain ⟨p, hp⟩ : ∃ p, p = P.length := ⟨_, rfl⟩
    have HP := hidM hp
    rcases k with _ | k
    · have hconv := conv_own hown
      rw [← hp]
      have hge : ¬ p < n := by omega
      have HF : Hid (littleL x n = P) := by unfold Hid; rw [HT.out]; simp [littleL]
      clear hown HT hp
      go_wp2
      go_ret
      exact ⟨by rw [HF.out]; rfl, hbr⟩
    · rw [← hp]
      have hlt : p < n := by omega
      clear hp
      go_wp2_with (first
        | (at_builtin; refine wpList_append_own _ rfl _ _ 34 rfl w.heap.size 5 i0 (.int .u8 0) 1 1 Tryd.underlying34 hi hz0 hz1 hz2 rfl (by decide) _ _ _ rfl (hown.alloc _) ⟨wr.heap.size, 0, none⟩ 1 1 [.int .u8 ((UInt8.ofNat (y % 256)).toNat : Int)] ?c0 rfl ?c1 ?c2 ?c3 ?c4 ?c5 ?_))
      case c0 => rfl
      case c1 => rw [show ((UInt8.ofNat (y % 256)).toNat : Int) = (y : Int) % 256 by rw [byte_of]; omega]; exact cell_new_one wr _
      case c2 => intro u hu; simp at hu; subst hu; rfl
      case c3 => have := HP.out; unfold maxLen; omega
      case c4 => have := HP.out; omega
      case c5 => simp; omega
      intro v' w1 hown' hgrow _
      have HO : Hid (OwnB w1 w.heap.size v' (P ++ [UInt8.ofNat (y % 256)])) := own_push (by rw [show ((UInt8.ofNat (y % 256)).toNat : Int) = (y : Int) % 256 by rw [byte_of]; omega]; exact hown')
      have HB := hidM (below_push hown hbr hB hgrow)
      clear hown' hgrow hown hbr hB
      go_wp2
      go_roundw
      case rel => exact ⟨k, y / 256, P ++ [UInt8.ofNat (y % 256)], by have := HY.out; unfold M64 at *; omega, by simp; omega, val_int (by simp; rw [HP.out]), val_int (by have := HY.out; unfold M64 at this; rw [u64_wrap]; omega), by rw [HT.out]; simp [littleL], HO.out, HB.out⟩
      case measure => simp [intOf]; omega

set_option maxHeartbeats 400000 in
set_option maxRecDepth 100000 in
theorem turn_any (s : ByteArray) (w : World) (hs : s.size ≤ 140737488355328) :
    Calls Tryd.prog 72 #[.string s] w fun e w' => e = .returned (.string ⟨s.data.toList.reverse.toArray⟩) ∧ Below w.heap.size w w' := by
  obtain ⟨i0, hi, hz0, hz1, hz2⟩ := info_parts Tryd.info5
  have hst := own_empty w
  have hb0 : Below w.heap.size w (w.alloc (.cells #[] 5)) := (Below.refl _ _).alloc (Nat.le_refl _) _
  go_enter Tryd.func72, Tryd.ntmps72
  go_wp2
  go_loopw [3, 4] (fun v i wr => ∃ (k : Nat) (P : List UInt8), k ≤ s.size ∧ P = (s.data.toList.drop k).reverse ∧ i = .int .i64 ((k : Int) - 1) ∧ OwnB wr w.heap.size v P ∧ Below w.heap.size w wr)
    (fun _ i _ => (intOf i + 1).toNat)
  case atStart => exact ⟨s.size, [], Nat.le_refl _, by rw [List.drop_of_length_le (by simp)]; rfl, rfl, hst, hb0⟩
  case round =>
    obtain ⟨k, P, hk, hP, rfl, hown, hbr⟩ := hrel
    clear hst hb0
    have HP := hidM hP
    have hB := hbr.size
    rcases k with _ | k
    · have hconv := conv_own hown
      have HF : Hid (s.data.toList.reverse = P) := by unfold Hid; rw [HP.out]; rfl
      clear hown HP hP
      go_wp2
      go_ret
      exact ⟨by rw [HF.out]; rfl, hbr⟩
    · have hks : k < s.size := by omega
      have e1 : ((k + 1 : Nat) : Int) - 1 = (k : Int) := by omega
      simp only [e1]
      have hl : P.length + k + 1 = s.size := by rw [hP]; simp; omega
      have HL := hidM hl
      clear e1 hP hl
      go_wp2_with (first
        | (at_builtin; refine wpList_append_own _ rfl _ _ 34 rfl w.heap.size 5 i0 (.int .u8 0) 1 1 Tryd.underlying34 hi hz0 hz1 hz2 rfl (by decide) _ _ _ rfl (hown.alloc _) ⟨wr.heap.size, 0, none⟩ 1 1 [.int .u8 (s[k].toNat : Int)] ?c0 rfl ?c1 ?c2 ?c3 ?c4 ?c5 ?_))
      case c0 => rfl
      case c1 => exact cell_new_one wr _
      case c2 => intro u hu; simp at hu; subst hu; rfl
      case c3 => have := HL.out; unfold maxLen; omega
      case c4 => have := HL.out; omega
      case c5 => simp; omega
      intro v' w1 hown' hgrow _
      have HO := hidM (own_push hown')
      have HB := hidM (below_push hown hbr hB hgrow)
      clear hown' hgrow hown hbr hB
      go_wp2
      go_roundw
      case rel => exact ⟨k, P ++ [s[k]], by omega, by rw [HP.out, rev_all s k hks], by go_num, HO.out, HB.out⟩
      case measure => simp [intOf]

set_option maxHeartbeats 400000 in
set_option maxRecDepth 100000 in
theorem rbig_any (x n : Nat) (w : World) (hx : x < M64) (h1 : n ≤ 2147483647) :
    Calls Tryd.prog 44 #[.int .u64 x, .int .i64 n] w fun e w' => e = .returned (.string ⟨(bigL x n).toArray⟩) ∧ Below w.heap.size w w' := by
  go_enter Tryd.func44, Tryd.ntmps44
  go_wp2_with fail
  refine (rlittle_any x n _ hx h1).mono ?_
  rintro e w1 ⟨rfl, hb1⟩
  go_wp2_with fail
  refine (turn_any _ _ (by show (littleL x n).toArray.size ≤ _; simp [littleL_len]; omega)).mono ?_
  rintro e w2 ⟨rfl, hb2⟩
  have hb3 : Below w.heap.size w w2 := hb1.trans (hb2.mono hb1.size)
  clear hb1 hb2
  go_wp2
  go_ret
  exact ⟨rfl, hb3⟩

set_option maxHeartbeats 800000 in
set_option maxRecDepth 100000 in
theorem radler_any (s : ByteArray) (w : World) (hs : s.size ≤ maxLen) :
    Calls Tryd.prog 45 #[.string s] w fun e w' => e = .returned (.int .u32 (adSum s.data.toList : Nat)) ∧ w' = w := by
  unfold maxLen at hs
  go_enter Tryd.func45, Tryd.ntmps45
  go_wp2
  go_loop [3, 4, 5] (fun x y i => ∃ (k p q : Nat), k ≤ s.size ∧ i = .int .i64 k ∧ x = .int .i64 p ∧ y = .int .i64 q ∧ p < 65521 ∧ q < 65521 ∧ (p, q) = adR (1, 0) (s.data.toList.take k)) (fun _ _ i => s.size - (intOf i).toNat)
  case atStart => exact ⟨0, 1, 0, Nat.zero_le _, rfl, rfl, rfl, by omega, by omega, rfl⟩
  case round =>
    obtain ⟨k, p, q, hk, rfl, rfl, rfl, hp, hq, hr⟩ := hrel
    have HR := hidM hr
    clear hr
    by_cases hlt : k < s.size
    · have hb := byte_lt s[k]
      have HD : Hid (((p + s[k].toNat) % 65521, (q + (p + s[k].toNat) % 65521) % 65521) = adR (1, 0) (s.data.toList.take (k + 1))) := by
        unfold Hid; rw [adR_take (1, 0) s k hlt, ← HR.out]; rfl
      go_wp2
      go_round
      case rel => exact ⟨k + 1, _, _, by omega, by go_num, val_int (by omega), val_int (by omega), by omega, by omega, HD.out⟩
      case measure => simp [intOf]; omega
    · have HE : Hid (adSum s.data.toList = q * 65536 + p) := by
        have : adR (1, 0) s.data.toList = (p, q) := by rw [HR.out, List.take_of_length_le (by simp; omega)]
        unfold Hid adSum; rw [this]
      go_wp2
      go_ret
      exact ⟨ret_int (by rw [HE.out]; omega), rfl⟩

end Go.Proofs.YtkckobhpanghiaaDoor
