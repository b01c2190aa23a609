/-
  The law InflateReads, walked.
  sums in this seat: Little.
  Walks of inflate, the writing side: Stored.
  Walks of inflate, the writing side: Stored; zlib's Plain.
  The document's Little, Turn, Big, Adler32, in this seat.
  Walks of the document's zlib: a head, a frame that is read.
-/
import Derived.Test.YtddoemeellbhaaaGreatDoorJRinM
import Derived.Test.YtddoemeellbhaaaGreatDoorRinK
import Derived.Test.YtddoemeellbhaaaGreatDoorJZlbB
import Derived.Test.YtddoemeellbhaaaGreatDoorJInfR
import Derived.Laws.AppendOwn
namespace Go.Proofs.YtddoemeellbhaaaGreatDoor
open Go.RowKit
theorem rinflate_any (s : ByteArray) (a m : Int) (w : World) (hs : s.size ≤ 100000) :
    Calls Tryz.prog 57 #[.string s, .int .i64 a, .int .i64 m] w fun e w' => InfPost s a m e ∧ Below w.heap.size w w' := rinflate_of dyn_any s a m w hs
theorem InfQ.one {l : List UInt8} {a m : Int} {r r' : List UInt8 × Nat × Nat} (h : InfQ l a m r) (h' : InfQ l a m r') : r = r' := by
  rcases h with ⟨h1, rfl⟩ | ⟨A, M, rfl, rfl, hA, hM, ⟨n, _, hr, rfl⟩ | ⟨t, o, hr, _,_, rfl⟩⟩
  · rcases h' with ⟨_, rfl⟩ | ⟨A, M, rfl, rfl, hA, hM, _⟩
    · rfl
    · omega
  · exact (h'.runBad hA hM hr).symm
  · exact (h'.run hA hM hr).symm
end Go.Proofs.YtddoemeellbhaaaGreatDoor
namespace Go.Proofs.YtddoemeellbhaaaGreatDoor
open Go.RowKit
end Go.Proofs.YtddoemeellbhaaaGreatDoor
namespace Go.Proofs.YtddoemeellbhaaaGreatDoor
open Go.RowKit
theorem WAtG.later {w w' : World} {b N T : Nat} (h : WAtG w b N T []) (hb : Below w.heap.size w w') : WAtG w' b N T [] ∧ b < w.heap.size := by
  obtain ⟨v, F, q, hh, hw, h1, h2, h3, h4, _⟩ := h
  exact ⟨⟨v, F, q, hh, hw.below hb, h1, h2, h3, h4, fun p hp => by simp at hp⟩, hw.lt⟩
end Go.Proofs.YtddoemeellbhaaaGreatDoor
namespace Go.Proofs.YtddoemeellbhaaaGreatDoor
open Go.RowKit
/-- Read of a frame whose stream is told -/
theorem ZQ.good {l : List UInt8} {A M t : Nat} {o : List UInt8} {r : List UInt8 × Nat × Nat} (h : ZQ l A M r) (hA : A + 2 ≤ l.length) (hM : M ≤ 65536) (hh : headB (l.getD A 0).toNat (l.getD (A + 1) 0).toNat = true)
    (hr : Run (l.drop (A + 2)) M (.blk false) 0 [] (.good t o)) (hl : A + 2 + (t + 7) / 8 + 4 ≤ l.length) (hz : (l.drop (A + 2 + (t + 7) / 8)).take 4 = zsum o) : r = (o, (t + 7) / 8 + 6, 0) := by
  rcases h with ⟨h, _⟩ | ⟨A', M', ha, hm, _,_, h⟩
  · omega
  · obtain rfl : A = A' := by omega
    obtain rfl : M = M' := by omega
    rcases h with ⟨h, _⟩ | ⟨_, h, _⟩ | ⟨_,_, o', n, e, hq, h⟩
    · omega
    · rw [hh] at h; cases h
    · have h2 := hq.run (by omega) hM hr
      simp only [Prod.mk.injEq] at h2
      obtain ⟨rfl, rfl, rfl⟩ := h2
      rcases h with ⟨h, _⟩ | ⟨_, h, _⟩ | ⟨_,_, h, _⟩ | ⟨_,_,_, h⟩
      · exact absurd rfl h
      · omega
      · exact absurd hz h
      · exact h
end Go.Proofs.YtddoemeellbhaaaGreatDoor
namespace Go.Proofs.YtddoemeellbhaaaGreatDoor
open Go.RowKit
set_option maxRecDepth 100000 in
theorem rev_all (s : ByteArray) (k : Nat) (h : k < s.size) :
    (s.data.toList.drop k).reverse = (s.data.toList.drop (k + 1)).reverse ++ [s[k]] := by
  rw [List.drop_eq_getElem_cons (i := k) (by simp; omega), List.reverse_cons]
  rfl
set_option maxRecDepth 100000 in
theorem cell_new_oneI (w : World) (v : Value) : ∀ j u, [v][j]? = some u → (w.alloc (.cells #[v] 5)).cell? ((⟨w.heap.size, 0, none⟩ : Addr).add j) = some u := by
  intro j u hj
  match j, hj with
  | 0, hj => simp at hj; subst hj; simp [Addr.add]
set_option maxRecDepth 100000 in
theorem own_emptyI (w : World) : OwnB (w.alloc (.cells #[] 5)) w.heap.size (.slice (some ⟨w.heap.size, 0, none⟩) 0 0) [] :=
  World.ownsRow_lit w #[] 0 (Nat.le_refl _) (Nat.zero_le _) rfl
/-- What one append of a byte leaves. -/
theorem own_pushI {w1 : World} {B : Nat} {v' : Value} {P : List UInt8} {c : UInt8} (h : w1.ownsRow B 5 1 v' (P.length + 1) (bytesV P ++ [.int .u8 (c.toNat : Int)])) : OwnB w1 B v' (P ++ [c]) := by
  unfold OwnB
  rw [bytesV_app]
  simpa [bytesV] using h
set_option maxRecDepth 100000 in
theorem below_pushI {w wr w1 : World} {B : Nat} {v : Value} {P : List UInt8} {o : Obj} (hown : OwnB wr B v P) (hb : Below B w wr) (hB : B ≤ wr.heap.size) (hg : (wr.alloc o).grownBy w1 v.ownBlock) : Below B w w1 :=
  (hb.alloc hB o).grown hg (by simp; omega) (fun k hk => (World.ownsRow.lt hown k hk).1)
set_option maxHeartbeats 400000 in
set_option maxRecDepth 100000 in
theorem rlittle_any (x n : Nat) (w : World) (hx : x < M64) (h1 : n ≤ 2147483647) :
    Calls Tryz.prog 110 #[.int .u64 x, .int .i64 n] w fun e w' => e = .returned (.string ⟨(littleL x n).toArray⟩) ∧ Below w.heap.size w w' := by
  obtain ⟨i0, hi, hz0, hz1, hz2⟩ := info_parts Tryz.info5
  have hst := own_emptyI w
  have hb0 : Below w.heap.size w (w.alloc (.cells #[] 5)) := (Below.refl _ _).alloc (Nat.le_refl _) _
  go_enter Tryz.func110, Tryz.ntmps110
  go_wp2
  go_loopw [0, 5, 6] (fun xv v i wr => ∃ (k y : Nat) (P : List UInt8), y < M64 ∧ k + P.length = n ∧ i = .int .i64 (P.length : Nat) ∧ xv = .int .u64 y ∧ littleL x n = P ++ littleL y k ∧ OwnB wr w.heap.size v P ∧ Below w.heap.size w wr)
    (fun _ _ i _ => n - (intOf i).toNat)
  case atStart => exact ⟨n, x, [], hx, by simp, rfl, rfl, by simp, hst, hb0⟩
  case round =>
    obtain ⟨k, y, P, hy, hk, rfl, rfl, hT, hown, hbr⟩ := hrel
    clear hst hb0
    have HY := hidM hy
    clear hy
    have HT := hidM hT
    clear hT
    have hB := hbr.size
    obtain ⟨p, hp⟩ : ∃ p, p = P.length := ⟨_, rfl⟩
    have HP := hidM hp
    rcases k with _ | k
    · have hconv := conv_own hown
      rw [← hp]
      have hge : ¬ p < n := by omega
      have HF : Hid (littleL x n = P) := by unfold Hid; rw [HT.out]; simp [littleL]
      clear hown HT hp
      go_wp2
      go_ret
      exact ⟨by rw [HF.out]; rfl, hbr⟩
    · rw [← hp]
      have hlt : p < n := by omega
      clear hp
      go_wp2_with (first
        | (at_builtin; refine wpList_append_own _ rfl _ _ 81 rfl w.heap.size 5 i0 (.int .u8 0) 1 1 Tryz.underlying81 hi hz0 hz1 hz2 rfl (by decide) _ _ _ rfl (hown.alloc _) ⟨wr.heap.size, 0, none⟩ 1 1 [.int .u8 ((UInt8.ofNat (y % 256)).toNat : Int)] ?c0 rfl ?c1 ?c2 ?c3 ?c4 ?c5 ?_))
      case c0 => rfl
      case c1 => rw [show ((UInt8.ofNat (y % 256)).toNat : Int) = (y : Int) % 256 by rw [byte_of]; omega]; exact cell_new_oneI wr _
      case c2 => intro u hu; simp at hu; subst hu; rfl
      case c3 => have := HP.out; unfold maxLen; omega
      case c4 => have := HP.out; omega
      case c5 => simp; omega
      intro v' w1 hown' hgrow _
      have HO : Hid (OwnB w1 w.heap.size v' (P ++ [UInt8.ofNat (y % 256)])) := own_pushI (by rw [show ((UInt8.ofNat (y % 256)).toNat : Int) = (y : Int) % 256 by rw [byte_of]; omega]; exact hown')
      have HB := hidM (below_pushI hown hbr hB hgrow)
      clear hown' hgrow hown hbr hB
      go_wp2
      go_roundw
      case rel => exact ⟨k, y / 256, P ++ [UInt8.ofNat (y % 256)], by have := HY.out; unfold M64 at *; omega, by simp; omega, val_int (by simp; rw [HP.out]), val_int (by have := HY.out; unfold M64 at this; rw [u64_wrap]; omega), by rw [HT.out]; simp [littleL], HO.out, HB.out⟩
      case measure => simp [intOf]; omega
set_option maxHeartbeats 400000 in
set_option maxRecDepth 100000 in
theorem turn_anyI (s : ByteArray) (w : World) (hs : s.size ≤ 140737488355328) :
    Calls Tryz.prog 109 #[.string s] w fun e w' => e = .returned (.string ⟨s.data.toList.reverse.toArray⟩) ∧ Below w.heap.size w w' := by
  obtain ⟨i0, hi, hz0, hz1, hz2⟩ := info_parts Tryz.info5
  have hst := own_emptyI w
  have hb0 : Below w.heap.size w (w.alloc (.cells #[] 5)) := (Below.refl _ _).alloc (Nat.le_refl _) _
  go_enter Tryz.func109, Tryz.ntmps109
  go_wp2
  go_loopw [3, 4] (fun v i wr => ∃ (k : Nat) (P : List UInt8), k ≤ s.size ∧ P = (s.data.toList.drop k).reverse ∧ i = .int .i64 ((k : Int) - 1) ∧ OwnB wr w.heap.size v P ∧ Below w.heap.size w wr)
    (fun _ i _ => (intOf i + 1).toNat)
  case atStart => exact ⟨s.size, [], Nat.le_refl _, by rw [List.drop_of_length_le (by simp)]; rfl, rfl, hst, hb0⟩
  case round =>
    obtain ⟨k, P, hk, hP, rfl, hown, hbr⟩ := hrel
    clear hst hb0
    have HP := hidM hP
    have hB := hbr.size
    rcases k with _ | k
    · have hconv := conv_own hown
      have HF : Hid (s.data.toList.reverse = P) := by unfold Hid; rw [HP.out]; rfl
      clear hown HP hP
      go_wp2
      go_ret
      exact ⟨by rw [HF.out]; rfl, hbr⟩
    · have hks : k < s.size := by omega
      have e1 : ((k + 1 : Nat) : Int) - 1 = (k : Int) := by omega
      simp only [e1]
      have hl : P.length + k + 1 = s.size := by rw [hP]; simp; omega
      have HL := hidM hl
      clear e1 hP hl
      go_wp2_with (first
        | (at_builtin; refine wpList_append_own _ rfl _ _ 81 rfl w.heap.size 5 i0 (.int .u8 0) 1 1 Tryz.underlying81 hi hz0 hz1 hz2 rfl (by decide) _ _ _ rfl (hown.alloc _) ⟨wr.heap.size, 0, none⟩ 1 1 [.int .u8 (s[k].toNat : Int)] ?c0 rfl ?c1 ?c2 ?c3 ?c4 ?c5 ?_))
      case c0 => rfl
      case c1 => exact cell_new_oneI wr _
      case c2 => intro u hu; simp at hu; subst hu; rfl
      case c3 => have := HL.out; unfold maxLen; omega
      case c4 => have := HL.out; omega
      case c5 => simp; omega
      intro v' w1 hown' hgrow _
      have HO := hidM (own_pushI hown')
      have HB := hidM (below_pushI hown hbr hB hgrow)
      clear hown' hgrow hown hbr hB
      go_wp2
      go_roundw
      case rel => exact ⟨k, P ++ [s[k]], by omega, by rw [HP.out, rev_all s k hks], by go_num, HO.out, HB.out⟩
      case measure => simp [intOf]
set_option maxHeartbeats 400000 in
set_option maxRecDepth 100000 in
theorem rbig_any (x n : Nat) (w : World) (hx : x < M64) (h1 : n ≤ 2147483647) :
    Calls Tryz.prog 58 #[.int .u64 x, .int .i64 n] w fun e w' => e = .returned (.string ⟨(bigL x n).toArray⟩) ∧ Below w.heap.size w w' := by
  go_enter Tryz.func58, Tryz.ntmps58
  go_wp2_with fail
  refine (rlittle_any x n _ hx h1).mono ?_
  rintro e w1 ⟨rfl, hb1⟩
  go_wp2_with fail
  refine (turn_anyI _ _ (by show (littleL x n).toArray.size ≤ _; simp [littleL_len]; omega)).mono ?_
  rintro e w2 ⟨rfl, hb2⟩
  have hb3 : Below w.heap.size w w2 := hb1.trans (hb2.mono hb1.size)
  clear hb1 hb2
  go_wp2
  go_ret
  exact ⟨rfl, hb3⟩
set_option maxHeartbeats 800000 in
set_option maxRecDepth 100000 in
theorem radler_any (s : ByteArray) (w : World) (hs : s.size ≤ maxLen) :
    Calls Tryz.prog 59 #[.string s] w fun e w' => e = .returned (.int .u32 (adSum s.data.toList : Nat)) ∧ w' = w := by
  unfold maxLen at hs
  go_enter Tryz.func59, Tryz.ntmps59
  go_wp2
  go_loop [3, 4, 5] (fun x y i => ∃ (k p q : Nat), k ≤ s.size ∧ i = .int .i64 k ∧ x = .int .i64 p ∧ y = .int .i64 q ∧ p < 65521 ∧ q < 65521 ∧ (p, q) = adR (1, 0) (s.data.toList.take k)) (fun _ _ i => s.size - (intOf i).toNat)
  case atStart => exact ⟨0, 1, 0, Nat.zero_le _, rfl, rfl, rfl, by omega, by omega, rfl⟩
  case round =>
    obtain ⟨k, p, q, hk, rfl, rfl, rfl, hp, hq, hr⟩ := hrel
    have HR := hidM hr
    clear hr
    by_cases hlt : k < s.size
    · have hb := byte_lt s[k]
      have HD : Hid (((p + s[k].toNat) % 65521, (q + (p + s[k].toNat) % 65521) % 65521) = adR (1, 0) (s.data.toList.take (k + 1))) := by
        unfold Hid; rw [adR_take (1, 0) s k hlt, ← HR.out]; rfl
      go_wp2
      go_round
      case rel => exact ⟨k + 1, _,_, by omega, by go_num, val_int (by omega), val_int (by omega), by omega, by omega, HD.out⟩
      case measure => simp [intOf]; omega
    · have HE : Hid (adSum s.data.toList = q * 65536 + p) := by
        have : adR (1, 0) s.data.toList = (p, q) := by rw [HR.out, List.take_of_length_le (by simp; omega)]
        unfold Hid adSum; rw [this]
      go_wp2
      go_ret
      exact ⟨ret_int (by rw [HE.out]; omega), rfl⟩
end Go.Proofs.YtddoemeellbhaaaGreatDoor
namespace Go.Proofs.YtddoemeellbhaaaGreatDoor
open Go.RowKit
set_option maxHeartbeats 2000000 in
set_option maxRecDepth 100000 in
theorem rhead_any (a b : Nat) (w : World) (ha : a < 256) (hb : b < 256) :
    Calls Tryz.prog 56 #[.int .i64 (a : Int), .int .i64 (b : Int)] w fun e w' => e = .returned (.bool (headB a b)) ∧ w' = w := by
  obtain ⟨r1, hr1⟩ : ∃ r, r = a % 16 := ⟨_, rfl⟩
  obtain ⟨q1, hq1⟩ : ∃ r, r = a / 16 := ⟨_, rfl⟩
  obtain ⟨p, hp⟩ : ∃ r, r = 256 * a := ⟨_, rfl⟩
  obtain ⟨n, hn⟩ : ∃ r, r = 256 * a + b := ⟨_, rfl⟩
  obtain ⟨r3, hr3⟩ : ∃ r, r = n % 31 := ⟨_, rfl⟩
  obtain ⟨q4, hq4⟩ : ∃ r, r = b / 32 := ⟨_, rfl⟩
  obtain ⟨r4, hr4⟩ : ∃ r, r = q4 % 2 := ⟨_, rfl⟩
  have HE : Hid (headB a b = decide (r1 = 8 ∧ q1 ≤ 7 ∧ r3 = 0 ∧ r4 = 0)) := by unfold Hid headB; rw [hr1, hq1, hr3, hn, hr4, hq4]
  have e1 : (a : Int) % 16 = (r1 : Int) := by omega
  have e1' : (a : Int).tmod 16 = (r1 : Int) := by rw [Int.tmod_eq_emod_of_nonneg (by omega)]; exact e1
  have e2 : (a : Int) / 16 = (q1 : Int) := by omega
  have e2' : (a : Int).tdiv 16 = (q1 : Int) := by rw [Int.tdiv_eq_ediv_of_nonneg (by omega)]; exact e2
  have e3 : (256 : Int) * (a : Int) = (p : Int) := by omega
  have e4 : (p : Int) + (b : Int) = (n : Int) := by omega
  have e5 : (n : Int) % 31 = (r3 : Int) := by omega
  have e5' : (n : Int).tmod 31 = (r3 : Int) := by rw [Int.tmod_eq_emod_of_nonneg (by omega)]; exact e5
  have e6 : (b : Int) / 32 = (q4 : Int) := by omega
  have e6' : (b : Int).tdiv 32 = (q4 : Int) := by rw [Int.tdiv_eq_ediv_of_nonneg (by omega)]; exact e6
  have e7 : (q4 : Int) % 2 = (r4 : Int) := by omega
  have e7' : (q4 : Int).tmod 2 = (r4 : Int) := by rw [Int.tmod_eq_emod_of_nonneg (by omega)]; exact e7
  have l1 : r1 < 16 := by omega
  have l2 : q1 < 16 := by omega
  have l3 : p < 65536 := by omega
  have l4 : n < 65536 := by omega
  have l5 : r3 < 31 := by omega
  have l6 : q4 < 8 := by omega
  have l7 : r4 < 2 := by omega
  clear hr1 hq1 hp hn hr3 hq4 hr4
  go_enter Tryz.func56, Tryz.ntmps56
  by_cases c1 : r1 = 8
  · have k1 : ((r1 : Int) == 8) = true := by simp; omega
    by_cases c2 : q1 ≤ 7
    · have k2 : (q1 : Int) ≤ 7 := by omega
      by_cases c3 : r3 = 0
      · have k3 : ((r3 : Int) == 0) = true := by simp; omega
        by_cases c4 : r4 = 0
        · have k4 : ((r4 : Int) == 0) = true := by simp; omega
          have HT : Hid (headB a b = true) := by unfold Hid; rw [HE.out]; exact decide_eq_true ⟨c1, c2, c3, c4⟩
          clear HE c1 c2 c3 c4
          go_wp2
          go_ret
          exact ⟨by rw [HT.out]; rfl, rfl⟩
        · have k4 : ((r4 : Int) == 0) = false := by simp; omega
          have HT : Hid (headB a b = false) := by unfold Hid; rw [HE.out]; exact decide_eq_false (fun h => c4 h.2.2.2)
          clear HE c1 c2 c3 c4
          go_wp2
          go_ret
          exact ⟨by rw [HT.out]; rfl, rfl⟩
      · have k3 : ((r3 : Int) == 0) = false := by simp; omega
        have HT : Hid (headB a b = false) := by unfold Hid; rw [HE.out]; exact decide_eq_false (fun h => c3 h.2.2.1)
        clear HE c1 c2 c3
        go_wp2
        go_ret
        exact ⟨by rw [HT.out]; rfl, rfl⟩
    · have k2 : ¬ (q1 : Int) ≤ 7 := by omega
      have HT : Hid (headB a b = false) := by unfold Hid; rw [HE.out]; exact decide_eq_false (fun h => c2 h.2.1)
      clear HE c1 c2
      go_wp2
      go_ret
      exact ⟨by rw [HT.out]; rfl, rfl⟩
  · have k1 : ((r1 : Int) == 8) = false := by simp; omega
    have HT : Hid (headB a b = false) := by unfold Hid; rw [HE.out]; exact decide_eq_false (fun h => c1 h.1)
    clear HE c1
    go_wp2
    go_ret
    exact ⟨by rw [HT.out]; rfl, rfl⟩
set_option maxHeartbeats 2000000 in
set_option maxRecDepth 100000 in
theorem rzread_any (s : ByteArray) (a m : Int) (w : World) (hs : s.size ≤ 100000) :
    Calls Tryz.prog 25 #[.string s, .int .i64 a, .int .i64 m] w fun e w' => ZPost s a m e ∧ Below w.heap.size w w' := by
  have hlen : s.data.toList.length = s.size := Array.length_toList
  have HLEN := hidM hlen
  clear hlen
  by_cases hbad : a < 0 ∨ (s.size : Int) < a ∨ m < 0 ∨ 65536 < m
  · have HQ : Hid (ZQ s.data.toList a m ([], 0, 1)) := .inl ⟨by rw [HLEN.out]; exact hbad, rfl⟩
    go_enter Tryz.func25, Tryz.ntmps25
    by_cases h1 : a < 0
    · as_aux_lemma =>
      go_wp2
      go_ret3
      exact ⟨⟨_, HQ.out, rfl⟩, Below.refl _ _⟩
    · by_cases h2 : (s.size : Int) < a
      · as_aux_lemma =>
        go_wp2
        go_ret3
        exact ⟨⟨_, HQ.out, rfl⟩, Below.refl _ _⟩
      · by_cases h3 : m < 0
        · as_aux_lemma =>
          go_wp2
          go_ret3
          exact ⟨⟨_, HQ.out, rfl⟩, Below.refl _ _⟩
        · as_aux_lemma =>
          have h4 : 65536 < m := by omega
          go_wp2
          go_ret3
          exact ⟨⟨_, HQ.out, rfl⟩, Below.refl _ _⟩
  · obtain ⟨A, rfl⟩ : ∃ A : Nat, a = A := ⟨a.toNat, by omega⟩
    obtain ⟨M, rfl⟩ : ∃ M : Nat, m = M := ⟨m.toNat, by omega⟩
    have h1 : A ≤ s.size := by omega
    have h2 : M ≤ 65536 := by omega
    have g1 : ¬ (A : Int) < 0 := by omega
    have g2 : ¬ (s.size : Int) < (A : Int) := by omega
    have g3 : ¬ (M : Int) < 0 := by omega
    have g4 : ¬ (65536 : Int) < (M : Int) := by omega
    have HW : Hid (∀ r, ((s.data.toList.length < A + 2 ∧ r = ([], 0, 6)) ∨
     (A + 2 ≤ s.data.toList.length ∧ headB (s.data.toList.getD A 0).toNat (s.data.toList.getD (A + 1) 0).toNat = false ∧ r = ([], 0, 3)) ∨
     (A + 2 ≤ s.data.toList.length ∧ headB (s.data.toList.getD A 0).toNat (s.data.toList.getD (A + 1) 0).toNat = true ∧ ∃ o n e, InfQ s.data.toList ((A + 2 : Nat) : Int) (M : Int) (o, n, e) ∧
       ((e ≠ 0 ∧ r = ([], 0, e)) ∨
        (e = 0 ∧ s.data.toList.length < A + 2 + n + 4 ∧ r = ([], 0, 6)) ∨
        (e = 0 ∧ A + 2 + n + 4 ≤ s.data.toList.length ∧ (s.data.toList.drop (A + 2 + n)).take 4 ≠ zsum o ∧ r = ([], 0, 5)) ∨
        (e = 0 ∧ A + 2 + n + 4 ≤ s.data.toList.length ∧ (s.data.toList.drop (A + 2 + n)).take 4 = zsum o ∧ r = (o, n + 6, 0))))) → ZQ s.data.toList (A : Int) (M : Int) r) :=
      fun r h => .inr ⟨A, M, rfl, rfl, by rw [HLEN.out]; exact h1, h2, h⟩
    clear hbad
    obtain ⟨d, hd⟩ : ∃ d, d = s.size - A := ⟨_, rfl⟩
    have e1 : (s.size : Int) - (A : Int) = (d : Int) := by omega
    go_enter Tryz.func25, Tryz.ntmps25
    by_cases hshort : d < 2
    · as_aux_lemma =>
      have e2 : (d : Int) < 2 := by omega
      have HQ := hidM (HW.out ([], 0, 6) (.inl ⟨by rw [HLEN.out]; omega, rfl⟩))
      clear hd
      go_wp2
      go_ret3
      exact ⟨⟨_, HQ.out, rfl⟩, Below.refl _ _⟩
    · have e2 : ¬ (d : Int) < 2 := by omega
      have hA2 : A + 2 ≤ s.size := by omega
      obtain ⟨A1, hA1⟩ : ∃ A1, A1 = A + 1 := ⟨_, rfl⟩
      have i1 : A < s.size := by omega
      have i2 : A1 < s.size := by omega
      have i3 : (A : Int) < (s.size : Int) := by omega
      have i4 : (A1 : Int) < (s.size : Int) := by omega
      have i5 : (A : Int) + 1 = (A1 : Int) := by omega
      have i6 : IntKind.i64.wrap ((A : Int) + 1) = (A1 : Int) := by rw [i5]; exact i64_small _ (by omega) (by omega)
      have i7 : IntKind.i64.wrap (A1 : Int) = (A1 : Int) := i64_small _ (by omega) (by omega)
      have HD := hidM hd
      have HH := hidM (fun V => rhead_any (s[A]).toNat (s[A1]).toNat V (UInt8.toNat_lt _) (UInt8.toNat_lt _))
      have G1 := hidM (getD_byte s A i1)
      have G2 : Hid (s.data.toList.getD (A + 1) 0 = s[A1]) := by unfold Hid; rw [← hA1]; exact getD_byte s A1 i2
      have v1 : IntKind.i64.wrap ((s[A]).toNat : Int) = ((s[A]).toNat : Int) := i64_small _ (by have := (s[A]).toNat_lt; omega) (by have := (s[A]).toNat_lt; omega)
      have v2 : IntKind.i64.wrap ((s[A1]).toNat : Int) = ((s[A1]).toNat : Int) := i64_small _ (by have := (s[A1]).toNat_lt; omega) (by have := (s[A1]).toNat_lt; omega)
      clear hd hA1
      cases hh : headB (s[A]).toNat (s[A1]).toNat with
      | false =>
        rw [hh] at HH
        have HQ := hidM (HW.out ([], 0, 3) (.inr (.inl ⟨by rw [HLEN.out]; exact hA2, by rw [G1.out, G2.out]; exact hh, rfl⟩)))
        clear hh
        go_wp2
        go_quiet ((go_at_call 56; with_reducible exact Calls.quiet_of_same (HH.out _)))
        go_wp2
        go_ret3
        exact ⟨⟨_, HQ.out, rfl⟩, (below_drewN (Below.refl _ _) _)⟩
      | true =>
        rw [hh] at HH
        have HHE : Hid (headB (s.data.toList.getD A 0).toNat (s.data.toList.getD (A + 1) 0).toNat = true) := by unfold Hid; rw [G1.out, G2.out]; exact hh
        have HL2 : Hid (A + 2 ≤ s.data.toList.length) := by unfold Hid; rw [HLEN.out]; exact hA2
        clear hh
        go_wp2
        go_quiet ((go_at_call 56; with_reducible exact Calls.quiet_of_same (HH.out _)))
        have HB0 : Hid (Below w.heap.size w (w.drewN nq)) := below_drewN (Below.refl _ _) _
        generalize w.drewN nq = w1 at *
        obtain ⟨A2, hA2e⟩ : ∃ A2, A2 = A + 2 := ⟨_, rfl⟩
        have k1 : (A : Int) + 2 = (A2 : Int) := by omega
        have HA2 := hidM hA2e
        have hA2s : A2 ≤ s.size := by omega
        clear hA2e HH G1 G2
        generalize (s[A]).toNat = bA at *
        generalize (s[A1]).toNat = bB at *
        clear i1 i2 i3 i4 i5 i6 i7
        go_wp2_with fail
        refine (rinflate_any s (A2 : Int) (M : Int) w1 hs).mono ?_
        rintro _ w2 ⟨⟨⟨o, n, e⟩, hq, rfl⟩, hb2⟩
        have HQI : Hid (InfQ s.data.toList ((A + 2 : Nat) : Int) (M : Int) (o, n, e)) := by unfold Hid; rw [← HA2.out]; exact hq
        have HB2 : Hid (Below w.heap.size w w2) := HB0.out.trans (hb2.mono HB0.out.size)
        by_cases he : e = 0
        · subst he
          have hus := hq.used
          rw [HLEN.out] at hus
          obtain ⟨P, hP⟩ : ∃ P, P = A2 + n := ⟨_, rfl⟩
          have k2 : (A2 : Int) + (n : Int) = (P : Int) := by omega
          have k3 : (P : Int) ≤ (s.size : Int) := by omega
          obtain ⟨q, hqq⟩ : ∃ q, q = s.size - P := ⟨_, rfl⟩
          have HBT : Hid (∀ k, ((s.extract P s.size).extract 0 k).data.toList = (s.data.toList.drop (A + 2 + n)).take k) := fun k => by
            rw [extract_list, drop_extract, hP, HA2.out]; rfl
          have hbs : (s.extract P s.size).size = q := by rw [ByteArray.size_extract]; omega
          have hO : (⟨o.toArray⟩ : ByteArray).size ≤ maxLen := by
            show o.toArray.size ≤ maxLen
            rw [List.size_toArray]; unfold maxLen; omega
          obtain ⟨S, hS⟩ : ∃ S, S = adSum o := ⟨_, rfl⟩
          have HAD : Hid (∀ V : World, Calls Tryz.prog 59 #[.string ⟨o.toArray⟩] V fun e w' => e = .returned (.int .u32 (S : Int)) ∧ w' = V) := fun V => by rw [hS]; exact radler_any ⟨o.toArray⟩ V hO
          have hS32 : S < 4294967296 := by rw [hS]; exact adSum_lt _
          have HZS : Hid (zsum o = bigL S 4) := by rw [hS]; rfl
          have u1 : IntKind.u64.wrap (S : Int) = (S : Int) := by rw [IntKind.wrap_u64]; omega
          have HBG : Hid (∀ V : World, Hid (DrewOf w2 V) → Calls Tryz.prog 58 #[.int .u64 (S : Int), .int .i64 4] V fun e w' => e = .returned (.string ⟨(zsum o).toArray⟩) ∧ Hid (Below w2.heap.size w2 w')) := fun V hV => by
            obtain ⟨k, rfl⟩ := hV
            rw [HZS.out]
            refine (rbig_any S 4 (w2.drewN k) (by unfold M64; omega) (by omega)).mono ?_
            rintro e w' ⟨h1, h2⟩
            exact ⟨h1, (below_drewN (Below.refl _ _) k).trans h2⟩
          clear hS HZS
          have HQN : Hid (q + (A + 2 + n) = s.data.toList.length) := by unfold Hid; rw [HLEN.out]; have := HA2.out; omega
          clear hq hb2 hus hqq hP hO
          by_cases hq4 : q < 4
          · have k4 : (q : Int) < 4 := by omega
            have HQ := hidM (HW.out ([], 0, 6) (.inr (.inr ⟨HL2.out, HHE.out, o, n, 0, HQI.out, .inr (.inl ⟨rfl, by have := HQN.out; omega, rfl⟩)⟩)))
            clear hq4
            go_wp2
            go_ret3
            exact ⟨⟨_, HQ.out, rfl⟩, HB2.out⟩
          · have k4 : ¬ (q : Int) < 4 := by omega
            have k5 : (4 : Int) ≤ (q : Int) := by omega
            have HLE : Hid (A + 2 + n + 4 ≤ s.data.toList.length) := by unfold Hid; have := HQN.out; omega
            have HB4 := hidM (HBT.out 4)
            have HD2 := DrewOf.refl w2
            clear HBT
            generalize hOO : (⟨o.toArray⟩ : ByteArray) = O at *
            have HOO := hidM hOO
            clear hOO
            generalize hZZ : (⟨(zsum o).toArray⟩ : ByteArray) = Z at *
            have HZL : Hid (Z.data.toList = zsum o) := by unfold Hid; rw [← hZZ]
            clear hq4 hZZ
            obtain ⟨n6, hn6⟩ : ∃ n6, n6 = n + 6 := ⟨_, rfl⟩
            have k8 : (n : Int) + 6 = (n6 : Int) := by omega
            have k10 : n6 ≤ 2000000 := by have := HLE.out; rw [HLEN.out] at this; omega
            have HN6 := hidM hn6
            clear hn6
            go_wp2_with fail
            generalize s.extract P s.size = BT at *
            have k6 : (4 : Int) ≤ (BT.size : Int) := by omega
            by_cases hc : BT.extract 0 4 = Z
            · have HC : Hid ((s.data.toList.drop (A + 2 + n)).take 4 = zsum o) := by unfold Hid; rw [← HB4.out, hc, HZL.out]
              have HQ := hidM (HW.out (o, n6, 0) (.inr (.inr ⟨HL2.out, HHE.out, o, n, 0, HQI.out, .inr (.inr (.inr ⟨rfl, HLE.out, HC.out, by rw [HN6.out]⟩))⟩)))
              go_region_with
                (first
                  | (go_at_call 59; with_reducible refine (HAD.out _).mono ?_; rintro e w6 ⟨rfl, h6⟩; rw [h6]; clear h6 w6)
                  | (go_at_call 58; with_reducible refine (HBG.out _ (by repeat (first | exact HD2 | apply DrewOf.drew | apply DrewOf.drewN))).mono ?_; rintro e w5 ⟨rfl, HUP⟩))
              all_goals
                have HB5 : Hid (Below w.heap.size w w5) := HB2.out.trans (HUP.out.mono HB2.out.size)
                go_wp2
                go_ret3
                exact ⟨⟨_, HQ.out, by rw [HOO.out]; rfl⟩, HB5.out⟩
            · have HC : Hid ((s.data.toList.drop (A + 2 + n)).take 4 ≠ zsum o) := fun h => hc (bytes_ext (by rw [HB4.out, HZL.out, h]))
              have HQ := hidM (HW.out ([], 0, 5) (.inr (.inr ⟨HL2.out, HHE.out, o, n, 0, HQI.out, .inr (.inr (.inl ⟨rfl, HLE.out, HC.out, rfl⟩))⟩)))
              have hcb := bytes_ne hc
              go_region_with
                (first
                  | (go_at_call 59; with_reducible refine (HAD.out _).mono ?_; rintro e w6 ⟨rfl, h6⟩; rw [h6]; clear h6 w6)
                  | (go_at_call 58; with_reducible refine (HBG.out _ (by repeat (first | exact HD2 | apply DrewOf.drew | apply DrewOf.drewN))).mono ?_; rintro e w5 ⟨rfl, HUP⟩))
              all_goals
                have HB5 : Hid (Below w.heap.size w w5) := HB2.out.trans (HUP.out.mono HB2.out.size)
                go_wp2
                go_ret3
                exact ⟨⟨_, HQ.out, rfl⟩, HB5.out⟩
        · have e0 : ((e : Int) == 0) = false := by simp; omega
          have HQ := hidM (HW.out ([], 0, e) (.inr (.inr ⟨HL2.out, HHE.out, o, n, e, HQI.out, .inl ⟨he, rfl⟩⟩)))
          clear hq hb2
          go_wp2
          go_ret3
          exact ⟨⟨_, HQ.out, rfl⟩, HB2.out⟩
end Go.Proofs.YtddoemeellbhaaaGreatDoor
