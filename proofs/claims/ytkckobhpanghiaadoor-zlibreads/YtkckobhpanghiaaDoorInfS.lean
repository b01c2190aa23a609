/-
  Walks of inflate: a stored block.
-/
import Derived.Test.YtkckobhpanghiaaDoorInfB
import Derived.Test.YtkckobhpanghiaaDoorLitA
import Derived.Lib.AppendStr
import Derived.Laws.BitsAllLaws
namespace Go.Proofs.YtkckobhpanghiaaDoor
open Go.RowKit

theorem xor_ones (a : Nat) (h : a < 65536) : a ^^^ 65535 = 65535 - a := by
  apply Nat.eq_of_testBit_eq
  intro i
  rw [Nat.testBit_xor, show 65535 - a = 2 ^ 16 - (a + 1) by omega, Nat.testBit_two_pow_sub_succ h, show 65535 = 2 ^ 16 - 1 by decide, Nat.testBit_two_pow_sub_one]
  by_cases hi : i < 16
  · simp [hi]
  · have : a.testBit i = false := Nat.testBit_lt_two_pow (Nat.lt_of_lt_of_le h (Nat.pow_le_pow_right (n := 2) (i := 16) (by decide) (by omega)))
    simp [hi, this]
theorem xor_sum (a b : Nat) (ha : a < 65536) : a ^^^ b = 65535 ↔ a + b = 65535 := by
  constructor
  · intro h
    have : b = a ^^^ 65535 := by rw [← h, ← Nat.xor_assoc, Nat.xor_self, Nat.zero_xor]
    rw [xor_ones a ha] at this
    omega
  · intro h
    have : b = a ^^^ 65535 := by rw [xor_ones a ha]; omega
    rw [this, ← Nat.xor_assoc, Nat.xor_self, Nat.zero_xor]
theorem extract_list (s : ByteArray) (a b : Nat) : (s.extract a b).data.toList = (s.data.toList.drop a).take (b - a) := by
  rw [ByteArray.data_extract, Array.toList_extract, List.extract_eq_take_drop]
theorem two_list {l : List UInt8} (h : l.length = 2) : ∃ a b, l = [a, b] := by
  match l, h with
  | [a, b], _ => exact ⟨a, b, rfl⟩
theorem numB_le2 {l : List UInt8} (h : l.length = 2) : numB (l.take 8).reverse = le l ∧ le l < 65536 := by
  obtain ⟨a, b, rfl⟩ := two_list h
  have h1 := a.toNat_lt
  have h2 := b.toNat_lt
  rw [List.take_of_length_le (by simp), numB_two, le_two]
  omega
/-- how a step answers: an error, or a state -/
def StepPost (B : Nat) (X : ByteArray) (most : Nat) (last : Bool) (p1 p2 p3 p4 : Value) (r : Res) (w : World) (e : Ending) (w' : World) : Prop :=
  match r with
  | .bad n => n ≠ 0 ∧ e = .returned (.int .i64 (n : Int)) ∧ Below B w w'
  | .good t o => e = .returned (.int .i64 0) ∧ ∃ v, StS w' B X t most last v o p1 p2 p3 p4 ∧ Kept B w w'
theorem strCells_bytes (s : ByteArray) : Lib.strCells s = bytesV s.data.toList := rfl

set_option maxHeartbeats 4000000 in
set_option maxRecDepth 100000 in
theorem readStored_any (B : Nat) (X : ByteArray) (t most : Nat) (last : Bool) (v : Value) (o : List UInt8) (p1 p2 p3 p4 : Value) (w : World) (hS : StS w B X t most last v o p1 p2 p3 p4) (hX : X.size ≤ 1000000) (ht : t ≤ 8 * X.size) (hm : most ≤ 65536) (hl : o.length ≤ most) :
    Calls Tryd.prog 47 #[.pointer (some ⟨B + 1, 0, none⟩)] w fun e w' => StepPost B X most last p1 p2 p3 p4 (storedR X.data.toList most t o) w e w' := by
  obtain ⟨i0, hi, hz0, hz1, hz2⟩ := info5_parts
  obtain ⟨a, cp, rfl⟩ := hS.own.shape
  have HS := hidM hS
  have c0 := hS.box.c0
  obtain ⟨u, hu⟩ : ∃ u, u = (t + 7) / 8 := ⟨_, rfl⟩
  obtain ⟨q, hq⟩ : ∃ q, u + q = X.size := ⟨X.size - u, by omega⟩
  have HU := hidM hu
  have HQ := hidM hq
  have HT := hidM ht
  have HXL : Hid (X.data.toList.length = X.size) := Array.length_toList
  clear hS hu ht
  go_enter Tryd.func47, Tryd.ntmps47
  by_cases h4 : q < 4
  · have HBN := hidM (bytes_no B X t u q 4 w HS.out.rd (by omega) HT.out HU.out HQ.out (.inr (by omega)))
    go_wp2_with fail
    refine HBN.out.mono ?_
    rintro _ w1 ⟨rfl, _, ho⟩
    have HE : Hid (storedR X.data.toList most t o = .bad 6) := by
      unfold Hid storedR
      simp only
      rw [if_pos (by rw [HXL.out, ← HU.out]; omega)]
    have HO := hidM ho
    clear ho
    go_wp2
    go_ret
    rw [HE.out]
    exact ⟨by decide, rfl, HO.out.kept.below⟩
  · obtain ⟨r, hr⟩ : ∃ r, q = 4 + r := ⟨q - 4, by omega⟩
    have HBY := hidM (bytes_yes B X t u q 4 w HS.out.rd (by omega) HT.out HU.out HQ.out (by omega))
    have hl1 : ((X.data.toList.drop u).take 2).length = 2 := by rw [List.length_take, List.length_drop, HXL.out]; omega
    have hl2 : ((X.data.toList.drop (u + 2)).take 2).length = 2 := by rw [List.length_take, List.length_drop, HXL.out]; omega
    obtain ⟨n1, hn1⟩ : ∃ n, n = le ((X.data.toList.drop u).take 2) := ⟨_, rfl⟩
    obtain ⟨n2, hn2⟩ : ∃ n, n = le ((X.data.toList.drop (u + 2)).take 2) := ⟨_, rfl⟩
    have b1 : n1 < 65536 := by rw [hn1]; exact (numB_le2 hl1).2
    have b2 : n2 < 65536 := by rw [hn2]; exact (numB_le2 hl2).2
    have HL1 : Hid (∀ W, Calls Tryd.prog 76 #[.string ((X.extract u (u + 4)).extract 0 2)] W fun e w' => e = .returned (.int .u64 (n1 : Int)) ∧ w' = W) := fun W => by
      have h := fromLittle_any ((X.extract u (u + 4)).extract 0 2) W (by rw [ByteArray.size_extract]; unfold maxLen; omega)
      have e : ((X.extract u (u + 4)).extract 0 2).data.toList = (X.data.toList.drop u).take 2 := by
        rw [extract_list, extract_list, List.drop_zero, List.take_take]
        congr 1
        omega
      rw [e, (numB_le2 hl1).1, ← hn1] at h
      exact h
    have HL2 : Hid (∀ W, Calls Tryd.prog 76 #[.string ((X.extract u (u + 4)).extract 2 (X.extract u (u + 4)).size)] W fun e w' => e = .returned (.int .u64 (n2 : Int)) ∧ w' = W) := fun W => by
      have hs4 : (X.extract u (u + 4)).size = 4 := by rw [ByteArray.size_extract]; omega
      rw [hs4]
      have h := fromLittle_any ((X.extract u (u + 4)).extract 2 4) W (by rw [ByteArray.size_extract]; unfold maxLen; omega)
      have e : ((X.extract u (u + 4)).extract 2 4).data.toList = (X.data.toList.drop (u + 2)).take 2 := by
        rw [extract_list, extract_list, show u + 4 - u = 4 by omega, List.drop_take, List.drop_drop, List.take_take]
        congr 1
      rw [e, (numB_le2 hl2).1, ← hn2] at h
      exact h
    have HN1 := hidM hn1
    have HN2 := hidM hn2
    have hsz4 : (X.extract u (u + 4)).size = 4 := by rw [ByteArray.size_extract]; omega
    have hX4 : ((X.extract u (u + 4)).size : Int) = 4 := by omega
    have HX4 := hidM hsz4
    have HR := hidM hr
    clear hl1 hl2 hn1 hn2 hr hsz4
    go_wp2_with fail
    refine HBY.out.mono ?_
    rintro _ w1 ⟨rfl, hrb, ho⟩
    have HS1 := hidM (HS.out.read hrb ho)
    have HK1 : Hid (Kept B w w1) := ho.kept
    clear hrb ho HBY
    generalize X.extract u (u + 4) = H4 at *
    have c0' := HS1.out.box.c0
    go_wp2
    go_quiet ((go_at_call 76; first | with_reducible exact Calls.quiet_of_same (HL1.out _) | with_reducible exact Calls.quiet_of_same (HL2.out _)))
    have HS2 : Hid (StS (w1.drewN nq) B X (u * 8 + 8 * 4) most last (.slice a o.length cp) o p1 p2 p3 p4) := ⟨HS1.out.rd, HS1.out.box, HS1.out.own⟩
    have HK2 : Hid (Kept B w (w1.drewN nq)) := ⟨HK1.out.below.trans (below_drewN (Below.refl _ _) nq), HK1.out.keep⟩
    generalize w1.drewN nq = w2 at *
    have HSR : Hid (storedR X.data.toList most t o = if n1 + n2 ≠ 65535 then .bad 3 else if most < o.length + min n1 r then .bad 2 else if min n1 r < n1 then .bad 6 else .good (8 * (u + 4 + n1)) (o ++ (X.data.toList.drop (u + 4)).take n1)) := by
      unfold Hid storedR
      simp only
      rw [← HU.out, ← HN1.out, ← HN2.out, HXL.out, if_neg (by have := HQ.out; omega), show X.size - (u + 4) = r by have := HQ.out; have := HR.out; omega]
    clear HL1 HL2 HS1 HK1 HX4 c0' HN1 HN2
    obtain ⟨x, hx⟩ : ∃ x, x = n1 ^^^ n2 := ⟨_, rfl⟩
    have ex : bits .xor .u64 (n1 : Int) (n2 : Int) = (x : Int) := by rw [hx]; exact u64_xor_nat n1 n2 (by omega) (by omega)
    have hxs := xor_sum n1 n2 b1
    rw [← hx] at hxs
    have HXS := hidM hxs
    clear hx hxs
    by_cases hsum : n1 + n2 = 65535
    · have hx := HXS.out.2 hsum
      subst hx
      have c02 := HS2.out.box.c0
      have HLF := hidM (left_any B X (u * 8 + 8 * 4) (8 * r) w2 HS2.out.rd (by omega) (by have := HQ.out; have := HR.out; omega))
      obtain ⟨l8, hl8⟩ : ∃ l8, l8 = 8 * r := ⟨_, rfl⟩
      rw [← hl8] at HLF
      have e1 : (l8 : Int) / 8 = (r : Int) := by omega
      have e2 : (l8 : Int).tdiv 8 = (r : Int) := by rw [Int.tdiv_eq_ediv_of_nonneg (by omega)]; exact e1
      have hr6 : r ≤ 1000000 := by have := HQ.out; have := HR.out; omega
      clear hl8
      go_wp2_with fail
      refine HLF.out.mono ?_
      rintro _ w3 ⟨rfl, m3, rfl⟩
      have HS3 : Hid (StS (w2.drewN m3) B X (u * 8 + 8 * 4) most last (.slice a o.length cp) o p1 p2 p3 p4) := ⟨HS2.out.rd, HS2.out.box, HS2.out.own⟩
      have HK3 : Hid (Kept B w (w2.drewN m3)) := ⟨HK2.out.below.trans (below_drewN (Below.refl _ _) m3), HK2.out.keep⟩
      generalize w2.drewN m3 = w3 at *
      clear HLF HS2 HK2 c02
      by_cases hmn : n1 ≤ r
      · have g1 : ¬ (r : Int) < (n1 : Int) := by omega
        have g2 : (n1 : Int) ≤ (r : Int) := by omega
        have HMN : Hid (min n1 r = n1) := Nat.min_eq_left hmn
        by_cases hbig : most < o.length + n1
        · have e3 : ((most - o.length : Nat) : Int) < (n1 : Int) := by omega
          have HE : Hid (storedR X.data.toList most t o = .bad 2) := by
            unfold Hid
            rw [HSR.out, if_neg (fun h => h hsum), if_pos (by rw [HMN.out]; exact hbig)]
          go_wp2_with fail
          refine (room_any (B + 1) B most a o.length cp p1 p2 p3 p4 last w3 HS3.out.box hm hl).mono ?_
          rintro _ w4 ⟨rfl, m4, rfl⟩
          obtain ⟨rm, hrm⟩ : ∃ rm, rm = most - o.length := ⟨_, rfl⟩
          rw [← hrm]
          rw [← hrm] at e3
          clear hrm
          go_wp2
          go_ret
          rw [HE.out]
          exact ⟨by decide, rfl, (HK3.out.below).trans (below_drewN (Below.refl _ _) m4)⟩
        · have e3 : ¬ ((most - o.length : Nat) : Int) < (n1 : Int) := by omega
          go_wp2_with fail
          refine (room_any (B + 1) B most a o.length cp p1 p2 p3 p4 last w3 HS3.out.box hm hl).mono ?_
          rintro _ w4 ⟨rfl, m4, rfl⟩
          obtain ⟨rm, hrm⟩ : ∃ rm, rm = most - o.length := ⟨_, rfl⟩
          rw [← hrm]
          rw [← hrm] at e3
          clear hrm
          have HS4 : Hid (StS (w3.drewN m4) B X (u * 8 + 8 * 4) most last (.slice a o.length cp) o p1 p2 p3 p4) := ⟨HS3.out.rd, HS3.out.box, HS3.out.own⟩
          have HK4 : Hid (Kept B w (w3.drewN m4)) := ⟨HK3.out.below.trans (below_drewN (Below.refl _ _) m4), HK3.out.keep⟩
          generalize w3.drewN m4 = w4 at *
          have d0 := HS4.out.box.c0
          go_wp2_with fail
          refine (bytes_yes B X (u * 8 + 8 * 4) (u + 4) r n1 w4 HS4.out.rd (by omega) (by have := HQ.out; have := HR.out; omega) (by omega) (by have := HQ.out; have := HR.out; omega) (by omega)).mono ?_
          rintro _ w5 ⟨rfl, hrb5, ho5⟩
          have HS5 := hidM (HS4.out.read hrb5 ho5)
          have HK5 : Hid (Kept B w w5) := HK4.out.trans ho5.kept
          have HTX : Hid ((X.extract (u + 4) (u + 4 + n1)).data.toList = (X.data.toList.drop (u + 4)).take n1) := by
            unfold Hid
            rw [extract_list]
            congr 1
            omega
          have hts : (X.extract (u + 4) (u + 4 + n1)).size = n1 := by rw [ByteArray.size_extract]; have := HQ.out; have := HR.out; omega
          have HTS := hidM hts
          clear hrb5 ho5 hts
          generalize X.extract (u + 4) (u + 4 + n1) = TX at *
          have d1 := HS5.out.box.c1
          have hlt5 := HS5.out.box.lt
          go_wp2_with (first
            | (at_builtin; go_loud (refine Lib.wpList_append_own_string _ rfl _ _ 34 9 rfl (B + 2) 5 i0 Tryd.underlying34 Tryd.underlying9 hi hz0 hz1 hz2 _ _ _ rfl HS5.out.own TX rfl ?c1 ?c2 ?c3 ?_)))
          case c1 => have := HTS.out; unfold maxLen; omega
          case c2 => have := HTS.out; omega
          case c3 => omega
          intro v' w6 hown hgrow _
          obtain ⟨a2, c2, rfl⟩ := own_slice hown
          rw [show Lib.strCells TX = bytesV TX.data.toList from rfl] at hown
          obtain ⟨⟨k0, k1⟩, hst, hkp⟩ := HS5.out.grow (l := TX.data.toList) (Below.refl _ w5) hgrow (by rw [show TX.data.toList.length = TX.size from Array.length_toList]; exact hown)
          have HST := hidM hst
          have HKP : Hid (Kept B w _) := HK5.out.trans hkp
          clear hown hgrow hst hkp
          go_wp2
          go_ret
          rw [HSR.out, if_neg (fun h => h hsum), if_neg (by rw [HMN.out]; exact hbig), if_neg (by rw [HMN.out]; omega)]
          have h := HST.out
          rw [HTX.out, show (u + 4) * 8 + 8 * n1 = 8 * (u + 4 + n1) by omega] at h
          exact ⟨rfl, _, h, HKP.out⟩
      · have g1 : (r : Int) < (n1 : Int) := by omega
        have g2 : ¬ (n1 : Int) ≤ (r : Int) := by omega
        have HMN : Hid (min n1 r = r) := Nat.min_eq_right (by omega)
        by_cases hbig : most < o.length + r
        · have e3 : ((most - o.length : Nat) : Int) < (r : Int) := by omega
          have HE : Hid (storedR X.data.toList most t o = .bad 2) := by
            unfold Hid
            rw [HSR.out, if_neg (fun h => h hsum), if_pos (by rw [HMN.out]; exact hbig)]
          go_wp2_with fail
          refine (room_any (B + 1) B most a o.length cp p1 p2 p3 p4 last w3 HS3.out.box hm hl).mono ?_
          rintro _ w4 ⟨rfl, m4, rfl⟩
          obtain ⟨rm, hrm⟩ : ∃ rm, rm = most - o.length := ⟨_, rfl⟩
          rw [← hrm]
          rw [← hrm] at e3
          clear hrm
          go_wp2
          go_ret
          rw [HE.out]
          exact ⟨by decide, rfl, (HK3.out.below).trans (below_drewN (Below.refl _ _) m4)⟩
        · have e3 : ¬ ((most - o.length : Nat) : Int) < (r : Int) := by omega
          go_wp2_with fail
          refine (room_any (B + 1) B most a o.length cp p1 p2 p3 p4 last w3 HS3.out.box hm hl).mono ?_
          rintro _ w4 ⟨rfl, m4, rfl⟩
          obtain ⟨rm, hrm⟩ : ∃ rm, rm = most - o.length := ⟨_, rfl⟩
          rw [← hrm]
          rw [← hrm] at e3
          clear hrm
          have HS4 : Hid (StS (w3.drewN m4) B X (u * 8 + 8 * 4) most last (.slice a o.length cp) o p1 p2 p3 p4) := ⟨HS3.out.rd, HS3.out.box, HS3.out.own⟩
          have HK4 : Hid (Kept B w (w3.drewN m4)) := ⟨HK3.out.below.trans (below_drewN (Below.refl _ _) m4), HK3.out.keep⟩
          generalize w3.drewN m4 = w4 at *
          have d0 := HS4.out.box.c0
          go_wp2_with fail
          refine (bytes_yes B X (u * 8 + 8 * 4) (u + 4) r r w4 HS4.out.rd (by omega) (by have := HQ.out; have := HR.out; omega) (by omega) (by have := HQ.out; have := HR.out; omega) (by omega)).mono ?_
          rintro _ w5 ⟨rfl, hrb5, ho5⟩
          have HS5 := hidM (HS4.out.read hrb5 ho5)
          have HK5 : Hid (Kept B w w5) := HK4.out.trans ho5.kept
          have HTX : Hid ((X.extract (u + 4) (u + 4 + r)).data.toList = (X.data.toList.drop (u + 4)).take r) := by
            unfold Hid
            rw [extract_list]
            congr 1
            omega
          have hts : (X.extract (u + 4) (u + 4 + r)).size = r := by rw [ByteArray.size_extract]; have := HQ.out; have := HR.out; omega
          have HTS := hidM hts
          clear hrb5 ho5 hts
          generalize X.extract (u + 4) (u + 4 + r) = TX at *
          have d1 := HS5.out.box.c1
          have hlt5 := HS5.out.box.lt
          go_wp2_with (first
            | (at_builtin; go_loud (refine Lib.wpList_append_own_string _ rfl _ _ 34 9 rfl (B + 2) 5 i0 Tryd.underlying34 Tryd.underlying9 hi hz0 hz1 hz2 _ _ _ rfl HS5.out.own TX rfl ?c1 ?c2 ?c3 ?_)))
          case c1 => have := HTS.out; unfold maxLen; omega
          case c2 => have := HTS.out; omega
          case c3 => omega
          intro v' w6 hown hgrow _
          obtain ⟨a2, c2, rfl⟩ := own_slice hown
          rw [show Lib.strCells TX = bytesV TX.data.toList from rfl] at hown
          obtain ⟨⟨k0, k1⟩, hst, hkp⟩ := HS5.out.grow (l := TX.data.toList) (Below.refl _ w5) hgrow (by rw [show TX.data.toList.length = TX.size from Array.length_toList]; exact hown)
          have HST := hidM hst
          have HKP : Hid (Kept B w _) := HK5.out.trans hkp
          clear hown hgrow hst hkp
          go_wp2
          go_ret
          rw [HSR.out, if_neg (fun h => h hsum), if_neg (by rw [HMN.out]; exact hbig), if_pos (by rw [HMN.out]; omega)]
          exact ⟨by decide, rfl, HKP.out.below⟩
    · have hx : ¬ x = 65535 := fun h => hsum (HXS.out.1 h)
      have e1 : ((x : Int) == 65535) = false := by simp; omega
      go_wp2
      go_ret
      rw [HSR.out, if_pos hsum]
      exact ⟨by decide, rfl, HK2.out.below⟩
end Go.Proofs.YtkckobhpanghiaaDoor
