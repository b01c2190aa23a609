/-
  Walks of inflate, the writing side: Stored.
-/
import Derived.Test.YtkckobhpanghiaaDoorLitB
import Derived.Test.YtkckobhpanghiaaDoorInfL
namespace Go.Proofs.YtkckobhpanghiaaDoor
open Go.RowKit

theorem WAtG.later {w w' : World} {b N T : Nat} (h : WAtG w b N T []) (hb : Below w.heap.size w w') : WAtG w' b N T [] ∧ b < w.heap.size := by
  obtain ⟨v, F, q, hh, hw, h1, h2, h3, h4, _⟩ := h
  exact ⟨⟨v, F, q, hh, hw.below hb, h1, h2, h3, h4, fun p hp => by simp at hp⟩, hw.lt⟩
theorem littleL_two (x : Nat) : littleL x 2 = [UInt8.ofNat (x % 256), UInt8.ofNat (x / 256 % 256)] := rfl
theorem xor_ones64 (a : Nat) (h : a < 65536) : 18446744073709551615 ^^^ a = 18446744073709551615 - a := by
  apply Nat.eq_of_testBit_eq
  intro i
  rw [Nat.testBit_xor, show 18446744073709551615 - a = 2 ^ 64 - (a + 1) by omega, Nat.testBit_two_pow_sub_succ (by omega), show (18446744073709551615 : Nat) = 2 ^ 64 - 1 by decide, Nat.testBit_two_pow_sub_one]
  by_cases hi : i < 64
  · simp [hi]
  · have : a.testBit i = false := Nat.testBit_lt_two_pow (Nat.lt_of_lt_of_le h (Nat.pow_le_pow_right (n := 2) (i := 16) (by decide) (by omega)))
    simp [hi, this]
theorem not_size (n : Nat) (h : n ≤ 65535) : bits .xor .u64 IntKind.u64.max (n : Int) = ((18446744073709551615 - n : Nat) : Int) := by
  rw [show IntKind.u64.max = ((18446744073709551615 : Nat) : Int) by decide, u64_xor_nat _ _ (by decide) (by omega), xor_ones64 n (by omega)]
/-- a stored block as it is put, behind bits that are there -/
def storN (N T last : Nat) (s : List UInt8) : Nat := N + 2 ^ T * last + 2 ^ ((T + 10) / 8 * 8) * (le (littleL s.length 2) + 65536 * le (littleL (18446744073709551615 - s.length) 2) + 4294967296 * le s)
theorem two_pow_split (U : Nat) : 2 ^ (U + 16) = 2 ^ U * 65536 ∧ 2 ^ (U + 32) = 2 ^ U * 4294967296 := by
  constructor <;> rw [Nat.pow_add]
set_option maxHeartbeats 1000000 in
set_option maxRecDepth 100000 in
theorem putStored_any (b N T last : Nat) (s : ByteArray) (w : World) (hb : WAtG w b N T []) (hT : T ≤ 100000000) (hs : s.size ≤ 65535) (hl : last < 2) :
    Calls Tryd.prog 40 #[.pointer (some ⟨b, 0, none⟩), .string s, .int .u32 (last : Int)] w fun e w' => e = .returned (.tuple #[]) ∧ WAtG w' b (storN N T last s.data.toList) ((T + 10) / 8 * 8 + 32 + 8 * s.size) [] ∧ Below b w w' := by
  have HLEN : Hid (s.data.toList.length = s.size) := Array.length_toList
  have HBb := hidM hb
  clear hb
  have e0 : bits .or .u32 (last : Int) 0 = (last : Int) := by
    have : ∀ y : Fin 2, bits .or .u32 ((y.val : Nat) : Int) 0 = ((y.val : Nat) : Int) := by decide +kernel
    exact this ⟨last, hl⟩
  have hmod : last % 2 ^ 3 = last := Nat.mod_eq_of_lt (by omega)
  have hW1 := wbits_g b N T last 3 [] w HBb.out (by omega) (by decide) (by omega)
  rw [hmod] at hW1
  have HW1 := hidM hW1
  obtain ⟨U, hU⟩ : ∃ U, U = (T + 10) / 8 * 8 := ⟨_, rfl⟩
  have hU1 : (T + 3 + 7) / 8 * 8 = U := by omega
  have hU2 : (U + 8 * 2 + 7) / 8 * 8 = U + 16 := by omega
  have hU3 : (U + 16 + 8 * 2 + 7) / 8 * 8 = U + 32 := by omega
  have hU4 : U ≤ 100000100 := by omega
  obtain ⟨n, hn⟩ : ∃ n, n = s.size := ⟨_, rfl⟩
  obtain ⟨c, hc⟩ : ∃ c, c = 18446744073709551615 - n := ⟨_, rfl⟩
  have e1 : IntKind.u64.wrap (n : Int) = (n : Int) := by rw [u64_wrap]; omega
  have e2 : (18446744073709551615 : Int) - (n : Int) = (c : Int) := by omega
  clear hW1 hmod
  go_enter Tryd.func40, Tryd.ntmps40
  go_wp2_with fail
  refine HW1.out.mono ?_
  rintro _ w1 ⟨rfl, hw1, hb1⟩
  have HWA := hidM hw1
  have HB1 := hidM hb1
  clear hw1 hb1 HW1
  go_wp2_with fail
  refine (little_any s.size 2 w1 (by decide) (by decide)).mono ?_
  rintro _ w2 ⟨rfl, hb2⟩
  have HWB := hidM (HWA.out.later hb2).1
  have HB2 : Hid (Below b w w2) := HB1.out.trans (hb2.mono (Nat.le_of_lt (HWA.out.later hb2).2))
  have hLs : ∀ x, (⟨(littleL x 2).toArray⟩ : ByteArray).size = 2 := fun x => rfl
  have HY := hidM (wbytes_g b _ _ ⟨(littleL s.size 2).toArray⟩ [] w2 HWB.out (fun p hp => by simp at hp) (by omega) (by rw [hLs]; decide))
  rw [hLs, hU1] at HY
  clear hb2 HWA HB1
  go_wp2_with fail
  refine HY.out.mono ?_
  rintro _ w3 ⟨rfl, hw3, hb3⟩
  have HWC := hidM hw3
  have HB3 : Hid (Below b w w3) := HB2.out.trans hb3
  clear hw3 hb3 HY HB2 HWB
  have ex := not_size s.size hs
  obtain ⟨d, hd⟩ : ∃ d, d = 18446744073709551615 - s.size := ⟨_, rfl⟩
  rw [← hd] at ex
  have HD := hidM hd
  clear hd
  go_wp2_with fail
  refine (little_any d 2 w3 (by decide) (by decide)).mono ?_
  rintro _ w4 ⟨rfl, hb4⟩
  have HWD := hidM (HWC.out.later hb4).1
  have HB4 : Hid (Below b w w4) := HB3.out.trans (hb4.mono (Nat.le_of_lt (HWC.out.later hb4).2))
  have HY := hidM (wbytes_g b _ _ ⟨(littleL d 2).toArray⟩ [] w4 HWD.out (fun p hp => by simp at hp) (by omega) (by rw [hLs]; decide))
  rw [hLs, hU2] at HY
  clear hb4 HWC HB3
  go_wp2_with fail
  refine HY.out.mono ?_
  rintro _ w5 ⟨rfl, hw5, hb5⟩
  have HWE := hidM hw5
  have HB5 : Hid (Below b w w5) := HB4.out.trans hb5
  clear hw5 hb5 HY HB4 HWD
  have HY := hidM (wbytes_g b _ _ s [] w5 HWE.out (fun p hp => by simp at hp) (by omega) (by omega))
  rw [hU3] at HY
  clear HWE
  go_wp2_with fail
  refine HY.out.mono ?_
  rintro _ w6 ⟨rfl, hw6, hb6⟩
  have HWF := hidM hw6
  have HB6 : Hid (Below b w w6) := HB5.out.trans hb6
  clear hw6 hb6 HY HB5
  go_wp2
  refine bodyPost_end (results_none rfl _ _ _) rfl ⟨rfl, ?_, HB6.out⟩
  have h := HWF.out
  have e5 : storN N T last s.data.toList = N + 2 ^ T * last + 2 ^ U * le (littleL s.size 2) + 2 ^ (U + 16) * le (littleL d 2) + 2 ^ (U + 32) * le s.data.toList := by
    unfold storN
    rw [HLEN.out, ← HD.out, ← hU, (two_pow_split U).1, (two_pow_split U).2]
    generalize 2 ^ U = z
    generalize le (littleL s.size 2) = x1
    generalize le (littleL d 2) = x2
    generalize le s.data.toList = x3
    rw [Nat.mul_add, Nat.mul_add, Nat.mul_assoc, Nat.mul_assoc]
    omega
  rw [e5, ← hU]
  exact h
end Go.Proofs.YtkckobhpanghiaaDoor
