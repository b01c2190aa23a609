/-
  SumsBack: a number written in eight bytes is read back, either way, and the two ways are each other's mirror: for every number of 64 bits. No condition but the card's own (the table reads as the program's text lays it).
-/
import Derived.Test.YtbodjopdhciaeaaDoorWalkE
namespace Go.Proofs.YtbodjopdhciaeaaDoor
open Go.RowKit

theorem rev8 (x : Nat) (B L : ByteArray) (hB : B.data.toList = bigL x 8) (hL : L.data.toList = littleL x 8) (k p : Nat) (hkp : p + k = 7) (hk : k < B.size) (hk2 : p < L.size) : B[k] = L[p] := by
  have e1 : B[k] = B.data.toList[k]'(by simpa using hk) := rfl
  have e2 : L[p] = L.data.toList[p]'(by simpa using hk2) := rfl
  rw [e1, e2]
  simp only [hB, hL, bigL]
  rw [List.getElem_reverse]
  have : (littleL x 8).length - 1 - k = p := by rw [littleL_len]; omega
  simp only [this]
theorem i64_small (n : Int) (h0 : 0 ≤ n) (h1 : n < 100000) : IntKind.i64.wrap n = n := by
  rw [IntKind.wrap_i64]; omega

set_option maxHeartbeats 800000 in
theorem back_walk (x : Nat) (hx : x < M64) (w : World) (ht : Tab w) :
    Calls Tryd.prog 7 #[.int .u64 x] w fun e w' => e = .returned (.bool true) ∧ Below w.heap.size w w' := by
  have HT := hidM ht
  clear ht
  go_enter Tryd.func7, Tryd.ntmps7
  go_wp2_with fail
  refine (big_any x 8 w (by omega) (by omega)).mono ?_
  rintro e w1 ⟨rfl, hb1⟩
  have HB1 := hidM hb1
  clear hb1
  obtain ⟨B, hB⟩ : ∃ B : ByteArray, B = ⟨(bigL x 8).toArray⟩ := ⟨_, rfl⟩
  rw [← hB]
  have HB : Hid (B.data.toList = bigL x 8) := by unfold Hid; rw [hB]
  have hbs : B.size = 8 := by rw [hB]; show (bigL x 8).toArray.size = 8; simp [bigL_len]
  clear hB
  have HBS := hidM hbs
  clear hbs
  go_wp2_with fail
  refine (little_any x 8 w1 (by omega) (by omega)).mono ?_
  rintro e w2 ⟨rfl, hb2⟩
  have HB2 : Hid (Below w.heap.size w w2) := HB1.out.trans (hb2.mono HB1.out.size)
  clear hb2
  obtain ⟨L, hL⟩ : ∃ L : ByteArray, L = ⟨(littleL x 8).toArray⟩ := ⟨_, rfl⟩
  rw [← hL]
  have HL : Hid (L.data.toList = littleL x 8) := by unfold Hid; rw [hL]
  have hls : L.size = 8 := by rw [hL]; show (littleL x 8).toArray.size = 8; simp [littleL_len]
  clear hL
  have HLS := hidM hls
  clear hls
  have i1 : B.size ≤ 8 := by rw [HBS.out]; exact Nat.le_refl _
  have i2 : 8 ≤ B.size := by rw [HBS.out]; exact Nat.le_refl _
  have i3 : L.size ≤ 8 := by rw [HLS.out]; exact Nat.le_refl _
  have i4 : 8 ≤ L.size := by rw [HLS.out]; exact Nat.le_refl _
  go_wp2
  go_loopw [5] (fun i wr => ∃ k : Nat, k ≤ 8 ∧ i = .int .i64 k ∧ Below w.heap.size w wr) (fun i _ => 8 - (intOf i).toNat)
  case atStart => exact ⟨0, by omega, rfl, HB2.out⟩
  case round =>
    obtain ⟨k, hk, rfl, hbr⟩ := hrel
    have HBR := hidM hbr
    clear hbr
    by_cases hlt : k < 8
    · obtain ⟨p, hp⟩ : ∃ p, p + k = 7 := ⟨7 - k, by omega⟩
      have HP := hidM hp
      have c1 : (k : Int) < (B.size : Int) := by omega
      have c2 : (k : Int) < (L.size : Int) := by omega
      have w1 : IntKind.i64.wrap ((L.size : Int) - 1) = 7 := by rw [HLS.out]; exact i64_small _ (by decide) (by decide)
      have w2 : IntKind.i64.wrap (7 - (k : Int)) = (p : Int) := by rw [i64_small _ (by omega) (by omega)]; omega
      have c3 : (p : Int) < (L.size : Int) := by omega
      have c5 : p < L.size := by omega
      have c6 : k < B.size := by omega
      have c4 : ((B[k].toNat : Int) != (L[p].toNat : Int)) = false := by rw [rev8 x B L HB.out HL.out k p hp c6 c5]; simp
      clear hp
      go_wp2
      go_quiet (fail)
      go_wp2
      go_roundw
      case rel => exact ⟨k + 1, by omega, by go_num, below_drewN HBR.out _⟩
      case measure => simp [intOf]; omega
    · have c1 : ¬ (k : Int) < (B.size : Int) := by omega
      have t1 : ((B.size : Int) == 8) = true := by rw [HBS.out]; rfl
      have t2 : ((L.size : Int) == 8) = true := by rw [HLS.out]; rfl
      go_wp2_with fail
      refine (awake_any wr (HT.out.below HBR.out)).mono ?_
      rintro e w3 ⟨rfl, hb3⟩
      have HB3 : Hid (Below w.heap.size w w3) := HBR.out.trans (hb3.mono HBR.out.size)
      clear hb3
      go_wp2_with fail
      refine (fromBig_any B w3 (by unfold maxLen; omega)).mono ?_
      rintro e w4 ⟨rfl, rfl⟩
      rw [HB.out, numB_bigL 8 x (by unfold M64 at hx; omega) hx]
      go_wp2_with fail
      refine (fromLittle_any L w4 (by unfold maxLen; omega)).mono ?_
      rintro e w5 ⟨rfl, rfl⟩
      rw [HL.out, List.take_of_length_le (by rw [littleL_len]; exact Nat.le_refl _), show (littleL x 8).reverse = bigL x 8 from rfl, numB_bigL 8 x (by unfold M64 at hx; omega) hx]
      go_wp2
      go_ret
      exact ⟨rfl, HB3.out⟩
end Go.Proofs.YtbodjopdhciaeaaDoor
