/-
  Digits; walks of calendar: padded.
-/
import Derived.Lib.ItoaNum
import Derived.Test.YtmhjdahmmdfbcaaGreatDoorCalD
namespace Go.Proofs.YtmhjdahmmdfbcaaGreatDoor
open Go.RowKit
def dig (d : Nat) : UInt8 := UInt8.ofNat (48 + d)
def d2 (n : Nat) : List UInt8 := [dig (n / 10), dig (n % 10)]
def d4 (n : Nat) : List UInt8 := [dig (n / 1000), dig (n / 100 % 10), dig (n / 10 % 10), dig (n % 10)]
theorem dd_small {u : Nat} (h : u < 10) : Lib.decDigits u = [dig u] := Lib.decDigits_one h
theorem dd_big {u : Nat} (h : 10 ≤ u) : Lib.decDigits u = Lib.decDigits (u / 10) ++ [dig (u % 10)] := by
  rw [Lib.decDigits, dif_neg (by omega)]; rfl
def padL (n wide : Nat) : List UInt8 := List.replicate (wide - (Lib.decDigits n).length) 48 ++ Lib.decDigits n
theorem pad2 (n : Nat) (h : n < 100) : padL n 2 = d2 n := by
  unfold padL d2
  by_cases h1 : n < 10
  · rw [dd_small h1, Nat.div_eq_of_lt h1, Nat.mod_eq_of_lt h1]; rfl
  · rw [dd_big (by omega), dd_small (by omega)]; rfl
theorem pad4 (n : Nat) (h : n < 10000) : padL n 4 = d4 n := by
  unfold padL d4
  by_cases h1 : n < 10
  · rw [dd_small h1, Nat.div_eq_of_lt (show n < 1000 by omega), Nat.div_eq_of_lt (show n < 100 by omega), Nat.div_eq_of_lt h1, Nat.mod_eq_of_lt h1]; rfl
  · by_cases h2 : n < 100
    · rw [dd_big (by omega), dd_small (by omega), Nat.div_eq_of_lt (show n < 1000 by omega), Nat.div_eq_of_lt h2, Nat.mod_eq_of_lt (show n / 10 < 10 by omega)]; rfl
    · by_cases h3 : n < 1000
      · rw [dd_big (by omega), dd_big (show 10 ≤ n / 10 by omega), dd_small (show n / 10 / 10 < 10 by omega), Nat.div_eq_of_lt h3, Nat.div_div_eq_div_mul, Nat.mod_eq_of_lt (show n / 100 < 10 by omega)]; rfl
      · rw [dd_big (by omega), dd_big (show 10 ≤ n / 10 by omega), dd_big (show 10 ≤ n / 10 / 10 by omega), dd_small (show n / 10 / 10 / 10 < 10 by omega), show n / 10 / 10 = n / 100 by omega, show n / 100 / 10 = n / 1000 by omega]; rfl
theorem rep48 (c : Nat) : Lib.repeatL (#[48] : Array UInt8).toList c = List.replicate c 48 := by
  induction c with
  | zero => rfl
  | succ c ih => simp only [Lib.repeatL, ih, List.replicate_succ]; rfl
theorem itoa_any (n : Nat) (h1 : n ≤ 9999) (w : World) (h : GT w) :
    Calls Tryz.prog 114 #[.int .i64 (n : Int)] w fun e w' => e = .returned (.string ⟨(Lib.decDigits n).toArray⟩) ∧ Below w.heap.size w w' := by
  have e : Lib.itoa (n : Int) = Lib.decDigits n := by unfold Lib.itoa; rw [if_neg (by omega)]; rfl
  rw [← e]
  refine (Tryz.strconv_Itoa (n : Int) (by omega) (by omega) w h.pow).mono ?_
  rintro e w' ⟨he, k, os, rfl⟩
  refine ⟨he, ⟨rfl, rfl, rfl, by simp [Sort.grow], fun k hk => ?_⟩⟩
  show (w.heap ++ os)[k]? = w.heap[k]?
  rw [Array.getElem?_append_left hk]
theorem dd_len (n : Nat) (h : n ≤ 9999) : (Lib.decDigits n).length ≤ 4 ∧ 1 ≤ (Lib.decDigits n).length := by
  by_cases h1 : n < 10
  · rw [dd_small h1]; exact ⟨by simp, by simp⟩
  · by_cases h2 : n < 100
    · rw [dd_big (by omega), dd_small (by omega)]; exact ⟨by simp, by simp⟩
    · by_cases h3 : n < 1000
      · rw [dd_big (by omega), dd_big (show 10 ≤ n / 10 by omega), dd_small (show n / 10 / 10 < 10 by omega)]; exact ⟨by simp, by simp⟩
      · rw [dd_big (by omega), dd_big (show 10 ≤ n / 10 by omega), dd_big (show 10 ≤ n / 10 / 10 by omega), dd_small (show n / 10 / 10 / 10 < 10 by omega)]; exact ⟨by simp, by simp⟩
set_option maxHeartbeats 1000000 in
set_option maxRecDepth 100000 in
theorem padded_any (n wide : Nat) (h1 : n ≤ 9999) (h2 : wide ≤ 4) (w : World) (hG : GT w) :
    Calls Tryz.prog 88 #[.int .i64 (n : Int), .int .i64 (wide : Int)] w fun e w' => e = .returned (.string ⟨(padL n wide).toArray⟩) ∧ Below w.heap.size w w' := by
  have HI := hidM (itoa_any n h1 w hG)
  have hl := dd_len n h1
  have HT : Hid ((⟨(List.replicate (wide - (Lib.decDigits n).length) (48 : UInt8)).toArray⟩ : ByteArray) ++ ⟨(Lib.decDigits n).toArray⟩ = ⟨(padL n wide).toArray⟩) := by
    unfold Hid padL; apply ByteArray.ext; simp [ByteArray.data_append]
  have hs : (⟨(Lib.decDigits n).toArray⟩ : ByteArray).size = (Lib.decDigits n).length := by show (Lib.decDigits n).toArray.size = _; simp
  generalize hq : (⟨(Lib.decDigits n).toArray⟩ : ByteArray) = T at *
  generalize (Lib.decDigits n).length = L at *
  obtain ⟨c, hc⟩ : ∃ c, c = wide - L := ⟨_, rfl⟩
  have HR := hidM (fun V => Tryz.strings_Repeat ⟨#[48]⟩ c V (by omega) (by show 1 * c ≤ _; omega))
  have hrs : ∀ c, (⟨(List.replicate c (48 : UInt8)).toArray⟩ : ByteArray).size = c := fun c => by show (List.replicate c (48 : UInt8)).toArray.size = c; simp
  have hr1 := hrs c
  rw [rep48] at HR
  rw [← hc] at HT
  have hTs : T.size ≤ 4 := by omega
  have HE1 : Hid (max 0 ((wide : Int) - (T.size : Int)) = (c : Int)) := by unfold Hid; omega
  generalize (⟨(List.replicate c (48 : UInt8)).toArray⟩ : ByteArray) = Z at *
  have c4 : c ≤ 4 := by omega
  clear hq hG hrs hc hl hs
  go_enter Tryz.func88, Tryz.ntmps88
  go_wp2_with fail
  refine HI.out.mono ?_
  rintro _ w1 ⟨rfl, hb1⟩
  have HB1 := hidM hb1
  clear hb1
  go_wp2_with fail
  rw [HE1.out]
  refine (HR.out w1).mono ?_
  rintro _ w2 ⟨rfl, hb2⟩
  have HB2 := hidM (HB1.out.trans (hb2.mono HB1.out.size))
  clear hb2
  go_wp2
  go_ret
  exact ⟨by rw [← HT.out]; rfl, HB2.out⟩
def b2 (n : Nat) : ByteArray := ⟨(d2 n).toArray⟩
def b4 (n : Nat) : ByteArray := ⟨(d4 n).toArray⟩
theorem padded2_any (n : Nat) (h : n < 100) (w : World) (hG : GT w) : Calls Tryz.prog 88 #[.int .i64 (n : Int), .int .i64 2] w fun e w' => e = .returned (.string (b2 n)) ∧ Below w.heap.size w w' := by
  have := padded_any n 2 (by omega) (by omega) w hG
  rw [pad2 n h] at this
  exact this
theorem padded4_any (n : Nat) (h : n < 10000) (w : World) (hG : GT w) : Calls Tryz.prog 88 #[.int .i64 (n : Int), .int .i64 4] w fun e w' => e = .returned (.string (b4 n)) ∧ Below w.heap.size w w' := by
  have := padded_any n 4 (by omega) (by omega) w hG
  rw [pad4 n h] at this
  exact this
theorem b2_size (n : Nat) : (b2 n).size = 2 := rfl
theorem b4_size (n : Nat) : (b4 n).size = 4 := rfl
end Go.Proofs.YtmhjdahmmdfbcaaGreatDoor
