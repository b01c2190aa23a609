/-
  Walks of the law's own: the document's Hex, Few, awake.
-/
import Derived.Test.YtbodjopdhciaeabDoorShaN
namespace Go.Proofs.YtbodjopdhciaeabDoor
open Go.RowKit

theorem take_snoc (s : ByteArray) (k : Nat) (h : k < s.size) : s.data.toList.take (k + 1) = s.data.toList.take k ++ [s[k]] := by
  rw [List.take_succ_eq_append_getElem (by simpa using h)]; rfl
theorem app_two (P : List UInt8) (a b : UInt8) : (⟨P.toArray⟩ : ByteArray) ++ (⟨#[a]⟩ ++ ⟨#[b]⟩) = ⟨(P ++ [a, b]).toArray⟩ := by
  apply ByteArray.ext
  simp [ByteArray.data_append]
def digL : List UInt8 := [48, 49, 50, 51, 52, 53, 54, 55, 56, 57, 97, 98, 99, 100, 101, 102]
def digS : ByteArray := ⟨digL.toArray⟩
def digN (q : Nat) : UInt8 := digL.getD q 0
theorem dig_at (q : Nat) (h : q < 16) : digS[q]'h = digN q := by
  unfold digN
  rw [List.getD_eq_getElem?_getD, List.getElem?_eq_getElem (h := h)]
  rfl
theorem dig_cut (q : Nat) (h : q < 16) : digS.extract q (q + 1) = ⟨#[digN q]⟩ := by
  have : ∀ q, q < 16 → digS.extract q (q + 1) = ⟨#[digN q]⟩ := by decide
  exact this q h
def hex2 (c : UInt8) : List UInt8 := [digN (c.toNat / 16), digN (c.toNat % 16)]
def hexL (l : List UInt8) : List UInt8 := l.flatMap hex2
theorem hexL_snoc (l : List UInt8) (c : UInt8) : hexL (l ++ [c]) = hexL l ++ hex2 c := by simp [hexL]
theorem hexL_len (l : List UInt8) : (hexL l).length = 2 * l.length := by
  induction l with
  | nil => rfl
  | cons c l ih => show (hex2 c ++ hexL l).length = _; rw [List.length_append, ih]; simp [hex2]; omega
theorem hexL_take (s : ByteArray) (k : Nat) (h : k < s.size) : hexL (s.data.toList.take (k + 1)) = hexL (s.data.toList.take k) ++ hex2 s[k] := by rw [take_snoc s k h, hexL_snoc]


set_option maxHeartbeats 1600000 in
theorem rhex_any (s : ByteArray) (w : World) (hs : s.size ≤ 1048576) :
    Calls Tryd.prog 30 #[.string s] w fun e w' => e = .returned (.string ⟨(hexL s.data.toList).toArray⟩) ∧ Below w.heap.size w w' := by
  go_enter Tryd.func30, Tryd.ntmps30
  go_wp2
  go_loopw [3, 4, 5] (fun v i _ wr => ∃ (k : Nat) (S : ByteArray), k ≤ s.size ∧ i = .int .i64 k ∧ v = .string S ∧ S.size = 2 * k ∧ S = ⟨(hexL (s.data.toList.take k)).toArray⟩ ∧ Below w.heap.size w wr) (fun _ i _ _ => s.size - (intOf i).toNat)
  case atStart => exact ⟨0, ⟨#[]⟩, Nat.zero_le _, rfl, rfl, rfl, rfl, Below.refl _ _⟩
  case round =>
    obtain ⟨k, S, hk, rfl, rfl, hS, hP, hbr⟩ := hrel
    have HP := hidM hP
    have HB := hidM hbr
    have HS := hidM hS
    have hS2 : S.size ≤ 2 * k := by omega
    clear hP hbr hS
    by_cases hlt : k < s.size
    · have hc := byte_lt s[k]
      obtain ⟨c, hcc⟩ : ∃ c, c = s[k].toNat := ⟨_, rfl⟩
      obtain ⟨q1, hq1⟩ : ∃ q, q = c / 16 := ⟨_, rfl⟩
      obtain ⟨q2, hq2⟩ : ∃ q, q = c % 16 := ⟨_, rfl⟩
      have kk : (k : Int) < (s.size : Int) := by omega
      have r0 : (s[k].toNat : Int) = (c : Int) := by omega
      have r1 : (c : Int) / 16 = (q1 : Int) := by omega
      have r2 : (c : Int) % 16 = (q2 : Int) := by omega
      have l1 : q1 < 16 := by omega
      have l2 : q2 < 16 := by omega
      have hcut1 := dig_cut q1 l1
      have hcut2 := dig_cut q2 l2
      unfold digS digL at hcut1 hcut2
      have HX : Hid (hexL (s.data.toList.take (k + 1)) = hexL (s.data.toList.take k) ++ [digN q1, digN q2]) := by unfold Hid; rw [hexL_take s k hlt, hq1, hq2, hcc]; rfl
      clear hq1 hq2
      have HCC := hidM hcc
      clear hcc
      go_wp2
      go_quiet (fail)
      go_wp2
      go_roundw
      case rel =>
        refine ⟨k + 1, _, by omega, by go_num, rfl, ?_, ?_, below_drewN HB.out _⟩
        · have h1 := HS.out
          rw [ByteArray.size_append, ByteArray.size_append, h1]
          show 2 * k + (1 + 1) = _
          omega
        · rw [HX.out, HP.out]; exact app_two _ _ _
      case measure => simp [intOf]; omega
    · have HF : Hid (S = ⟨(hexL s.data.toList).toArray⟩) := by unfold Hid; rw [HP.out, List.take_of_length_le (by simp; omega)]
      go_wp2
      go_ret
      exact ⟨by rw [← HF.out]; rfl, HB.out⟩


set_option maxHeartbeats 400000 in
theorem few_any (s : ByteArray) (n : Nat) (w : World) :
    Calls Tryd.prog 7 #[.string s, .int .i64 n] w fun e w' => (∃ t : ByteArray, e = .returned (.string t) ∧ t.size ≤ n ∧ t.size ≤ s.size) ∧ w' = w := by
  go_enter Tryd.func7, Tryd.ntmps7
  go_wp2
  all_goals go_ret
  · rename_i h
    exact ⟨⟨_, rfl, by simp; omega, by simp; omega⟩, rfl⟩
  · rename_i h
    exact ⟨⟨s, rfl, by omega, Nat.le_refl _⟩, rfl⟩

def abcS : ByteArray := ⟨#[97, 98, 99]⟩
theorem abc1 : hexL (sha1L abcS.data.toList) = [97, 57, 57, 57, 51, 101, 51, 54, 52, 55, 48, 54, 56, 49, 54, 97, 98, 97, 51, 101, 50, 53, 55, 49, 55, 56, 53, 48, 99, 50, 54, 99, 57, 99, 100, 48, 100, 56, 57, 100] := by decide +kernel
theorem abc2 : hexL (sha2L abcS.data.toList) = [98, 97, 55, 56, 49, 54, 98, 102, 56, 102, 48, 49, 99, 102, 101, 97, 52, 49, 52, 49, 52, 48, 100, 101, 53, 100, 97, 101, 50, 50, 50, 51, 98, 48, 48, 51, 54, 49, 97, 51, 57, 54, 49, 55, 55, 97, 57, 99, 98, 52, 49, 48, 102, 102, 54, 49, 102, 50, 48, 48, 49, 53, 97, 100] := by decide +kernel

set_option maxRecDepth 100000 in
set_option maxHeartbeats 800000 in
theorem awake_any (w : World) (hT : Tab2 w) :
    Calls Tryd.prog 8 #[] w fun e w' => e = .returned (.bool true) ∧ Below w.heap.size w w' := by
  have HT := hidM hT
  clear hT
  go_enter Tryd.func8, Tryd.ntmps8
  go_wp2_with fail
  refine (once1_any abcS w (by decide)).mono ?_
  rintro _ w1 ⟨rfl, hb1⟩
  have HB1 := hidM hb1
  have HL1 : Hid ((⟨(sha1L abcS.data.toList).toArray⟩ : ByteArray).size ≤ 1048576) := by
    unfold Hid; show (sha1L abcS.data.toList).toArray.size ≤ _; rw [List.size_toArray, sha1L_len]; decide
  have HX1 : Hid ((⟨(sha1L abcS.data.toList).toArray⟩ : ByteArray).data.toList = sha1L abcS.data.toList) := rfl
  clear hb1
  generalize (⟨(sha1L abcS.data.toList).toArray⟩ : ByteArray) = S1 at *
  go_wp2_with fail
  refine (rhex_any S1 w1 HL1.out).mono ?_
  rintro _ w2 ⟨rfl, hb2⟩
  rw [HX1.out, abc1]
  have HB2 : Hid (Below w.heap.size w w2) := HB1.out.trans (hb2.mono HB1.out.size)
  clear hb2
  go_wp2_with fail
  refine (once2_any abcS w2 (by decide) (HT.out.self HB2.out)).mono ?_
  rintro _ w3 ⟨rfl, hb3⟩
  have HB3 : Hid (Below w.heap.size w w3) := HB2.out.trans (hb3.mono HB2.out.size)
  have HL3 : Hid ((⟨(sha2L abcS.data.toList).toArray⟩ : ByteArray).size ≤ 1048576) := by
    unfold Hid; show (sha2L abcS.data.toList).toArray.size ≤ _; rw [List.size_toArray, sha2L_len]; decide
  have HX3 : Hid ((⟨(sha2L abcS.data.toList).toArray⟩ : ByteArray).data.toList = sha2L abcS.data.toList) := rfl
  clear hb3
  generalize (⟨(sha2L abcS.data.toList).toArray⟩ : ByteArray) = S3 at *
  go_wp2_with fail
  refine (rhex_any S3 w3 HL3.out).mono ?_
  rintro _ w4 ⟨rfl, hb4⟩
  rw [HX3.out, abc2]
  have HB4 : Hid (Below w.heap.size w w4) := HB3.out.trans (hb4.mono HB3.out.size)
  clear hb4
  go_wp2
  go_ret
  exact ⟨rfl, HB4.out⟩
end Go.Proofs.YtbodjopdhciaeabDoor
