/-
  The document's Check, Text and Id.
  A text that was made is told apart again, and back.
  ObjectTexts: the walk.
-/
import Derived.Test.YtddoemeellbhaaaGreatDoorJRefX
import Derived.Test.YtddoemeellbhaaaGreatDoorJDecA
namespace Go.Proofs.YtddoemeellbhaaaGreatDoor
open Go.RowKit
set_option maxHeartbeats 1600000 in
theorem rcheck_any (k : Int) (d : ByteArray) (w : World) :
    Calls Tryz.prog 23 #[.agg #[.int .i64 k, .string d]] w fun e w' => e = .returned (.int .i64 (checkE k d.size : Nat)) ∧ Below w.heap.size w w' := by
  have HB : Hid (Below w.heap.size w (w.alloc (.cells #[.int .i64 k, .string d] 32))) := (Below.refl _ _).alloc (Nat.le_refl _) _
  have HG : Hid ((w.alloc (.cells #[.int .i64 k, .string d] 32)).heap[w.heap.size]? = some (.cells #[.int .i64 k, .string d] 32 (0, 0))) := heap_alloc_new w _
  have HZ : Hid (w.heap.size < (w.alloc (.cells #[.int .i64 k, .string d] 32)).heap.size) := by unfold Hid; simp
  go_enter Tryz.func23, Tryz.ntmps23
  go_wp2_with fail
  generalize w.alloc (.cells #[.int .i64 k, .string d] 32) = W at *
  refine (rname_any k W).mono ?_
  rintro _ w1 ⟨rfl, hb1⟩
  have HG1 : w1.heap[w.heap.size]? = some (.cells #[.int .i64 k, .string d] 32 (0, 0)) := (hb1.block _ HZ.out).trans HG.out
  have hc1 : w1.cell? ⟨w.heap.size, 1, none⟩ = some (.string d) := by rw [cell_of_row w1 _ 1 _ 32 (0, 0) HG1]; rfl
  have HB1 := hidMO (two_le HB.out hb1 HB.out.size)
  clear hb1 HG1
  have HE : Hid (checkE k d.size = if nameL k = [] then 10 else if 65000 < d.size then 2 else 0) := rfl
  by_cases h1 : nameL k = []
  · have e1 : (⟨(nameL k).toArray⟩ : ByteArray) = ⟨#[]⟩ := by rw [h1]
    rw [if_pos h1] at HE
    rw [e1]
    clear h1 e1
    go_wp2
    go_ret
    exact ⟨by rw [HE.out]; rfl, HB1.out⟩
  · rw [if_neg h1] at HE
    have e1 : (nameL k).isEmpty = false := by cases h : nameL k <;> simp_all
    clear h1
    generalize nameL k = L at *
    by_cases h2 : 65000 < d.size
    · rw [if_pos h2] at HE
      have g2 : decide ((65000 : Int) < (d.size : Int)) = true := by simp; omega
      go_wp2
      go_ret
      exact ⟨by rw [HE.out]; rfl, HB1.out⟩
    · rw [if_neg h2] at HE
      have g2 : decide ((65000 : Int) < (d.size : Int)) = false := by simp; omega
      go_wp2
      go_ret
      exact ⟨by rw [HE.out]; rfl, HB1.out⟩
set_option maxHeartbeats 3200000 in
theorem rtext_any (k : Int) (d : ByteArray) (w : World) (hd : d.size ≤ 65000) :
    Calls Tryz.prog 26 #[.agg #[.int .i64 k, .string d]] w fun e w' => e = .returned (.string ⟨(encL k d.data.toList).toArray⟩) ∧ Below w.heap.size w w' := by
  have HB : Hid (Below w.heap.size w (w.alloc (.cells #[.int .i64 k, .string d] 32))) := (Below.refl _ _).alloc (Nat.le_refl _) _
  have HG : Hid ((w.alloc (.cells #[.int .i64 k, .string d] 32)).heap[w.heap.size]? = some (.cells #[.int .i64 k, .string d] 32 (0, 0))) := heap_alloc_new w _
  have HLT : Hid (w.heap.size < (w.alloc (.cells #[.int .i64 k, .string d] 32)).heap.size) := by unfold Hid; simp
  go_enter Tryz.func26, Tryz.ntmps26
  go_wp2_with fail
  generalize w.alloc (.cells #[.int .i64 k, .string d] 32) = w1 at *
  have hd0 : w1.cell? ⟨w.heap.size, 0, none⟩ = some (.int .i64 k) := by rw [cell_of_row w1 _ 0 _ 32 (0, 0) HG.out]; rfl
  have hd1 : w1.cell? ⟨w.heap.size, 1, none⟩ = some (.string d) := by rw [cell_of_row w1 _ 1 _ 32 (0, 0) HG.out]; rfl
  have HS : Hid (w1.cell? ⟨w.heap.size, 0, none⟩ = some (.int .i64 k) ∧ w1.cell? ⟨w.heap.size, 1, none⟩ = some (.string d)) := ⟨hd0, hd1⟩
  have HNM : Hid (∀ V, DrewOfO w1 V → Calls Tryz.prog 53 #[.int .i64 k] V fun e w' => e = .returned (.string ⟨(nameL k).toArray⟩) ∧ Below w1.heap.size w1 w') := fun V hV => (rname_any k V).mono fun e w' h => ⟨h.1, hV.below h.2⟩
  have HIT : Hid (∀ V, Calls Tryz.prog 60 #[.int .i64 (d.size : Int)] V fun e w' => e = .returned (.string ⟨(Lib.itoa (d.size : Int)).toArray⟩) ∧ ∃ m, w' = V.drewN m) := fun V => digits_any _ V (by omega) (by omega)
  have hl1 : (⟨(nameL k).toArray⟩ : ByteArray).size ≤ 6 := by
    show (nameL k).toArray.size ≤ 6
    rw [List.size_toArray]; exact nameL_len k
  have hl2 : (⟨(Lib.itoa (d.size : Int)).toArray⟩ : ByteArray).size ≤ 21 := by
    show (Lib.itoa (d.size : Int)).toArray.size ≤ 21
    rw [List.size_toArray]; exact Lib.itoa_length_le _ (by omega) (by omega)
  have HFIN : Hid ((⟨(nameL k).toArray⟩ : ByteArray) ++ ⟨#[32]⟩ ++ ⟨(Lib.itoa (d.size : Int)).toArray⟩ ++ ⟨#[0]⟩ ++ d = ⟨(encL k d.data.toList).toArray⟩) := by
    unfold Hid encL; apply ByteArray.ext; simp [ByteArray.data_append]
  generalize (⟨(nameL k).toArray⟩ : ByteArray) = A at *
  generalize (⟨(Lib.itoa (d.size : Int)).toArray⟩ : ByteArray) = I at *
  clear HG
  have q1 : ¬ 9223372036854775807 < A.size + 1 := by omega
  have q2 : ¬ 9223372036854775807 < A.size + 1 + I.size := by omega
  have q3 : ¬ 9223372036854775807 < A.size + 1 + I.size + 1 := by omega
  have q4 : ¬ 9223372036854775807 < A.size + 1 + I.size + 1 + d.size := by omega
  go_wp2_with fail
  go_region_held3 (fun w' => w'.cell? ⟨w.heap.size, 0, none⟩ = some (.int .i64 k) ∧ w'.cell? ⟨w.heap.size, 1, none⟩ = some (.string d)) (first | exact keepE hb2 HLT.out HS.out | go_keep)
    (first
      | (go_at_call 53; with_reducible refine (HNM.out _ (by repeat (first | exact DrewOfO.self _ | apply DrewOfO.drew | apply DrewOfO.drewN))).mono ?_; rintro e w2 ⟨rfl, hb2⟩)
      | (go_at_call 60; with_reducible refine (HIT.out _).mono ?_; rintro e w3 ⟨rfl, m3, rfl⟩))
  all_goals (go_wp2; go_ret; exact ⟨by rw [← HFIN.out]; rfl, below_drewN (HB.out.trans (hb2.mono (Nat.le_of_lt HLT.out))) _⟩)
end Go.Proofs.YtddoemeellbhaaaGreatDoor
namespace Go.Proofs.YtddoemeellbhaaaGreatDoor
open Go.RowKit
theorem splitC_app (c : UInt8) (p q : List UInt8) (h : c ∉ p) : splitC c (p ++ c :: q) = some (p, q) := by
  induction p with
  | nil => unfold splitC; simp
  | cons b p ih =>
    have h1 : b ≠ c := fun e => h (by simp [e])
    show splitC c (b :: (p ++ c :: q)) = _
    unfold splitC
    rw [if_neg h1, ih (fun hc => h (by simp [hc]))]
    rfl
theorem cutR_app (c : UInt8) (p q : List UInt8) (h : c ∉ p) : cutR c (p ++ c :: q) = (p, q, true) := by
  unfold cutR; rw [splitC_app c p q h]
theorem nm_signs : ∀ i, i < 5 → ∀ c ∈ nm i, c ≠ 0 ∧ c ≠ 32 := by decide
theorem nameL_signs (k : Int) (c : UInt8) (h : c ∈ nameL k) : c ≠ 0 ∧ c ≠ 32 := by
  unfold nameL at h
  split at h
  · by_cases h5 : k.toNat < 5
    · exact nm_signs _ h5 c h
    · rw [nm_big _ (by omega)] at h; simp at h
  · simp at h
theorem dig_signs (n : Nat) (c : UInt8) (h : c ∈ Lib.itoa (n : Nat)) : c ≠ 0 ∧ c ≠ 32 := by
  unfold Lib.itoa at h
  rw [if_neg (by omega)] at h
  have h1 := dd_digs _ c h
  unfold isDig at h1
  constructor
  · intro e; rw [e] at h1; revert h1; decide
  · intro e; rw [e] at h1; revert h1; decide
theorem kind_name (k : Int) (h : nameL k ≠ []) : kindL (nameL k) = k.toNat ∧ 1 ≤ k ∧ k ≤ 4 := by
  have h1 : 1 ≤ k ∧ k ≤ 4 := by
    refine Classical.byContradiction fun hn => h ?_
    unfold nameL
    split
    · by_cases h5 : 5 ≤ k.toNat
      · exact nm_big _ h5
      · have : k = 0 := by omega
        subst this; rfl
    · rfl
  obtain rfl | rfl | rfl | rfl : k = 1 ∨ k = 2 ∨ k = 3 ∨ k = 4 := by omega
  all_goals exact ⟨by decide, by decide, by decide⟩
theorem encL_shape (k : Int) (d : List UInt8) : encL k d = (nameL k ++ 32 :: Lib.itoa (d.length : Nat)) ++ 0 :: d := by
  unfold encL; simp
theorem dec_enc (k : Int) (d : List UInt8) (hk : nameL k ≠ []) (hd : d.length ≤ 65000) : decR (encL k d) = (k.toNat, d, 0) := by
  have h0 : (0 : UInt8) ∉ nameL k ++ 32 :: Lib.itoa (d.length : Nat) := by
    intro h
    rcases List.mem_append.1 h with h | h
    · exact (nameL_signs k 0 h).1 rfl
    · rcases List.mem_cons.1 h with h | h
      · revert h; decide
      · exact (dig_signs _ 0 h).1 rfl
  have h32 : (32 : UInt8) ∉ nameL k := fun h => (nameL_signs k 32 h).2 rfl
  have hok : NumOk (Lib.itoa (d.length : Nat)) := (itoa_ok _).2 ⟨by omega, by omega⟩
  unfold decR
  rw [encL_shape, cutR_app 0 _ _ h0]
  simp only
  rw [cutR_app 32 _ _ h32]
  simp only
  rw [numT_yes hok, numV_yes hok, itoa_val _ (by omega), (kind_name k hk).1]
  unfold decQ
  have hkk := (kind_name k hk).2
  rw [if_neg (by decide), if_neg (by omega), if_neg (by omega), if_neg (by omega), if_neg (by omega)]
end Go.Proofs.YtddoemeellbhaaaGreatDoor
namespace Go.Proofs.YtddoemeellbhaaaGreatDoor
open Go.RowKit
theorem encL_len (k : Int) (d : List UInt8) (hd : d.length ≤ 65000) : (encL k d).length ≤ 65100 := by
  unfold encL
  have h1 := nameL_len k
  have h2 := Lib.itoa_length_le (d.length : Nat) (by omega) (by omega)
  simp only [List.length_append, List.length_cons, List.length_nil]
  omega
set_option maxHeartbeats 3200000 in
theorem rid_any (k : Int) (d : ByteArray) (w : World) (hd : d.size ≤ 65000) :
    Calls Tryz.prog 24 #[.agg #[.int .i64 k, .string d]] w fun e w' => e = .returned (.string ⟨(hexL (sha1L (encL k d.data.toList))).toArray⟩) ∧ Below w.heap.size w w' := by
  have HB : Hid (Below w.heap.size w (w.alloc (.cells #[.int .i64 k, .string d] 32))) := (Below.refl _ _).alloc (Nat.le_refl _) _
  have HTX := hidMO (fun W => rtext_any k d W hd)
  have HS : Hid ((⟨(encL k d.data.toList).toArray⟩ : ByteArray).size ≤ 1000000) := by
    unfold Hid
    show (encL k d.data.toList).toArray.size ≤ _
    rw [List.size_toArray]
    have := encL_len k d.data.toList (by simpa using hd)
    omega
  have HSS := hidMO (fun W => rsum1_any ⟨(encL k d.data.toList).toArray⟩ W HS.out)
  have HH2 : Hid ((⟨(sha1L (⟨(encL k d.data.toList).toArray⟩ : ByteArray).data.toList).toArray⟩ : ByteArray).size ≤ 1048576) := by
    unfold Hid; show (sha1L _).toArray.size ≤ _; rw [List.size_toArray, sha1L_len]; decide
  have HHX := hidMO (fun W => rhex_any ⟨(sha1L (⟨(encL k d.data.toList).toArray⟩ : ByteArray).data.toList).toArray⟩ W HH2.out)
  have HX : Hid ((⟨(hexL (⟨(sha1L (⟨(encL k d.data.toList).toArray⟩ : ByteArray).data.toList).toArray⟩ : ByteArray).data.toList).toArray⟩ : ByteArray) = ⟨(hexL (sha1L (encL k d.data.toList))).toArray⟩) := rfl
  rw [HX.out] at HHX
  clear HX HS HH2
  generalize (⟨(hexL (sha1L (encL k d.data.toList))).toArray⟩ : ByteArray) = R at *
  generalize (⟨(sha1L (⟨(encL k d.data.toList).toArray⟩ : ByteArray).data.toList).toArray⟩ : ByteArray) = S at *
  generalize (⟨(encL k d.data.toList).toArray⟩ : ByteArray) = T at *
  go_enter Tryz.func24, Tryz.ntmps24
  go_wp2_with fail
  generalize w.alloc (.cells #[.int .i64 k, .string d] 32) = W at *
  refine (HTX.out _).mono ?_
  rintro _ w1 ⟨rfl, hb1⟩
  have HB1 := hidMO (two_le HB.out hb1 HB.out.size)
  clear hb1
  go_wp2_with fail
  refine (HSS.out _).mono ?_
  rintro _ w2 ⟨rfl, hb2⟩
  have HB2 := hidMO (two_le HB1.out hb2 HB1.out.size)
  clear hb2
  go_wp2_with fail
  refine (HHX.out _).mono ?_
  rintro _ w3 ⟨rfl, hb3⟩
  have HB3 := hidMO (two_le HB2.out hb3 HB2.out.size)
  clear hb3
  go_wp2_with fail
  go_ret
  exact ⟨rfl, HB3.out⟩
end Go.Proofs.YtddoemeellbhaaaGreatDoor
