/-
  The document's Check, Text and Id.
  A text that was made is told apart again, and back.
  ObjectTexts: the walk.
-/
import Derived.Test.YtddoemeellbhaaaGreatDoorJRefX
import Derived.Test.YtddoemeellbhaaaGreatDoorJDecA
namespace Go.Proofs.YtddoemeellbhaaaGreatDoor
open Go.RowKit
set_option maxHeartbeats 3200000 in
theorem rtext_any (k : Int) (d : ByteArray) (w : World) (hd : d.size ≤ 65000) :
    Calls Tryz.prog 26 #[.agg #[.int .i64 k, .string d]] w fun e w' => e = .returned (.string ⟨(encL k d.data.toList).toArray⟩) ∧ Below w.heap.size w w' := by
  have HB : Hid (Below w.heap.size w (w.alloc (.cells #[.int .i64 k, .string d] 32))) := (Below.refl _ _).alloc (Nat.le_refl _) _
  have HG : Hid ((w.alloc (.cells #[.int .i64 k, .string d] 32)).heap[w.heap.size]? = some (.cells #[.int .i64 k, .string d] 32 (0, 0))) := heap_alloc_new w _
  have HLT : Hid (w.heap.size < (w.alloc (.cells #[.int .i64 k, .string d] 32)).heap.size) := by unfold Hid; simp
  go_enter Tryz.func26, Tryz.ntmps26
  go_wp2_with fail
  generalize w.alloc (.cells #[.int .i64 k, .string d] 32) = w1 at *
  have hd0 : w1.cell? ⟨w.heap.size, 0, none⟩ = some (.int .i64 k) := by rw [cell_of_row w1 _ 0 _ 32 (0, 0) HG.out]; rfl
  have hd1 : w1.cell? ⟨w.heap.size, 1, none⟩ = some (.string d) := by rw [cell_of_row w1 _ 1 _ 32 (0, 0) HG.out]; rfl
  have HS : Hid (w1.cell? ⟨w.heap.size, 0, none⟩ = some (.int .i64 k) ∧ w1.cell? ⟨w.heap.size, 1, none⟩ = some (.string d)) := ⟨hd0, hd1⟩
  have HNM : Hid (∀ V, DrewOfO w1 V → Calls Tryz.prog 53 #[.int .i64 k] V fun e w' => e = .returned (.string ⟨(nameL k).toArray⟩) ∧ Below w1.heap.size w1 w') := fun V hV => (rname_any k V).mono fun e w' h => ⟨h.1, hV.below h.2⟩
  have HIT : Hid (∀ V, Calls Tryz.prog 60 #[.int .i64 (d.size : Int)] V fun e w' => e = .returned (.string ⟨(Lib.itoa (d.size : Int)).toArray⟩) ∧ ∃ m, w' = V.drewN m) := fun V => digits_any _ V (by omega) (by omega)
  have hl1 : (⟨(nameL k).toArray⟩ : ByteArray).size ≤ 6 := by
    show (nameL k).toArray.size ≤ 6
    rw [List.size_toArray]; exact nameL_len k
  have hl2 : (⟨(Lib.itoa (d.size : Int)).toArray⟩ : ByteArray).size ≤ 21 := by
    show (Lib.itoa (d.size : Int)).toArray.size ≤ 21
    rw [List.size_toArray]; exact Lib.itoa_length_le _ (by omega) (by omega)
  have HFIN : Hid ((⟨(nameL k).toArray⟩ : ByteArray) ++ ⟨#[32]⟩ ++ ⟨(Lib.itoa (d.size : Int)).toArray⟩ ++ ⟨#[0]⟩ ++ d = ⟨(encL k d.data.toList).toArray⟩) := by
    unfold Hid encL; apply ByteArray.ext; simp [ByteArray.data_append]
  generalize (⟨(nameL k).toArray⟩ : ByteArray) = A at *
  generalize (⟨(Lib.itoa (d.size : Int)).toArray⟩ : ByteArray) = I at *
  clear HG
  have q1 : ¬ 9223372036854775807 < A.size + 1 := by omega
  have q2 : ¬ 9223372036854775807 < A.size + 1 + I.size := by omega
  have q3 : ¬ 9223372036854775807 < A.size + 1 + I.size + 1 := by omega
  have q4 : ¬ 9223372036854775807 < A.size + 1 + I.size + 1 + d.size := by omega
  go_wp2_with fail
  go_region_held3 (fun w' => w'.cell? ⟨w.heap.size, 0, none⟩ = some (.int .i64 k) ∧ w'.cell? ⟨w.heap.size, 1, none⟩ = some (.string d)) (first | exact keepE hb2 HLT.out HS.out | go_keep)
    (first
      | (go_at_call 53; with_reducible refine (HNM.out _ (by repeat (first | exact DrewOfO.self _ | apply DrewOfO.drew | apply DrewOfO.drewN))).mono ?_; rintro e w2 ⟨rfl, hb2⟩)
      | (go_at_call 60; with_reducible refine (HIT.out _).mono ?_; rintro e w3 ⟨rfl, m3, rfl⟩))
  all_goals (go_wp2; go_ret; exact ⟨by rw [← HFIN.out]; rfl, below_drewN (HB.out.trans (hb2.mono (Nat.le_of_lt HLT.out))) _⟩)
end Go.Proofs.YtddoemeellbhaaaGreatDoor
namespace Go.Proofs.YtddoemeellbhaaaGreatDoor
open Go.RowKit
theorem encL_shape (k : Int) (d : List UInt8) : encL k d = (nameL k ++ 32 :: Lib.itoa (d.length : Nat)) ++ 0 :: d := by
  unfold encL; simp
theorem kindL_pos (l : List UInt8) (h : kindL l ≠ 0) : nameL (kindL l : Nat) = l ∧ kindL l ≤ 4 := by
  unfold kindL at h ⊢
  split
  · rename_i he; exact ⟨he.symm ▸ rfl, by decide⟩
  · split
    · rename_i he; exact ⟨he.symm ▸ rfl, by decide⟩
    · split
      · rename_i he; exact ⟨he.symm ▸ rfl, by decide⟩
      · split
        · rename_i he; exact ⟨he.symm ▸ rfl, by decide⟩
        · simp_all
theorem enc_dec (l : List UInt8) (h : (decR l).2.2 = 0) : encL ((decR l).1 : Nat) (decR l).2.1 = l ∧ nameL ((decR l).1 : Nat) ≠ [] ∧ (decR l).2.1.length ≤ 65000 := by
  unfold decR at h ⊢
  cases h0 : splitC 0 l with
  | none => unfold cutR at h; rw [h0] at h; simp only at h; unfold decQ at h; simp at h
  | some x =>
    obtain ⟨p, q⟩ := x
    have hc0 : cutR 0 l = (p, q, true) := by unfold cutR; rw [h0]
    obtain ⟨_, h2, _⟩ := split_some h0
    rw [hc0] at h ⊢
    simp only at h ⊢
    cases h3 : splitC 32 p with
    | none => unfold cutR at h; rw [h3] at h; simp only at h; unfold decQ at h; simp at h
    | some y =>
      obtain ⟨a, b⟩ := y
      have hc1 : cutR 32 p = (a, b, true) := by unfold cutR; rw [h3]
      obtain ⟨_, h5, _⟩ := split_some h3
      rw [hc1] at h ⊢
      simp only at h ⊢
      by_cases hk : NumOk b
      · rw [numT_yes hk, numV_yes hk] at h ⊢
        unfold decQ at h ⊢
        rw [if_neg (by decide)] at h ⊢
        by_cases c1 : kindL a = 0
        · rw [if_pos c1] at h; simp at h
        rw [if_neg c1] at h ⊢
        by_cases c2 : 65000 < valL b
        · rw [if_pos c2] at h; simp at h
        rw [if_neg c2] at h ⊢
        by_cases c3 : q.length < valL b
        · rw [if_pos c3] at h; simp at h
        rw [if_neg c3] at h ⊢
        by_cases c4 : valL b < q.length
        · rw [if_pos c4] at h; simp at h
        rw [if_neg c4]
        simp only
        have hk1 := kindL_pos a c1
        refine ⟨?_, ?_, by omega⟩
        · rw [encL_shape, hk1.1, show q.length = valL b by omega, itoa_back b hk, h2, h5]
        · rw [hk1.1]
          intro he
          rw [he] at c1
          exact c1 (by decide)
      · rw [numT_no hk] at h; unfold decQ at h; simp at h
end Go.Proofs.YtddoemeellbhaaaGreatDoor
namespace Go.Proofs.YtddoemeellbhaaaGreatDoor
open Go.RowKit
theorem encL_len (k : Int) (d : List UInt8) (hd : d.length ≤ 65000) : (encL k d).length ≤ 65100 := by
  unfold encL
  have h1 := nameL_len k
  have h2 := Lib.itoa_length_le (d.length : Nat) (by omega) (by omega)
  simp only [List.length_append, List.length_cons, List.length_nil]
  omega
set_option maxHeartbeats 3200000 in
theorem rid_any (k : Int) (d : ByteArray) (w : World) (hd : d.size ≤ 65000) :
    Calls Tryz.prog 24 #[.agg #[.int .i64 k, .string d]] w fun e w' => e = .returned (.string ⟨(hexL (sha1L (encL k d.data.toList))).toArray⟩) ∧ Below w.heap.size w w' := by
  have HB : Hid (Below w.heap.size w (w.alloc (.cells #[.int .i64 k, .string d] 32))) := (Below.refl _ _).alloc (Nat.le_refl _) _
  have HTX := hidMO (fun W => rtext_any k d W hd)
  have HS : Hid ((⟨(encL k d.data.toList).toArray⟩ : ByteArray).size ≤ 1000000) := by
    unfold Hid
    show (encL k d.data.toList).toArray.size ≤ _
    rw [List.size_toArray]
    have := encL_len k d.data.toList (by simpa using hd)
    omega
  have HSS := hidMO (fun W => rsum1_any ⟨(encL k d.data.toList).toArray⟩ W HS.out)
  have HH2 : Hid ((⟨(sha1L (⟨(encL k d.data.toList).toArray⟩ : ByteArray).data.toList).toArray⟩ : ByteArray).size ≤ 1048576) := by
    unfold Hid; show (sha1L _).toArray.size ≤ _; rw [List.size_toArray, sha1L_len]; decide
  have HHX := hidMO (fun W => rhex_any ⟨(sha1L (⟨(encL k d.data.toList).toArray⟩ : ByteArray).data.toList).toArray⟩ W HH2.out)
  have HX : Hid ((⟨(hexL (⟨(sha1L (⟨(encL k d.data.toList).toArray⟩ : ByteArray).data.toList).toArray⟩ : ByteArray).data.toList).toArray⟩ : ByteArray) = ⟨(hexL (sha1L (encL k d.data.toList))).toArray⟩) := rfl
  rw [HX.out] at HHX
  clear HX HS HH2
  generalize (⟨(hexL (sha1L (encL k d.data.toList))).toArray⟩ : ByteArray) = R at *
  generalize (⟨(sha1L (⟨(encL k d.data.toList).toArray⟩ : ByteArray).data.toList).toArray⟩ : ByteArray) = S at *
  generalize (⟨(encL k d.data.toList).toArray⟩ : ByteArray) = T at *
  go_enter Tryz.func24, Tryz.ntmps24
  go_wp2_with fail
  generalize w.alloc (.cells #[.int .i64 k, .string d] 32) = W at *
  refine (HTX.out _).mono ?_
  rintro _ w1 ⟨rfl, hb1⟩
  have HB1 := hidMO (two_le HB.out hb1 HB.out.size)
  clear hb1
  go_wp2_with fail
  refine (HSS.out _).mono ?_
  rintro _ w2 ⟨rfl, hb2⟩
  have HB2 := hidMO (two_le HB1.out hb2 HB1.out.size)
  clear hb2
  go_wp2_with fail
  refine (HHX.out _).mono ?_
  rintro _ w3 ⟨rfl, hb3⟩
  have HB3 := hidMO (two_le HB2.out hb3 HB2.out.size)
  clear hb3
  go_wp2_with fail
  go_ret
  exact ⟨rfl, HB3.out⟩
end Go.Proofs.YtddoemeellbhaaaGreatDoor
