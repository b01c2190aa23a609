/-
  Taken over from another program: ObjA.
  Taken over from another program: ObjB.
-/
import Derived.Test.YtlmeoahcpmikiaaGreatDoorJShelf
import Derived.Test.YtlmeoahcpmikiaaGreatDoorJNumA
import Derived.Lib.ItoaLen
import Derived.Deep.RegionHeld3
import Derived.WalkSmall
namespace Go.Proofs.YtlmeoahcpmikiaaGreatDoor
open Go.RowKit
def nm : Nat → List UInt8
  | 1 => [99, 111, 109, 109, 105, 116]
  | 2 => [116, 114, 101, 101]
  | 3 => [98, 108, 111, 98]
  | 4 => [116, 97, 103]
  | _ => []
def nameL (k : Int) : List UInt8 := if 0 ≤ k then nm k.toNat else []
def NamesAt (w : World) : Prop := 0 < w.heap.size ∧ ∀ i, i < 5 → w.cell? ⟨0, i, none⟩ = some (.string ⟨(nm i).toArray⟩)
theorem nm_big (i : Nat) (h : 5 ≤ i) : nm i = [] := by
  unfold nm; split <;> first | omega | rfl
theorem nameL_neg (k : Int) (h : k < 0) : nameL k = [] := by unfold nameL; rw [if_neg (by omega)]
theorem nameL_big (k : Int) (h : 5 ≤ k) : nameL k = [] := by unfold nameL; rw [if_pos (by omega), nm_big _ (by omega)]
theorem name_any (k : Int) (w : World) (hN : NamesAt w) :
    Calls Tryz.prog 60 #[.int .i64 k] w fun e w' => e = .returned (.string ⟨(nameL k).toArray⟩) ∧ w' = w := by
  by_cases h0 : k < 0
  · have hn := hidMO (nameL_neg k h0)
    go_enter Tryz.func60, Tryz.ntmps60
    go_wp2
    go_ret
    exact ⟨by rw [hn.out]; rfl, rfl⟩
  by_cases h5 : 5 ≤ k
  · have hn := hidMO (nameL_big k h5)
    go_enter Tryz.func60, Tryz.ntmps60
    go_wp2
    go_ret
    exact ⟨by rw [hn.out]; rfl, rfl⟩
  obtain ⟨i, hi, rfl⟩ : ∃ i : Nat, i < 5 ∧ k = (i : Int) := ⟨k.toNat, by omega, by omega⟩
  have hc := hN.2 i hi
  have hn : Hid (nameL (i : Int) = nm i) := by unfold Hid nameL; rw [if_pos (by omega), Int.toNat_natCast]
  clear hN
  go_enter Tryz.func60, Tryz.ntmps60
  go_wp2
  go_ret
  exact ⟨by rw [hn.out]; rfl, rfl⟩
theorem NamesAt.below {w w' : World} (h : NamesAt w) (hb : Below w.heap.size w w') : NamesAt w' :=
  ⟨Nat.lt_of_lt_of_le h.1 hb.size, fun i hi => (hb.cell (p := ⟨0, i, none⟩) h.1).trans (h.2 i hi)⟩
def checkE (k : Int) (n : Nat) : Nat := if nameL k = [] then 10 else if 65000 < n then 2 else 0
set_option maxHeartbeats 1600000 in
theorem check_any (k : Int) (d : ByteArray) (w : World) (hN : NamesAt w) :
    Calls Tryz.prog 79 #[.agg #[.int .i64 k, .string d]] w fun e w' => e = .returned (.int .i64 (checkE k d.size : Nat)) ∧ Below w.heap.size w w' := by
  have HB : Hid (Below w.heap.size w (w.alloc (.cells #[.int .i64 k, .string d] 29))) := (Below.refl _ _).alloc (Nat.le_refl _) _
  have HN := hidMO (hN.below HB.out)
  have hc1 : (w.alloc (.cells #[.int .i64 k, .string d] 29)).cell? ⟨w.heap.size, 1, none⟩ = some (.string d) := by simp
  clear hN
  go_enter Tryz.func79, Tryz.ntmps79
  go_wp2_with fail
  generalize w.alloc (.cells #[.int .i64 k, .string d] 29) = W at *
  refine (name_any k W HN.out).mono ?_
  rintro _ w1 ⟨rfl, rfl⟩
  have HE : Hid (checkE k d.size = if nameL k = [] then 10 else if 65000 < d.size then 2 else 0) := rfl
  by_cases h1 : nameL k = []
  · have e1 : (⟨(nameL k).toArray⟩ : ByteArray) = ⟨#[]⟩ := by rw [h1]
    rw [if_pos h1] at HE
    rw [e1]
    clear h1 e1
    go_wp2
    go_ret
    exact ⟨by rw [HE.out]; rfl, HB.out⟩
  · rw [if_neg h1] at HE
    have e1 : (nameL k).isEmpty = false := by cases h : nameL k <;> simp_all
    clear h1
    generalize nameL k = L at *
    by_cases h2 : 65000 < d.size
    · rw [if_pos h2] at HE
      have g2 : decide ((65000 : Int) < (d.size : Int)) = true := by simp; omega
      go_wp2
      go_ret
      exact ⟨by rw [HE.out]; rfl, HB.out⟩
    · rw [if_neg h2] at HE
      have g2 : decide ((65000 : Int) < (d.size : Int)) = false := by simp; omega
      go_wp2
      go_ret
      exact ⟨by rw [HE.out]; rfl, HB.out⟩
/-- what the rows list, as far as the walks read it -/
structure LaidAt (w : World) : Prop where
  names : NamesAt w
  two : 3 < w.heap.size
  pow : Lib.TabIs Tryz.prog w "internal/strconv.uint64pow10" .u64 Lib.pow10Tab
theorem gPow : Tryz.prog.globalNamed "internal/strconv.uint64pow10" = some 3 := by kernel_rfl
theorem LaidAt.below {w w' : World} (h : LaidAt w) (hb : Below w.heap.size w w') : LaidAt w' := by
  refine ⟨h.names.below hb, Nat.lt_of_lt_of_le h.two hb.size, ?_⟩
  have h1 := h.pow
  unfold Lib.TabIs World.var? at h1 ⊢
  rw [gPow] at h1 ⊢
  simp only [Option.bind_some] at h1 ⊢
  rw [hb.block 3 h.two]
  exact h1
theorem LaidAt.drewN {w : World} (h : LaidAt w) (m : Nat) : LaidAt (w.drewN m) := h.below (below_drewN (Below.refl _ _) m)
theorem itoa_any (n : Int) (h0 : -9223372036854775808 ≤ n) (h1 : n ≤ 9223372036854775807) (w : World) (h : LaidAt w) :
    Calls Tryz.prog 80 #[.int .i64 n] w fun e w' => e = .returned (.string ⟨(Lib.itoa n).toArray⟩) ∧ Below w.heap.size w w' := by
  refine (Tryz.strconv_Itoa n h0 h1 w h.pow).mono ?_
  rintro e w' ⟨he, k, os, rfl⟩
  refine ⟨he, ⟨rfl, rfl, rfl, by simp [Sort.grow], fun k hk => ?_⟩⟩
  show (w.heap ++ os)[k]? = w.heap[k]?
  rw [Array.getElem?_append_left hk]
/-- V is w but for draws -/
def DrewOfO (w V : World) : Prop := Below w.heap.size w V ∧ V.heap = w.heap
theorem DrewOfO.self (w : World) : DrewOfO w w := ⟨Below.refl _ _, rfl⟩
theorem DrewOfO.drew {w V : World} (h : DrewOfO w V) : DrewOfO w V.drew := ⟨h.1.trans ⟨rfl, rfl, rfl, Nat.le_refl _, fun _ _ => rfl⟩, h.2⟩
theorem DrewOfO.drewN {w V : World} (h : DrewOfO w V) (m : Nat) : DrewOfO w (V.drewN m) := ⟨below_drewN h.1 m, h.2⟩
theorem DrewOfO.below {w V w' : World} (h : DrewOfO w V) (hb : Below V.heap.size V w') : Below w.heap.size w w' := by
  have := hb
  rw [h.2] at this
  exact h.1.trans this
theorem LaidAt.drewOf {w V : World} (h : LaidAt w) (hd : DrewOfO w V) : LaidAt V := h.below hd.1
def encL (k : Int) (d : List UInt8) : List UInt8 := nameL k ++ [32] ++ Lib.itoa (d.length : Nat) ++ [0] ++ d
theorem keepE {w1 w2 : World} {b : Nat} {k : Int} {d : ByteArray} (hb : Below w1.heap.size w1 w2) (hlt : b < w1.heap.size) (h : w1.cell? ⟨b, 0, none⟩ = some (.int .i64 k) ∧ w1.cell? ⟨b, 1, none⟩ = some (.string d)) :
    w2.cell? ⟨b, 0, none⟩ = some (.int .i64 k) ∧ w2.cell? ⟨b, 1, none⟩ = some (.string d) :=
  ⟨(hb.cell (p := ⟨b, 0, none⟩) hlt).trans h.1, (hb.cell (p := ⟨b, 1, none⟩) hlt).trans h.2⟩
theorem nm_len (i : Nat) : (nm i).length ≤ 6 := by unfold nm; split <;> decide
theorem nameL_len (k : Int) : (nameL k).length ≤ 6 := by
  unfold nameL; split
  · exact nm_len _
  · decide
set_option maxHeartbeats 3200000 in
theorem encode_yes (k : Int) (d : ByteArray) (w : World) (hL : LaidAt w) (hk : nameL k ≠ []) (hd : d.size ≤ 65000) :
    Calls Tryz.prog 34 #[.agg #[.int .i64 k, .string d]] w fun e w' => e = .returned (.tuple #[.string ⟨(encL k d.data.toList).toArray⟩, .int .i64 0]) ∧ Below w.heap.size w w' := by
  have HB : Hid (Below w.heap.size w (w.alloc (.cells #[.int .i64 k, .string d] 29))) := (Below.refl _ _).alloc (Nat.le_refl _) _
  have HN := hidMO (hL.below HB.out)
  have hc0 : (w.alloc (.cells #[.int .i64 k, .string d] 29)).cell? ⟨w.heap.size, 0, none⟩ = some (.int .i64 k) := by simp
  have hc1 : (w.alloc (.cells #[.int .i64 k, .string d] 29)).cell? ⟨w.heap.size, 1, none⟩ = some (.string d) := by simp
  have hlt : Hid (w.heap.size < (w.alloc (.cells #[.int .i64 k, .string d] 29)).heap.size) := by unfold Hid; simp
  clear hL
  go_enter Tryz.func34, Tryz.ntmps34
  go_wp2_with fail
  generalize w.alloc (.cells #[.int .i64 k, .string d] 29) = W at *
  refine (check_any k d W HN.out.names).mono ?_
  rintro _ w1 ⟨rfl, hb1⟩
  have HE : checkE k d.size = 0 := by unfold checkE; rw [if_neg hk, if_neg (by omega)]
  rw [HE]
  have hd0 : w1.cell? ⟨w.heap.size, 0, none⟩ = some (.int .i64 k) := (hb1.cell (p := ⟨w.heap.size, 0, none⟩) hlt.out).trans hc0
  have hd1 : w1.cell? ⟨w.heap.size, 1, none⟩ = some (.string d) := (hb1.cell (p := ⟨w.heap.size, 1, none⟩) hlt.out).trans hc1
  have HS : Hid (w1.cell? ⟨w.heap.size, 0, none⟩ = some (.int .i64 k) ∧ w1.cell? ⟨w.heap.size, 1, none⟩ = some (.string d)) := ⟨hd0, hd1⟩
  have HL1 := hidMO (HN.out.below hb1)
  have HLT : Hid (w.heap.size < w1.heap.size) := Nat.lt_of_lt_of_le hlt.out hb1.size
  have HB1 := hidMO (HB.out.trans (hb1.mono (Nat.le_of_lt hlt.out)))
  have HNM : Hid (∀ V, DrewOfO w1 V → Calls Tryz.prog 60 #[.int .i64 k] V fun e w' => e = .returned (.string ⟨(nameL k).toArray⟩) ∧ w' = V) := fun V hV => name_any k _ (HL1.out.drewOf hV).names
  have HIT : Hid (∀ V, DrewOfO w1 V → Calls Tryz.prog 80 #[.int .i64 (d.size : Int)] V fun e w' => e = .returned (.string ⟨(Lib.itoa (d.size : Int)).toArray⟩) ∧ Below w1.heap.size w1 w') := fun V hV => (itoa_any _ (by omega) (by omega) _ (HL1.out.drewOf hV)).mono fun e w' h => ⟨h.1, hV.below h.2⟩
  have hl1 : (⟨(nameL k).toArray⟩ : ByteArray).size ≤ 6 := by
    show (nameL k).toArray.size ≤ 6
    rw [List.size_toArray]; exact nameL_len k
  have hl2 : (⟨(Lib.itoa (d.size : Int)).toArray⟩ : ByteArray).size ≤ 21 := by
    show (Lib.itoa (d.size : Int)).toArray.size ≤ 21
    rw [List.size_toArray]; exact Lib.itoa_length_le _ (by omega) (by omega)
  have HFIN : Hid ((⟨(nameL k).toArray⟩ : ByteArray) ++ ⟨#[32]⟩ ++ ⟨(Lib.itoa (d.size : Int)).toArray⟩ ++ ⟨#[0]⟩ ++ d = ⟨(encL k d.data.toList).toArray⟩) := by
    unfold Hid encL; apply ByteArray.ext; simp [ByteArray.data_append]
  generalize (⟨(nameL k).toArray⟩ : ByteArray) = A at *
  generalize (⟨(Lib.itoa (d.size : Int)).toArray⟩ : ByteArray) = I at *
  clear hb1 hc0 hc1 hlt HN HB HE hk
  have q1 : ¬ 9223372036854775807 < A.size + 1 := by omega
  have q2 : ¬ 9223372036854775807 < A.size + 1 + I.size := by omega
  have q3 : ¬ 9223372036854775807 < A.size + 1 + I.size + 1 := by omega
  have q4 : ¬ 9223372036854775807 < A.size + 1 + I.size + 1 + d.size := by omega
  go_wp2_with fail
  go_region_held3 (fun w' => w'.cell? ⟨w.heap.size, 0, none⟩ = some (.int .i64 k) ∧ w'.cell? ⟨w.heap.size, 1, none⟩ = some (.string d)) (first | exact keepE hb2 HLT.out HS.out | go_keep)
    (first
      | (go_at_call 60; with_reducible refine (HNM.out _ (by repeat (first | exact DrewOfO.self _ | apply DrewOfO.drew | apply DrewOfO.drewN))).mono ?_; rintro e w' ⟨rfl, rfl⟩)
      | (go_at_call 80; with_reducible refine (HIT.out _ (by repeat (first | exact DrewOfO.self _ | apply DrewOfO.drew | apply DrewOfO.drewN))).mono ?_; rintro e w2 ⟨rfl, hb2⟩))
  all_goals (go_wp2; go_ret2; exact ⟨by rw [← HFIN.out]; rfl, HB1.out.trans (hb2.mono (Nat.le_of_lt HLT.out))⟩)
set_option maxHeartbeats 3200000 in
theorem encode_no (k : Int) (d : ByteArray) (w : World) (hL : LaidAt w) (hE : checkE k d.size ≠ 0) :
    Calls Tryz.prog 34 #[.agg #[.int .i64 k, .string d]] w fun e w' => e = .returned (.tuple #[.string ⟨#[]⟩, .int .i64 (checkE k d.size : Nat)]) ∧ Below w.heap.size w w' := by
  have HB : Hid (Below w.heap.size w (w.alloc (.cells #[.int .i64 k, .string d] 29))) := (Below.refl _ _).alloc (Nat.le_refl _) _
  have HN := hidMO (hL.below HB.out)
  have hc0 : (w.alloc (.cells #[.int .i64 k, .string d] 29)).cell? ⟨w.heap.size, 0, none⟩ = some (.int .i64 k) := by simp
  have hc1 : (w.alloc (.cells #[.int .i64 k, .string d] 29)).cell? ⟨w.heap.size, 1, none⟩ = some (.string d) := by simp
  have hlt : Hid (w.heap.size < (w.alloc (.cells #[.int .i64 k, .string d] 29)).heap.size) := by unfold Hid; simp
  clear hL
  go_enter Tryz.func34, Tryz.ntmps34
  go_wp2_with fail
  generalize w.alloc (.cells #[.int .i64 k, .string d] 29) = W at *
  refine (check_any k d W HN.out.names).mono ?_
  rintro _ w1 ⟨rfl, hb1⟩
  have HB1 := hidMO (HB.out.trans (hb1.mono (Nat.le_of_lt hlt.out)))
  have g : ¬ ((checkE k d.size : Nat) : Int) = 0 := by omega
  have g' : (((checkE k d.size : Nat) : Int) == 0) = false := beq_false_of_ne g
  clear hb1 hc0 hc1 hlt HN HB
  go_wp2
  go_ret2
  exact ⟨rfl, HB1.out⟩
/-- what Encode answers -/
def encT (k : Int) (d : List UInt8) : List UInt8 := if checkE k d.length = 0 then encL k d else []
theorem checkE_zero {k : Int} {n : Nat} : checkE k n = 0 ↔ nameL k ≠ [] ∧ n ≤ 65000 := by
  unfold checkE
  split
  · simp [*]
  · split <;> simp [*] <;> omega
theorem encode_any (k : Int) (d : ByteArray) (w : World) (hL : LaidAt w) :
    Calls Tryz.prog 34 #[.agg #[.int .i64 k, .string d]] w fun e w' => e = .returned (.tuple #[.string ⟨(encT k d.data.toList).toArray⟩, .int .i64 (checkE k d.size : Nat)]) ∧ Below w.heap.size w w' := by
  have hl : d.data.toList.length = d.size := by simp
  by_cases h : checkE k d.size = 0
  · have h' := checkE_zero.1 h
    refine (encode_yes k d w hL h'.1 h'.2).mono fun e w' ⟨he, hb⟩ => ⟨?_, hb⟩
    rw [he, h]; unfold encT; rw [if_pos (by rw [hl]; exact h)]; rfl
  · refine (encode_no k d w hL h).mono fun e w' ⟨he, hb⟩ => ⟨?_, hb⟩
    rw [he]; unfold encT; rw [if_neg (by rw [hl]; exact h)]
theorem encT_len (k : Int) (d : List UInt8) : (encT k d).length ≤ 65100 := by
  unfold encT
  split
  · rename_i h
    have h' := checkE_zero.1 h
    unfold encL
    have h1 := nameL_len k
    have h2 := Lib.itoa_length_le (d.length : Nat) (by omega) (by omega)
    simp only [List.length_append, List.length_cons, List.length_nil]
    omega
  · simp
/-- what Id answers -/
def idT (k : Int) (d : List UInt8) : List UInt8 := if checkE k d.length = 0 then hexL (sha1L (encL k d)) else []
end Go.Proofs.YtlmeoahcpmikiaaGreatDoor
namespace Go.Proofs.YtlmeoahcpmikiaaGreatDoor
open Go.RowKit
set_option maxHeartbeats 3200000 in
theorem id_no (k : Int) (d : ByteArray) (w : World) (hL : LaidAt w) (h : checkE k d.size ≠ 0) :
    Calls Tryz.prog 11 #[.agg #[.int .i64 k, .string d]] w fun e w' => e = .returned (.tuple #[.string ⟨#[]⟩, .int .i64 (checkE k d.size : Nat)]) ∧ Below w.heap.size w w' := by
  have g : ¬ ((checkE k d.size : Nat) : Int) = 0 := by omega
  have g' : (((checkE k d.size : Nat) : Int) == 0) = false := beq_false_of_ne g
  have HB : Hid (Below w.heap.size w (w.alloc (.cells #[.int .i64 k, .string d] 29))) := (Below.refl _ _).alloc (Nat.le_refl _) _
  have HN := hidMO (hL.below HB.out)
  have hlt : Hid (w.heap.size < (w.alloc (.cells #[.int .i64 k, .string d] 29)).heap.size) := by unfold Hid; simp
  clear hL
  go_enter Tryz.func11, Tryz.ntmps11
  go_wp2_with fail
  generalize w.alloc (.cells #[.int .i64 k, .string d] 29) = W at *
  refine (encode_no k d W HN.out h).mono ?_
  rintro _ w1 ⟨rfl, hb1⟩
  have HB1 := hidMO (HB.out.trans (hb1.mono (Nat.le_of_lt hlt.out)))
  clear hb1 hlt HN HB
  go_wp2
  go_ret2
  exact ⟨rfl, HB1.out⟩
theorem two_le {a b c : World} {B : Nat} (h : Below B a b) (hb : Below b.heap.size b c) (hB : B ≤ b.heap.size) : Below B a c := h.trans (hb.mono hB)
set_option maxHeartbeats 3200000 in
theorem id_yes (k : Int) (d : ByteArray) (w : World) (hL : LaidAt w) (h : checkE k d.size = 0) :
    Calls Tryz.prog 11 #[.agg #[.int .i64 k, .string d]] w fun e w' => e = .returned (.tuple #[.string ⟨(hexL (sha1L (encL k d.data.toList))).toArray⟩, .int .i64 0]) ∧ Below w.heap.size w w' := by
  have h' := checkE_zero.1 h
  have HB : Hid (Below w.heap.size w (w.alloc (.cells #[.int .i64 k, .string d] 29))) := (Below.refl _ _).alloc (Nat.le_refl _) _
  have HN := hidMO (hL.below HB.out)
  have hlt : Hid (w.heap.size < (w.alloc (.cells #[.int .i64 k, .string d] 29)).heap.size) := by unfold Hid; simp
  have HS : Hid ((⟨(encL k d.data.toList).toArray⟩ : ByteArray).size ≤ 549755813888) := by
    unfold Hid
    show (encL k d.data.toList).toArray.size ≤ _
    rw [List.size_toArray]
    have := encT_len k d.data.toList
    unfold encT at this
    rw [if_pos (by simpa using h)] at this
    omega
  clear hL
  go_enter Tryz.func11, Tryz.ntmps11
  go_wp2_with fail
  generalize w.alloc (.cells #[.int .i64 k, .string d] 29) = W at *
  refine (encode_yes k d W HN.out h'.1 h'.2).mono ?_
  rintro _ w1 ⟨rfl, hb1⟩
  have HB1 := hidMO (HB.out.trans (hb1.mono (Nat.le_of_lt hlt.out)))
  have HZ1 : Hid (w.heap.size ≤ w1.heap.size) := Nat.le_trans (Nat.le_of_lt hlt.out) hb1.size
  clear hb1 hlt HN HB h h'
  have HD : Hid ((⟨(encL k d.data.toList).toArray⟩ : ByteArray).data.toList = encL k d.data.toList) := rfl
  generalize (⟨(encL k d.data.toList).toArray⟩ : ByteArray) = T at *
  go_wp2_with fail
  refine (once1_any T w1 HS.out).mono ?_
  rintro _ w2 ⟨rfl, hb2⟩
  have HB2 := hidMO (two_le HB1.out hb2 HZ1.out)
  have HZ2 : Hid (w.heap.size ≤ w2.heap.size) := Nat.le_trans HZ1.out hb2.size
  have HS2 : Hid ((⟨(sha1L T.data.toList).toArray⟩ : ByteArray).size ≤ 1048576) := by
    unfold Hid; show (sha1L T.data.toList).toArray.size ≤ _; rw [List.size_toArray, sha1L_len]; decide
  have HD2 : Hid ((⟨(sha1L T.data.toList).toArray⟩ : ByteArray).data.toList = sha1L (encL k d.data.toList)) := by unfold Hid; rw [HD.out]
  clear hb2
  generalize (⟨(sha1L T.data.toList).toArray⟩ : ByteArray) = S at *
  go_wp2_with fail
  refine (hex_any S w2 HS2.out).mono ?_
  rintro _ w3 ⟨rfl, hb3⟩
  have HB3 := hidMO (two_le HB2.out hb3 HZ2.out)
  clear hb3
  rw [HD2.out]
  go_wp2
  go_ret2
  exact ⟨rfl, HB3.out⟩
theorem id_any (k : Int) (d : ByteArray) (w : World) (hL : LaidAt w) :
    Calls Tryz.prog 11 #[.agg #[.int .i64 k, .string d]] w fun e w' => e = .returned (.tuple #[.string ⟨(idT k d.data.toList).toArray⟩, .int .i64 (checkE k d.size : Nat)]) ∧ Below w.heap.size w w' := by
  have hl : d.data.toList.length = d.size := by simp
  by_cases h : checkE k d.size = 0
  · refine (id_yes k d w hL h).mono fun e w' ⟨he, hb⟩ => ⟨?_, hb⟩
    rw [he, h]; unfold idT; rw [if_pos (by rw [hl]; exact h)]; rfl
  · refine (id_no k d w hL h).mono fun e w' ⟨he, hb⟩ => ⟨?_, hb⟩
    rw [he]; unfold idT; rw [if_neg (by rw [hl]; exact h)]
end Go.Proofs.YtlmeoahcpmikiaaGreatDoor
