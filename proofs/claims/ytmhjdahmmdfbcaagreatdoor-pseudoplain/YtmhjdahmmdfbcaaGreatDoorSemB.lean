/-
  Walks: Cut at one byte, Split at full stops, CutPrefix of v, all.
-/
import Derived.Test.YtmhjdahmmdfbcaaGreatDoorSemA
import Derived.Lib.SplitLaws
namespace Go.Proofs.YtmhjdahmmdfbcaaGreatDoor
open Go.RowKit
def splitC (c : UInt8) : List UInt8 → Option (List UInt8 × List UInt8)
  | [] => none
  | b :: l => if b = c then some ([], l) else (splitC c l).map fun x => (b :: x.1, x.2)
theorem split_none {c : UInt8} {l : List UInt8} (h : splitC c l = none) : Lib.indexByte l c = -1 ∧ c ∉ l := by
  induction l with
  | nil => exact ⟨rfl, by simp⟩
  | cons b l ih =>
    unfold splitC at h
    by_cases hb : b = c
    · rw [if_pos hb] at h; cases h
    · rw [if_neg hb, Option.map_eq_none_iff] at h
      have := ih h
      refine ⟨?_, by simp [this.2, Ne.symm hb]⟩
      unfold Lib.indexByte
      rw [if_neg (by simpa using hb), this.1]
      rfl
theorem split_some {c : UInt8} {l p q : List UInt8} (h : splitC c l = some (p, q)) : Lib.indexByte l c = (p.length : Int) ∧ l = p ++ c :: q ∧ c ∉ p := by
  induction l generalizing p with
  | nil => cases h
  | cons b l ih =>
    unfold splitC at h
    by_cases hb : b = c
    · rw [if_pos hb] at h
      obtain ⟨rfl, rfl⟩ := Prod.mk.inj (Option.some.inj h)
      refine ⟨?_, by rw [hb]; rfl, by simp⟩
      unfold Lib.indexByte
      rw [if_pos (by simpa using hb)]; rfl
    · rw [if_neg hb, Option.map_eq_some_iff] at h
      obtain ⟨⟨p', q'⟩, hx, he⟩ := h
      obtain ⟨rfl, rfl⟩ := Prod.mk.inj he
      obtain ⟨h1, h2, h3⟩ := ih hx
      refine ⟨?_, by rw [h2]; rfl, by simp [h3, Ne.symm hb]⟩
      unfold Lib.indexByte
      rw [if_neg (by simpa using hb), h1, if_neg (by simp)]
      simp
/-- what Cut answers at one byte -/
def cutR (c : UInt8) (l : List UInt8) : List UInt8 × List UInt8 × Bool :=
  match splitC c l with
  | none => (l, [], false)
  | some (p, q) => (p, q, true)
theorem ext_head (s : ByteArray) (k : Nat) : (s.extract 0 k).data.toList = s.data.toList.take k := by simp
theorem ext_tail (s : ByteArray) (k : Nat) : (s.extract k s.size).data.toList = s.data.toList.drop k := by
  rw [ByteArray.data_extract, Array.toList_extract, List.extract_eq_take_drop]
  rw [List.take_of_length_le]
  rw [List.length_drop]; simp
theorem ba_of {s : ByteArray} {l : List UInt8} (h : s.data.toList = l) : s = ⟨l.toArray⟩ := by
  subst h; rfl
set_option maxHeartbeats 1600000 in
theorem cut_in (s : ByteArray) (c : UInt8) (w : World) (hs : s.size ≤ 9223372036854775807) :
    Calls Tryz.prog 74 #[.string s, .string ⟨#[c]⟩] w fun e w' => e = .returned (.tuple #[.string ⟨(cutR c s.data.toList).1.toArray⟩, .string ⟨(cutR c s.data.toList).2.1.toArray⟩, .bool (cutR c s.data.toList).2.2]) ∧ ∃ m, w' = w.drewN m := by
  cases h : splitC c s.data.toList with
  | none =>
    have h1 := (split_none h).1
    have HR : Hid (cutR c s.data.toList = (s.data.toList, [], false)) := by unfold Hid cutR; rw [h]
    have HI : Hid (Calls Tryz.prog 102 #[.string s, .string ⟨#[c]⟩] w fun e w' => e = .returned (.int .i64 (-1)) ∧ w' = w) := by
      have := Tryz.stringslite_Index_one s c w
      rw [h1] at this
      exact this
    clear h h1
    go_enter Tryz.func74, Tryz.ntmps74
    go_wp2_with (go_at_call 102; with_reducible refine HI.out.mono ?_; rintro e w' ⟨rfl, rfl⟩)
    go_ret3
    exact ⟨by rw [HR.out]; rfl, 0, rfl⟩
  | some x =>
    obtain ⟨p, q⟩ := x
    obtain ⟨h1, h2, h3⟩ := split_some h
    have HR : Hid (cutR c s.data.toList = (p, q, true)) := by unfold Hid cutR; rw [h]
    have HI : Hid (Calls Tryz.prog 102 #[.string s, .string ⟨#[c]⟩] w fun e w' => e = .returned (.int .i64 (p.length : Int)) ∧ w' = w) := by
      have := Tryz.stringslite_Index_one s c w
      rw [h1] at this
      exact this
    have hl : p.length + 1 ≤ s.size := by
      have : s.data.toList.length = s.size := by simp
      rw [h2] at this; simp at this; omega
    have HP : Hid (s.extract 0 p.length = ⟨p.toArray⟩) := ba_of (by rw [ext_head, h2, List.take_left])
    have HQ : Hid (s.extract (p.length + 1) s.size = ⟨q.toArray⟩) := ba_of (by rw [ext_tail, h2, List.drop_append, List.drop_of_length_le (by omega)]; simp)
    clear h h1 h2 h3
    generalize p.length = n at *
    have c1 : (0 : Int) ≤ (n : Int) := by omega
    have c2 : (n : Int) ≤ (s.size : Int) := by omega
    have c4 : (n : Int) + 1 ≤ (s.size : Int) := by omega
    have c5 : (0 : Int) ≤ (n : Int) + 1 := by omega
    go_enter Tryz.func74, Tryz.ntmps74
    go_wp2_with (go_at_call 102; with_reducible refine HI.out.mono ?_; rintro e w' ⟨rfl, rfl⟩)
    go_quiet (fail)
    go_wp2
    go_ret3
    exact ⟨by rw [HR.out, ← HP.out, ← HQ.out]; rfl, nq, rfl⟩
theorem cut_any (s : ByteArray) (c : UInt8) (w : World) (hs : s.size ≤ 9223372036854775807) :
    Calls Tryz.prog 45 #[.string s, .string ⟨#[c]⟩] w fun e w' => e = .returned (.tuple #[.string ⟨(cutR c s.data.toList).1.toArray⟩, .string ⟨(cutR c s.data.toList).2.1.toArray⟩, .bool (cutR c s.data.toList).2.2]) ∧ ∃ m, w' = w.drewN m := by
  have HC := hidM (cut_in s c w hs)
  generalize (cutR c s.data.toList).1.toArray = A at *
  generalize (cutR c s.data.toList).2.1.toArray = B at *
  generalize (cutR c s.data.toList).2.2 = D at *
  go_enter Tryz.func45, Tryz.ntmps45
  go_wp2_with fail
  refine HC.out.mono ?_
  rintro _ w1 ⟨rfl, m, rfl⟩
  go_wp2
  go_ret3
  exact ⟨rfl, m, rfl⟩
def stopB : ByteArray := ⟨#[46]⟩
/-- the parts between the full stops -/
def partsB (s : ByteArray) : List ByteArray := Lib.splitB stopB 0 (Lib.countB s stopB) s
theorem index_stopB (x : ByteArray) : Lib.indexB x stopB = Lib.indexByte x.data.toList 46 := Lib.index_one _ _
theorem count_stopB (x : ByteArray) : Lib.countB x stopB = Lib.countByte x.data.toList 46 := Lib.count_one _ _
theorem info9 : (Tryz.prog.info? 9).map (fun i => (i.zero, i.size, i.bytes)) = some (some (.string ByteArray.empty), 1, 16) := by kernel_rfl
theorem split_any (s : ByteArray) (w : World) (hs : s.size ≤ 200) :
    Calls Tryz.prog 46 #[.string s, .string stopB] w fun e w' =>
      e = .returned (.slice (some ⟨w.heap.size, 0, none⟩) (partsB s).length (partsB s).length) ∧ w' = w.alloc (.cells ((partsB s).map Value.string).toArray 9) := by
  have hcl := Lib.countB_le stopB (by decide) s.size s (Nat.le_refl _)
  have hlen := Lib.splitB_all stopB (by decide) 0 _ s rfl
  have HG : Hid (Calls Tryz.prog 75 #[.string s, .string stopB, .int .i64 0, .int .i64 (-1)] w fun e w' => e = .returned (.slice (some ⟨w.heap.size, 0, none⟩) (partsB s).length (partsB s).length) ∧ w' = w.alloc (.cells ((partsB s).map Value.string).toArray 9)) := by
    have c := Any.strings_genSplit_core Tryz.lays221 info9 s stopB 0 (-1) (Lib.countB s stopB + 1) w (by omega) (by decide) (Nat.zero_le _)
      (fun x c _ => by have h := Tryz.strings_Index_one x 46 (w.alloc (.cells c 9)); rw [← index_stopB] at h; exact h)
      (by have h := Tryz.strings_Count_one s 46 w; rw [← count_stopB] at h; exact h)
      (by decide) (by decide) (by rw [if_pos (by decide)]; omega)
    have hl : (partsB s).length = Lib.countB s stopB + 1 := hlen
    refine c.mono fun e w' ⟨he, hw⟩ => ⟨?_, ?_⟩
    · rw [he]
      show Ending.returned (.slice _ (partsB s).length (Lib.countB s stopB + 1)) = _
      rw [hl]
    · rw [hw]
      show w.alloc (.cells (Lib.cellsOf (partsB s) (Lib.countB s stopB + 1)) 9) = _
      unfold Lib.cellsOf
      rw [hl]; simp
  clear hlen hcl
  generalize partsB s = ps at *
  unfold stopB at *
  go_enter Tryz.func46, Tryz.ntmps46
  go_wp2_with fail
  refine HG.out.mono ?_
  rintro _ w1 ⟨rfl, rfl⟩
  go_wp2_with fail
  go_ret
  exact ⟨rfl, rfl⟩
/-- is there a v ahead, and what stands behind it -/
def vCut : List UInt8 → List UInt8 × Bool
  | c :: l => if c = 118 then (l, true) else (c :: l, false)
  | [] => ([], false)
theorem v_pref (l : List UInt8) : Lib.hasPrefix l [118] = (vCut l).2 := by
  cases l with
  | nil => rfl
  | cons c l =>
    simp only [vCut]
    by_cases h : c = 118
    · rw [if_pos h, h]; simp [Lib.hasPrefix]
    · rw [if_neg h]
      show ((118 : UInt8) == c && _) = false
      rw [beq_false_of_ne (Ne.symm h)]; rfl
set_option maxHeartbeats 1000000 in
set_option maxRecDepth 100000 in
theorem cutP_in (s : ByteArray) (w : World) (hs : s.size ≤ 9223372036854775807) :
    Calls Tryz.prog 73 #[.string s, .string ⟨#[118]⟩] w fun e w' => e = .returned (.tuple #[.string ⟨(vCut s.data.toList).1.toArray⟩, .bool (vCut s.data.toList).2]) ∧ w' = w := by
  have HP := hidM (Tryz.stringslite_HasPrefix s ⟨#[118]⟩ w)
  rw [show (⟨#[118]⟩ : ByteArray).data.toList = [118] from rfl, v_pref] at HP
  cases hv : (vCut s.data.toList).2 with
  | false =>
    have HS : Hid ((⟨(vCut s.data.toList).1.toArray⟩ : ByteArray) = s) := by
      unfold Hid
      have : (vCut s.data.toList).1 = s.data.toList := by
        cases hl : s.data.toList with
        | nil => rfl
        | cons c l =>
          rw [hl] at hv
          simp only [vCut] at hv ⊢
          by_cases h : c = 118
          · rw [if_pos h] at hv; cases hv
          · rw [if_neg h]
      rw [this]
    rw [hv] at HP
    clear hv
    go_enter Tryz.func73, Tryz.ntmps73
    go_wp2_with fail
    refine HP.out.mono ?_
    rintro _ _ ⟨rfl, rfl⟩
    go_wp2
    go_ret2
    exact ⟨by rw [HS.out]; rfl, rfl⟩
  | true =>
    have hpos : 1 ≤ s.size ∧ s.extract 1 s.size = ⟨(vCut s.data.toList).1.toArray⟩ := by
      cases hl : s.data.toList with
      | nil => rw [hl] at hv; cases hv
      | cons c l =>
        have h1 : s.size = l.length + 1 := by rw [← size_len, hl]; rfl
        refine ⟨by omega, ba_of ?_⟩
        rw [ext_tail, hl]
        rw [hl] at hv
        simp only [vCut] at hv ⊢
        by_cases h : c = 118
        · rw [if_pos h]; rfl
        · rw [if_neg h] at hv; cases hv
    obtain ⟨h1, h2⟩ := hpos
    have HS := hidM h2
    have p0 : (1 : Int) ≤ (s.size : Int) := by omega
    rw [hv] at HP
    clear hv h2
    go_enter Tryz.func73, Tryz.ntmps73
    go_wp2_with fail
    refine HP.out.mono ?_
    rintro _ _ ⟨rfl, rfl⟩
    go_wp2
    go_ret2
    exact ⟨by rw [← HS.out]; rfl, rfl⟩
set_option maxRecDepth 100000 in
theorem cutP_any (s : ByteArray) (w : World) (hs : s.size ≤ 9223372036854775807) :
    Calls Tryz.prog 44 #[.string s, .string ⟨#[118]⟩] w fun e w' => e = .returned (.tuple #[.string ⟨(vCut s.data.toList).1.toArray⟩, .bool (vCut s.data.toList).2]) ∧ w' = w := by
  have HC := hidM (cutP_in s w hs)
  generalize (⟨(vCut s.data.toList).1.toArray⟩ : ByteArray) = A at *
  generalize (vCut s.data.toList).2 = B at *
  go_enter Tryz.func44, Tryz.ntmps44
  go_wp2_with fail
  refine HC.out.mono ?_
  rintro _ _ ⟨rfl, rfl⟩
  go_wp2
  go_ret2
  exact ⟨rfl, rfl⟩
theorem split_size (k : Nat) : ∀ (s p : ByteArray), p ∈ Lib.splitB stopB 0 k s → p.size ≤ s.size := by
  induction k with
  | zero => intro s p h; rw [Lib.splitB_zero, List.mem_singleton] at h; rw [h]; exact Nat.le_refl _
  | succ k ih =>
    intro s p h
    unfold Lib.splitB at h
    split at h
    · rw [List.mem_singleton] at h; rw [h]; exact Nat.le_refl _
    · rcases List.mem_cons.1 h with h | h
      · rw [h, ByteArray.size_extract]; omega
      · have := ih _ _ h
        rw [ByteArray.size_extract] at this
        omega
theorem parts_size {s p : ByteArray} (h : p ∈ partsB s) : p.size ≤ s.size := split_size _ s p h
set_option maxHeartbeats 1000000 in
set_option maxRecDepth 100000 in
theorem all_pre (s : ByteArray) (w : World) (hs : s.size ≤ 200) :
    Calls Tryz.prog 47 #[.string s, .func (.func 48) #[] #[]] w fun e w' => e = .returned (.bool ((partsB s).all fun x => preL x.data.toList)) ∧ Below w.heap.size w w' := by
  have HS := hidM (split_any s w hs)
  have HF : Hid (∀ (x : ByteArray) (V : World), x ∈ partsB s → Calls Tryz.prog 48 #[.string x] V fun e w' => e = .returned (.bool (preL x.data.toList)) ∧ w' = V) := fun x V hx => preWord_any x V (by have := parts_size hx; omega)
  have hl : (partsB s).length ≤ 201 := by
    have hcl := Lib.countB_le stopB (by decide) s.size s (Nat.le_refl _)
    have hlen : (partsB s).length = Lib.countB s stopB + 1 := Lib.splitB_all stopB (by decide) 0 _ s rfl
    omega
  generalize partsB s = ps at *
  have HB0 : Hid (Below w.heap.size w (w.alloc (.cells (ps.map Value.string).toArray 9))) := (Below.refl _ w).alloc (Nat.le_refl _) _
  have HC : Hid (∀ k, (h : k < ps.length) → (w.alloc (.cells (ps.map Value.string).toArray 9)).cell? ⟨w.heap.size, k, none⟩ = some (.string ps[k])) := fun k h => by
    rw [cell_of_row _ _ _ _ 9 (0, 0) (_root_.Go.heap_alloc_new w _)]
    simp [h]
  unfold stopB at HS
  go_enter Tryz.func47, Tryz.ntmps47
  go_wp2_with fail
  refine HS.out.mono ?_
  rintro _ _ ⟨rfl, rfl⟩
  generalize (w.alloc (.cells (ps.map Value.string).toArray 9)) = W at *
  go_wp2
  go_loopw [6, 10] (fun _ iv wr => ∃ k : Nat, k ≤ ps.length ∧ iv = .int .i64 (k : Int) ∧ (∀ j (hj : j < ps.length), j < k → preL ps[j].data.toList = true) ∧ W = wr) (fun _ i _ => ps.length - (intOf i).toNat)
  case atStart => exact ⟨0, Nat.zero_le _, rfl, fun j _ hj => by omega, rfl⟩
  case round =>
    obtain ⟨k, hk, rfl, hno, hwr⟩ := hrel
    subst hwr
    have HNO := hidM hno
    clear hno
    by_cases hlt : k < ps.length
    · have gk : (k : Int) < (ps.length : Int) := by omega
      have ck := HC.out k hlt
      have HFK := hidM (HF.out ps[k] W (List.getElem_mem hlt))
      cases hd : preL ps[k].data.toList with
      | false =>
        have HR : Hid ((ps.all fun x => preL x.data.toList) = false) := by
          unfold Hid
          rw [List.all_eq_false]
          exact ⟨ps[k], List.getElem_mem hlt, by rw [hd]; exact Bool.false_ne_true⟩
        rw [hd] at HFK
        clear hd
        generalize ps[k] = x at *
        go_wp2_with fail
        refine HFK.out.mono ?_
        rintro _ w1 ⟨rfl, h1⟩
        rw [h1]
        go_wp2
        go_ret
        exact ⟨by rw [HR.out]; rfl, HB0.out⟩
      | true =>
        have HNX : Hid (∀ j (hj : j < ps.length), j < k + 1 → preL ps[j].data.toList = true) := fun j hj hjk => by
          rcases Nat.lt_or_ge j k with h | h
          · exact HNO.out j hj h
          · obtain rfl : j = k := by omega
            exact hd
        rw [hd] at HFK
        clear hd
        generalize ps[k] = x at *
        go_wp2_with fail
        refine HFK.out.mono ?_
        rintro _ w1 ⟨rfl, h1⟩
        rw [h1]
        clear h1
        go_wp2
        go_roundw
        case rel => exact ⟨k + 1, by omega, by go_num, HNX.out, by first | rfl | trivial⟩
        case measure => simp [intOf]; omega
    · have gk : ¬ (k : Int) < (ps.length : Int) := by omega
      have HR : Hid ((ps.all fun x => preL x.data.toList) = true) := by
        unfold Hid
        rw [List.all_eq_true]
        intro x hx
        obtain ⟨j, hj, rfl⟩ := List.getElem_of_mem hx
        exact HNO.out j hj (by omega)
      go_wp2
      go_ret
      exact ⟨by rw [HR.out]; rfl, HB0.out⟩
set_option maxHeartbeats 1000000 in
set_option maxRecDepth 100000 in
theorem all_word (s : ByteArray) (w : World) (hs : s.size ≤ 200) :
    Calls Tryz.prog 47 #[.string s, .func (.func 49) #[] #[]] w fun e w' => e = .returned (.bool ((partsB s).all fun x => wordL x.data.toList)) ∧ Below w.heap.size w w' := by
  have HS := hidM (split_any s w hs)
  have HF : Hid (∀ (x : ByteArray) (V : World), x ∈ partsB s → Calls Tryz.prog 49 #[.string x] V fun e w' => e = .returned (.bool (wordL x.data.toList)) ∧ w' = V) := fun x V hx => word_any x V (by have := parts_size hx; omega)
  have hl : (partsB s).length ≤ 201 := by
    have hcl := Lib.countB_le stopB (by decide) s.size s (Nat.le_refl _)
    have hlen : (partsB s).length = Lib.countB s stopB + 1 := Lib.splitB_all stopB (by decide) 0 _ s rfl
    omega
  generalize partsB s = ps at *
  have HB0 : Hid (Below w.heap.size w (w.alloc (.cells (ps.map Value.string).toArray 9))) := (Below.refl _ w).alloc (Nat.le_refl _) _
  have HC : Hid (∀ k, (h : k < ps.length) → (w.alloc (.cells (ps.map Value.string).toArray 9)).cell? ⟨w.heap.size, k, none⟩ = some (.string ps[k])) := fun k h => by
    rw [cell_of_row _ _ _ _ 9 (0, 0) (_root_.Go.heap_alloc_new w _)]
    simp [h]
  unfold stopB at HS
  go_enter Tryz.func47, Tryz.ntmps47
  go_wp2_with fail
  refine HS.out.mono ?_
  rintro _ _ ⟨rfl, rfl⟩
  generalize (w.alloc (.cells (ps.map Value.string).toArray 9)) = W at *
  go_wp2
  go_loopw [6, 10] (fun _ iv wr => ∃ k : Nat, k ≤ ps.length ∧ iv = .int .i64 (k : Int) ∧ (∀ j (hj : j < ps.length), j < k → wordL ps[j].data.toList = true) ∧ W = wr) (fun _ i _ => ps.length - (intOf i).toNat)
  case atStart => exact ⟨0, Nat.zero_le _, rfl, fun j _ hj => by omega, rfl⟩
  case round =>
    obtain ⟨k, hk, rfl, hno, hwr⟩ := hrel
    subst hwr
    have HNO := hidM hno
    clear hno
    by_cases hlt : k < ps.length
    · have gk : (k : Int) < (ps.length : Int) := by omega
      have ck := HC.out k hlt
      have HFK := hidM (HF.out ps[k] W (List.getElem_mem hlt))
      cases hd : wordL ps[k].data.toList with
      | false =>
        have HR : Hid ((ps.all fun x => wordL x.data.toList) = false) := by
          unfold Hid
          rw [List.all_eq_false]
          exact ⟨ps[k], List.getElem_mem hlt, by rw [hd]; exact Bool.false_ne_true⟩
        rw [hd] at HFK
        clear hd
        generalize ps[k] = x at *
        go_wp2_with fail
        refine HFK.out.mono ?_
        rintro _ w1 ⟨rfl, h1⟩
        rw [h1]
        go_wp2
        go_ret
        exact ⟨by rw [HR.out]; rfl, HB0.out⟩
      | true =>
        have HNX : Hid (∀ j (hj : j < ps.length), j < k + 1 → wordL ps[j].data.toList = true) := fun j hj hjk => by
          rcases Nat.lt_or_ge j k with h | h
          · exact HNO.out j hj h
          · obtain rfl : j = k := by omega
            exact hd
        rw [hd] at HFK
        clear hd
        generalize ps[k] = x at *
        go_wp2_with fail
        refine HFK.out.mono ?_
        rintro _ w1 ⟨rfl, h1⟩
        rw [h1]
        clear h1
        go_wp2
        go_roundw
        case rel => exact ⟨k + 1, by omega, by go_num, HNX.out, by first | rfl | trivial⟩
        case measure => simp [intOf]; omega
    · have gk : ¬ (k : Int) < (ps.length : Int) := by omega
      have HR : Hid ((ps.all fun x => wordL x.data.toList) = true) := by
        unfold Hid
        rw [List.all_eq_true]
        intro x hx
        obtain ⟨j, hj, rfl⟩ := List.getElem_of_mem hx
        exact HNO.out j hj (by omega)
      go_wp2
      go_ret
      exact ⟨by rw [HR.out]; rfl, HB0.out⟩
set_option maxHeartbeats 1000000 in
set_option maxRecDepth 100000 in
theorem all_num (s : ByteArray) (w : World) (hs : s.size ≤ 200) :
    Calls Tryz.prog 47 #[.string s, .func (.func 50) #[] #[]] w fun e w' => e = .returned (.bool ((partsB s).all fun x => numL x.data.toList)) ∧ Below w.heap.size w w' := by
  have HS := hidM (split_any s w hs)
  have HF : Hid (∀ (x : ByteArray) (V : World), x ∈ partsB s → Calls Tryz.prog 50 #[.string x] V fun e w' => e = .returned (.bool (numL x.data.toList)) ∧ w' = V) := fun x V hx => number_any x V (by have := parts_size hx; omega)
  have hl : (partsB s).length ≤ 201 := by
    have hcl := Lib.countB_le stopB (by decide) s.size s (Nat.le_refl _)
    have hlen : (partsB s).length = Lib.countB s stopB + 1 := Lib.splitB_all stopB (by decide) 0 _ s rfl
    omega
  generalize partsB s = ps at *
  have HB0 : Hid (Below w.heap.size w (w.alloc (.cells (ps.map Value.string).toArray 9))) := (Below.refl _ w).alloc (Nat.le_refl _) _
  have HC : Hid (∀ k, (h : k < ps.length) → (w.alloc (.cells (ps.map Value.string).toArray 9)).cell? ⟨w.heap.size, k, none⟩ = some (.string ps[k])) := fun k h => by
    rw [cell_of_row _ _ _ _ 9 (0, 0) (_root_.Go.heap_alloc_new w _)]
    simp [h]
  unfold stopB at HS
  go_enter Tryz.func47, Tryz.ntmps47
  go_wp2_with fail
  refine HS.out.mono ?_
  rintro _ _ ⟨rfl, rfl⟩
  generalize (w.alloc (.cells (ps.map Value.string).toArray 9)) = W at *
  go_wp2
  go_loopw [6, 10] (fun _ iv wr => ∃ k : Nat, k ≤ ps.length ∧ iv = .int .i64 (k : Int) ∧ (∀ j (hj : j < ps.length), j < k → numL ps[j].data.toList = true) ∧ W = wr) (fun _ i _ => ps.length - (intOf i).toNat)
  case atStart => exact ⟨0, Nat.zero_le _, rfl, fun j _ hj => by omega, rfl⟩
  case round =>
    obtain ⟨k, hk, rfl, hno, hwr⟩ := hrel
    subst hwr
    have HNO := hidM hno
    clear hno
    by_cases hlt : k < ps.length
    · have gk : (k : Int) < (ps.length : Int) := by omega
      have ck := HC.out k hlt
      have HFK := hidM (HF.out ps[k] W (List.getElem_mem hlt))
      cases hd : numL ps[k].data.toList with
      | false =>
        have HR : Hid ((ps.all fun x => numL x.data.toList) = false) := by
          unfold Hid
          rw [List.all_eq_false]
          exact ⟨ps[k], List.getElem_mem hlt, by rw [hd]; exact Bool.false_ne_true⟩
        rw [hd] at HFK
        clear hd
        generalize ps[k] = x at *
        go_wp2_with fail
        refine HFK.out.mono ?_
        rintro _ w1 ⟨rfl, h1⟩
        rw [h1]
        go_wp2
        go_ret
        exact ⟨by rw [HR.out]; rfl, HB0.out⟩
      | true =>
        have HNX : Hid (∀ j (hj : j < ps.length), j < k + 1 → numL ps[j].data.toList = true) := fun j hj hjk => by
          rcases Nat.lt_or_ge j k with h | h
          · exact HNO.out j hj h
          · obtain rfl : j = k := by omega
            exact hd
        rw [hd] at HFK
        clear hd
        generalize ps[k] = x at *
        go_wp2_with fail
        refine HFK.out.mono ?_
        rintro _ w1 ⟨rfl, h1⟩
        rw [h1]
        clear h1
        go_wp2
        go_roundw
        case rel => exact ⟨k + 1, by omega, by go_num, HNX.out, by first | rfl | trivial⟩
        case measure => simp [intOf]; omega
    · have gk : ¬ (k : Int) < (ps.length : Int) := by omega
      have HR : Hid ((ps.all fun x => numL x.data.toList) = true) := by
        unfold Hid
        rw [List.all_eq_true]
        intro x hx
        obtain ⟨j, hj, rfl⟩ := List.getElem_of_mem hx
        exact HNO.out j hj (by omega)
      go_wp2
      go_ret
      exact ⟨by rw [HR.out]; rfl, HB0.out⟩
end Go.Proofs.YtmhjdahmmdfbcaaGreatDoor
