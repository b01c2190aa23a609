/-
  A path cut at its slashes; Clean.
-/
import Derived.Test.YtolohndbbnbfbaaDoorShelfB
import Derived.Test.YtolohndbbnbfbaaDoorNumA
import Derived.Lib.SplitLaws
import Derived.Deep.QuietTactic
import Derived.BigQuiet
namespace Go.Proofs.YtolohndbbnbfbaaDoor
open Go.RowKit

def slash : ByteArray := ⟨#[47]⟩
/-- the parts between the slashes -/
def partsB (s : ByteArray) : List ByteArray := Lib.splitB slash 0 (Lib.countB s slash) s
theorem index_slash (x : ByteArray) : Lib.indexB x slash = Lib.indexByte x.data.toList 47 := Lib.index_one _ _
theorem count_slash (x : ByteArray) : Lib.countB x slash = Lib.countByte x.data.toList 47 := Lib.count_one _ _
theorem info9 : (Tryd.prog.info? 9).map (fun i => (i.zero, i.size, i.bytes)) = some (some (.string ByteArray.empty), 1, 16) := by kernel_rfl
theorem split_any (s : ByteArray) (w : World) (hs : s.size ≤ 200) :
    Calls Tryd.prog 70 #[.string s, .string slash] w fun e w' =>
      e = .returned (.slice (some ⟨w.heap.size, 0, none⟩) (partsB s).length (partsB s).length) ∧ w' = w.alloc (.cells ((partsB s).map Value.string).toArray 9) := by
  have hcl := Lib.countB_le slash (by decide) s.size s (Nat.le_refl _)
  have hlen := Lib.splitB_all slash (by decide) 0 _ s rfl
  have HG : Hid (Calls Tryd.prog 94 #[.string s, .string slash, .int .i64 0, .int .i64 (-1)] w fun e w' => e = .returned (.slice (some ⟨w.heap.size, 0, none⟩) (partsB s).length (partsB s).length) ∧ w' = w.alloc (.cells ((partsB s).map Value.string).toArray 9)) := by
    have c := Any.strings_genSplit_core Tryd.lays221 info9 s slash 0 (-1) (Lib.countB s slash + 1) w (by omega) (by decide) (Nat.zero_le _)
      (fun x c _ => by have h := Tryd.strings_Index_one x 47 (w.alloc (.cells c 9)); rw [← index_slash] at h; exact h)
      (by have h := Tryd.strings_Count_one s 47 w; rw [← count_slash] at h; exact h)
      (by decide) (by decide) (by rw [if_pos (by decide)]; omega)
    have hl : (partsB s).length = Lib.countB s slash + 1 := hlen
    refine c.mono fun e w' ⟨he, hw⟩ => ⟨?_, ?_⟩
    · rw [he]
      show Ending.returned (.slice _ (partsB s).length (Lib.countB s slash + 1)) = _
      rw [hl]
    · rw [hw]
      show w.alloc (.cells (Lib.cellsOf (partsB s) (Lib.countB s slash + 1)) 9) = _
      unfold Lib.cellsOf
      rw [hl]; simp
  clear hlen hcl
  generalize partsB s = ps at *
  unfold slash at *
  go_enter Tryd.func70, Tryd.ntmps70
  go_wp2_with fail
  refine HG.out.mono ?_
  rintro _ w1 ⟨rfl, rfl⟩
  go_wp2_with fail
  go_ret
  exact ⟨rfl, rfl⟩

/-- all bytes from 32 to 126 -/
def plainL (l : List UInt8) : Bool := l.all fun c => decide (32 ≤ c.toNat ∧ c.toNat ≤ 126)
theorem plain_no (s : ByteArray) (k : Nat) (h : k < s.size) (hc : ¬ (32 ≤ s[k].toNat ∧ s[k].toNat ≤ 126)) : plainL s.data.toList = false := by
  refine Bool.eq_false_iff.2 fun ht => hc ?_
  unfold plainL at ht
  rw [List.all_eq_true] at ht
  have := ht s[k] (by rw [show s[k] = s.data.toList[k]'(by rw [sl_len]; omega) from rfl]; exact List.getElem_mem _)
  simpa using this
set_option maxHeartbeats 1600000 in
theorem plain_any (s : ByteArray) (w : World) (hs : s.size ≤ 200) :
    Calls Tryd.prog 53 #[.string s] w fun e w' => e = .returned (.bool (plainL s.data.toList)) ∧ w' = w := by
  go_enter Tryd.func53, Tryd.ntmps53
  go_wp2
  go_loopw [3, 6] (fun _ i wr => ∃ (k : Nat), k ≤ s.size ∧ i = .int .i64 k ∧ plainL (s.data.toList.take k) = true ∧ wr = w) (fun _ i _ => s.size - (intOf i).toNat)
  case atStart => exact ⟨0, Nat.zero_le _, rfl, rfl, rfl⟩
  case round =>
    obtain ⟨k, hk, rfl, hd, rfl⟩ := hrel
    have HD := hidM hd
    clear hd
    by_cases hlt : k < s.size
    · have kk : (k : Int) < (s.size : Int) := by omega
      obtain ⟨c, hcc⟩ : ∃ c, c = s[k].toNat := ⟨_, rfl⟩
      have r0 : (s[k].toNat : Int) = (c : Int) := by omega
      by_cases hc : 32 ≤ s[k].toNat ∧ s[k].toNat ≤ 126
      · have HN : Hid (plainL (s.data.toList.take (k + 1)) = true) := by
          unfold Hid
          rw [take_one s k hlt]
          unfold plainL
          rw [List.all_append, show (s.data.toList.take k).all (fun c => decide (32 ≤ c.toNat ∧ c.toNat ≤ 126)) = true from HD.out]
          simp [hc]
        rw [← hcc] at hc
        obtain ⟨hc1, hc2⟩ := hc
        clear hcc
        have q1 : decide ((c : Int) < 32) = false := by simp; omega
        have q2 : decide ((126 : Int) < (c : Int)) = false := by simp; omega
        go_wp2
        go_roundw
        case rel => exact ⟨k + 1, by omega, by go_num, HN.out, trivial⟩
        case measure => (show s.size - ((k : Int) + 1).toNat < s.size - ((k : Int)).toNat); omega
      · have HF := hidM (plain_no s k hlt hc)
        rw [← hcc] at hc
        clear hcc
        by_cases hc1 : c < 32
        · have q1 : decide ((c : Int) < 32) = true := by simp; omega
          go_wp2
          go_ret
          exact ⟨by rw [HF.out]; rfl, rfl⟩
        · have q1 : decide ((c : Int) < 32) = false := by simp; omega
          have q2 : decide ((126 : Int) < (c : Int)) = true := by simp; omega
          go_wp2
          go_ret
          exact ⟨by rw [HF.out]; rfl, rfl⟩
    · obtain rfl : k = s.size := by omega
      have HF : Hid (plainL s.data.toList = true) := by
        have := HD.out
        rwa [List.take_of_length_le (by rw [sl_len]; omega)] at this
      go_wp2
      go_ret
      exact ⟨by rw [HF.out]; rfl, rfl⟩

/-- can each part be a name? -/
def partOk (p : List UInt8) : Bool := !(p == []) && !(p == [46]) && !(p == [46, 46])
def wholeL (ps : List ByteArray) : Bool := ps.all fun p => partOk p.data.toList
set_option maxHeartbeats 1600000 in
theorem whole_any (s : ByteArray) (w : World) (hs : s.size ≤ 200) :
    Calls Tryd.prog 54 #[.string s] w fun e w' => e = .returned (.bool (wholeL (partsB s))) ∧ Below w.heap.size w w' := by
  have HSP := hidM (split_any s w hs)
  have hpl : (partsB s).length ≤ 201 := by
    have := Lib.splitB_length_le slash 0 (Lib.countB s slash) s
    have h2 := Lib.countB_le slash (by decide) s.size s (Nat.le_refl _)
    unfold partsB; omega
  generalize partsB s = ps at *
  unfold slash at *
  go_enter Tryd.func54, Tryd.ntmps54
  go_wp2_with fail
  refine HSP.out.mono ?_
  rintro _ w1 ⟨rfl, rfl⟩
  have HC : Hid (∀ j (h : j < ps.length), (w.alloc (.cells (ps.map Value.string).toArray 9)).cell? ⟨w.heap.size, j, none⟩ = some (.string ps[j])) := by
    intro j h
    rw [World.cell?_alloc_mark w _ 9 (0, 0) j]
    simp [h]
  have HB : Hid (Below w.heap.size w (w.alloc (.cells (ps.map Value.string).toArray 9))) := (Below.refl _ _).alloc (Nat.le_refl _) _
  generalize w.alloc (.cells (ps.map Value.string).toArray 9) = W at *
  go_wp2
  go_loopw [4, 8] (fun _ i wr => ∃ (k : Nat), k ≤ ps.length ∧ i = .int .i64 k ∧ wholeL (ps.take k) = true ∧ wr = W) (fun _ i _ => ps.length - (intOf i).toNat)
  case atStart => exact ⟨0, Nat.zero_le _, rfl, rfl, rfl⟩
  case round =>
    obtain ⟨k, hk, rfl, hd, rfl⟩ := hrel
    have HD := hidM hd
    clear hd
    by_cases hlt : k < ps.length
    · have kk : (k : Int) < (ps.length : Int) := by omega
      have hc := HC.out k hlt
      by_cases hp : partOk ps[k].data.toList = true
      · have HN : Hid (wholeL (ps.take (k + 1)) = true) := by
          unfold Hid
          rw [List.take_succ_eq_append_getElem hlt]
          unfold wholeL
          rw [List.all_append, show (ps.take k).all (fun p => partOk p.data.toList) = true from HD.out]
          simp [hp]
        obtain ⟨⟨p1, p2⟩, p3⟩ : (ps[k].data.toList ≠ [] ∧ ps[k].data.toList ≠ [46]) ∧ ps[k].data.toList ≠ [46, 46] := by simpa [partOk] using hp
        rw [← ByteArray.toList_eq] at p1 p2 p3
        generalize ps[k] = X at *
        have e1 : X.toList.isEmpty = false := by cases h : X.toList <;> simp_all
        have e2 : (X.toList == [46]) = false := beq_false_of_ne p2
        have e3 : (X.toList == [46, 46]) = false := beq_false_of_ne p3
        clear p2 p3 hp
        go_wp2
        go_roundw
        case rel => exact ⟨k + 1, by omega, by go_num, HN.out, trivial⟩
        case measure => (show ps.length - ((k : Int) + 1).toNat < ps.length - ((k : Int)).toNat); omega
      · have HF : Hid (wholeL ps = false) := by
          refine Bool.eq_false_iff.2 fun ht => hp ?_
          unfold wholeL at ht
          rw [List.all_eq_true] at ht
          exact ht _ (List.getElem_mem _)
        generalize ps[k] = X at *
        by_cases h1 : X.toList = []
        · clear hp
          go_wp2
          go_ret
          exact ⟨by rw [HF.out]; rfl, HB.out⟩
        have e1 : X.toList.isEmpty = false := by cases h : X.toList <;> simp_all
        by_cases h2 : X.toList = [46]
        · have e2 : (X.toList == [46]) = true := by rw [h2]; rfl
          clear hp h2
          go_wp2
          go_ret
          exact ⟨by rw [HF.out]; rfl, HB.out⟩
        have e2 : (X.toList == [46]) = false := beq_false_of_ne h2
        by_cases h3 : X.toList = [46, 46]
        · have e3 : (X.toList == [46, 46]) = true := by rw [h3]; rfl
          clear hp h2 h3
          go_wp2
          go_ret
          exact ⟨by rw [HF.out]; rfl, HB.out⟩
        · rw [ByteArray.toList_eq] at h1 h2 h3
          exact absurd (by unfold partOk; rw [beq_false_of_ne h1, beq_false_of_ne h2, beq_false_of_ne h3]; rfl) hp
    · obtain rfl : k = ps.length := by omega
      have HF : Hid (wholeL ps = true) := by
        have := HD.out
        rwa [List.take_of_length_le (Nat.le_refl _)] at this
      go_wp2
      go_ret
      exact ⟨by rw [HF.out]; rfl, HB.out⟩

/-- is it a path? -/
def cleanB (s : ByteArray) : Bool := decide (s.size ≤ 200) && plainL s.data.toList && wholeL (partsB s)
set_option maxHeartbeats 1600000 in
theorem clean_any (s : ByteArray) (w : World) :
    Calls Tryd.prog 16 #[.string s] w fun e w' => e = .returned (.bool (cleanB s)) ∧ Below w.heap.size w w' := by
  by_cases hs : s.size ≤ 200
  · have g : decide ((s.size : Int) ≤ 200) = true := by simp; omega
    have HP := hidM (fun W => plain_any s W hs)
    have HW := hidM (fun W => whole_any s W hs)
    have HC : Hid (cleanB s = (plainL s.data.toList && wholeL (partsB s))) := by unfold Hid cleanB; simp [hs]
    generalize plainL s.data.toList = A at *
    generalize wholeL (partsB s) = B at *
    cases A
    · go_enter Tryd.func16, Tryd.ntmps16
      go_wp2_with fail
      refine (HP.out _).mono ?_
      rintro _ w1 ⟨rfl, rfl⟩
      go_wp2_with fail
      go_ret
      exact ⟨by rw [HC.out]; rfl, Below.refl _ _⟩
    · go_enter Tryd.func16, Tryd.ntmps16
      go_wp2_with fail
      refine (HP.out _).mono ?_
      rintro _ w1 ⟨rfl, rfl⟩
      go_wp2_with fail
      refine (HW.out _).mono ?_
      rintro _ w1 ⟨rfl, hb⟩
      go_wp2_with fail
      go_ret
      exact ⟨by rw [HC.out]; rfl, hb⟩
  · have g : decide ((s.size : Int) ≤ 200) = false := by simp; omega
    have HC : Hid (cleanB s = false) := by unfold Hid cleanB; simp [hs]
    go_enter Tryd.func16, Tryd.ntmps16
    go_wp2_with fail
    go_ret
    exact ⟨by rw [HC.out]; rfl, Below.refl _ _⟩
end Go.Proofs.YtolohndbbnbfbaaDoor
