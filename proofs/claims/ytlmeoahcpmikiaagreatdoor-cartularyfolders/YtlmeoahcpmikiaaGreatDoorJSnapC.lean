/-
  Taken over from another program: SnapA.
  Taken over from another program: SnapB.
  Taken over from another program: SnapC.
-/
import Derived.Test.YtlmeoahcpmikiaaGreatDoorJNumA
import Derived.Lib.SplitLaws
import Derived.Deep.QuietTactic
import Derived.BigQuiet
namespace Go.Proofs.YtlmeoahcpmikiaaGreatDoor
open Go.RowKit
def slash : ByteArray := ⟨#[47]⟩
/-- the parts between the slashes -/
def partsB (s : ByteArray) : List ByteArray := Lib.splitB slash 0 (Lib.countB s slash) s
theorem index_slash (x : ByteArray) : Lib.indexB x slash = Lib.indexByte x.data.toList 47 := Lib.index_one _ _
theorem count_slash (x : ByteArray) : Lib.countB x slash = Lib.countByte x.data.toList 47 := Lib.count_one _ _
theorem info9 : (Tryz.prog.info? 9).map (fun i => (i.zero, i.size, i.bytes)) = some (some (.string ByteArray.empty), 1, 16) := by kernel_rfl
theorem split_any (s : ByteArray) (w : World) (hs : s.size ≤ 200) :
    Calls Tryz.prog 108 #[.string s, .string slash] w fun e w' =>
      e = .returned (.slice (some ⟨w.heap.size, 0, none⟩) (partsB s).length (partsB s).length) ∧ w' = w.alloc (.cells ((partsB s).map Value.string).toArray 9) := by
  have hcl := Lib.countB_le slash (by decide) s.size s (Nat.le_refl _)
  have hlen := Lib.splitB_all slash (by decide) 0 _ s rfl
  have HG : Hid (Calls Tryz.prog 156 #[.string s, .string slash, .int .i64 0, .int .i64 (-1)] w fun e w' => e = .returned (.slice (some ⟨w.heap.size, 0, none⟩) (partsB s).length (partsB s).length) ∧ w' = w.alloc (.cells ((partsB s).map Value.string).toArray 9)) := by
    have c := Any.strings_genSplit_core Tryz.lays221 info9 s slash 0 (-1) (Lib.countB s slash + 1) w (by omega) (by decide) (Nat.zero_le _)
      (fun x c _ => by have h := Tryz.strings_Index_one x 47 (w.alloc (.cells c 9)); rw [← index_slash] at h; exact h)
      (by have h := Tryz.strings_Count_one s 47 w; rw [← count_slash] at h; exact h)
      (by decide) (by decide) (by rw [if_pos (by decide)]; omega)
    have hl : (partsB s).length = Lib.countB s slash + 1 := hlen
    refine c.mono fun e w' ⟨he, hw⟩ => ⟨?_, ?_⟩
    · rw [he]
      show Ending.returned (.slice _ (partsB s).length (Lib.countB s slash + 1)) = _
      rw [hl]
    · rw [hw]
      show w.alloc (.cells (Lib.cellsOf (partsB s) (Lib.countB s slash + 1)) 9) = _
      unfold Lib.cellsOf
      rw [hl]; simp
  clear hlen hcl
  generalize partsB s = ps at *
  unfold slash at *
  go_enter Tryz.func108, Tryz.ntmps108
  go_wp2_with fail
  refine HG.out.mono ?_
  rintro _ w1 ⟨rfl, rfl⟩
  go_wp2_with fail
  go_ret
  exact ⟨rfl, rfl⟩
/-- all bytes from 32 to 126 -/
def plainL (l : List UInt8) : Bool := l.all fun c => decide (32 ≤ c.toNat ∧ c.toNat ≤ 126)
theorem plain_no (s : ByteArray) (k : Nat) (h : k < s.size) (hc : ¬ (32 ≤ s[k].toNat ∧ s[k].toNat ≤ 126)) : plainL s.data.toList = false := by
  refine Bool.eq_false_iff.2 fun ht => hc ?_
  unfold plainL at ht
  rw [List.all_eq_true] at ht
  have := ht s[k] (by rw [show s[k] = s.data.toList[k]'(by rw [sl_len]; omega) from rfl]; exact List.getElem_mem _)
  simpa using this
set_option maxHeartbeats 1600000 in
theorem plain_any (s : ByteArray) (w : World) (hs : s.size ≤ 200) :
    Calls Tryz.prog 83 #[.string s] w fun e w' => e = .returned (.bool (plainL s.data.toList)) ∧ w' = w := by
  go_enter Tryz.func83, Tryz.ntmps83
  go_wp2
  go_loopw [3, 6] (fun _ i wr => ∃ (k : Nat), k ≤ s.size ∧ i = .int .i64 k ∧ plainL (s.data.toList.take k) = true ∧ wr = w) (fun _ i _ => s.size - (intOf i).toNat)
  case atStart => exact ⟨0, Nat.zero_le _, rfl, rfl, rfl⟩
  case round =>
    obtain ⟨k, hk, rfl, hd, rfl⟩ := hrel
    have HD := hidMO hd
    clear hd
    by_cases hlt : k < s.size
    · have kk : (k : Int) < (s.size : Int) := by omega
      obtain ⟨c, hcc⟩ : ∃ c, c = s[k].toNat := ⟨_, rfl⟩
      have r0 : (s[k].toNat : Int) = (c : Int) := by omega
      by_cases hc : 32 ≤ s[k].toNat ∧ s[k].toNat ≤ 126
      · have HN : Hid (plainL (s.data.toList.take (k + 1)) = true) := by
          unfold Hid
          rw [take_one s k hlt]
          unfold plainL
          rw [List.all_append, show (s.data.toList.take k).all (fun c => decide (32 ≤ c.toNat ∧ c.toNat ≤ 126)) = true from HD.out]
          simp [hc]
        rw [← hcc] at hc
        obtain ⟨hc1, hc2⟩ := hc
        clear hcc
        have q1 : decide ((c : Int) < 32) = false := by simp; omega
        have q2 : decide ((126 : Int) < (c : Int)) = false := by simp; omega
        go_wp2
        go_roundw
        case rel => exact ⟨k + 1, by omega, by go_num, HN.out, trivial⟩
        case measure => (show s.size - ((k : Int) + 1).toNat < s.size - ((k : Int)).toNat); omega
      · have HF := hidMO (plain_no s k hlt hc)
        rw [← hcc] at hc
        clear hcc
        by_cases hc1 : c < 32
        · have q1 : decide ((c : Int) < 32) = true := by simp; omega
          go_wp2
          go_ret
          exact ⟨by rw [HF.out]; rfl, rfl⟩
        · have q1 : decide ((c : Int) < 32) = false := by simp; omega
          have q2 : decide ((126 : Int) < (c : Int)) = true := by simp; omega
          go_wp2
          go_ret
          exact ⟨by rw [HF.out]; rfl, rfl⟩
    · obtain rfl : k = s.size := by omega
      have HF : Hid (plainL s.data.toList = true) := by
        have := HD.out
        rwa [List.take_of_length_le (by rw [sl_len]; omega)] at this
      go_wp2
      go_ret
      exact ⟨by rw [HF.out]; rfl, rfl⟩
/-- can each part be a name? -/
def partOk (p : List UInt8) : Bool := !(p == []) && !(p == [46]) && !(p == [46, 46])
def wholeL (ps : List ByteArray) : Bool := ps.all fun p => partOk p.data.toList
set_option maxHeartbeats 1600000 in
theorem whole_any (s : ByteArray) (w : World) (hs : s.size ≤ 200) :
    Calls Tryz.prog 84 #[.string s] w fun e w' => e = .returned (.bool (wholeL (partsB s))) ∧ Below w.heap.size w w' := by
  have HSP := hidMO (split_any s w hs)
  have hpl : (partsB s).length ≤ 201 := by
    have := Lib.splitB_length_le slash 0 (Lib.countB s slash) s
    have h2 := Lib.countB_le slash (by decide) s.size s (Nat.le_refl _)
    unfold partsB; omega
  generalize partsB s = ps at *
  unfold slash at *
  go_enter Tryz.func84, Tryz.ntmps84
  go_wp2_with fail
  refine HSP.out.mono ?_
  rintro _ w1 ⟨rfl, rfl⟩
  have HC : Hid (∀ j (h : j < ps.length), (w.alloc (.cells (ps.map Value.string).toArray 9)).cell? ⟨w.heap.size, j, none⟩ = some (.string ps[j])) := by
    intro j h
    rw [World.cell?_alloc_mark w _ 9 (0, 0) j]
    simp [h]
  have HB : Hid (Below w.heap.size w (w.alloc (.cells (ps.map Value.string).toArray 9))) := (Below.refl _ _).alloc (Nat.le_refl _) _
  generalize w.alloc (.cells (ps.map Value.string).toArray 9) = W at *
  go_wp2
  go_loopw [4, 8] (fun _ i wr => ∃ (k : Nat), k ≤ ps.length ∧ i = .int .i64 k ∧ wholeL (ps.take k) = true ∧ wr = W) (fun _ i _ => ps.length - (intOf i).toNat)
  case atStart => exact ⟨0, Nat.zero_le _, rfl, rfl, rfl⟩
  case round =>
    obtain ⟨k, hk, rfl, hd, rfl⟩ := hrel
    have HD := hidMO hd
    clear hd
    by_cases hlt : k < ps.length
    · have kk : (k : Int) < (ps.length : Int) := by omega
      have hc := HC.out k hlt
      by_cases hp : partOk ps[k].data.toList = true
      · have HN : Hid (wholeL (ps.take (k + 1)) = true) := by
          unfold Hid
          rw [List.take_succ_eq_append_getElem hlt]
          unfold wholeL
          rw [List.all_append, show (ps.take k).all (fun p => partOk p.data.toList) = true from HD.out]
          simp [hp]
        obtain ⟨⟨p1, p2⟩, p3⟩ : (ps[k].data.toList ≠ [] ∧ ps[k].data.toList ≠ [46]) ∧ ps[k].data.toList ≠ [46, 46] := by simpa [partOk] using hp
        rw [← ByteArray.toList_eq] at p1 p2 p3
        generalize ps[k] = X at *
        have e1 : X.toList.isEmpty = false := by cases h : X.toList <;> simp_all
        have e2 : (X.toList == [46]) = false := beq_false_of_ne p2
        have e3 : (X.toList == [46, 46]) = false := beq_false_of_ne p3
        clear p2 p3 hp
        go_wp2
        go_roundw
        case rel => exact ⟨k + 1, by omega, by go_num, HN.out, trivial⟩
        case measure => (show ps.length - ((k : Int) + 1).toNat < ps.length - ((k : Int)).toNat); omega
      · have HF : Hid (wholeL ps = false) := by
          refine Bool.eq_false_iff.2 fun ht => hp ?_
          unfold wholeL at ht
          rw [List.all_eq_true] at ht
          exact ht _ (List.getElem_mem _)
        generalize ps[k] = X at *
        by_cases h1 : X.toList = []
        · clear hp
          go_wp2
          go_ret
          exact ⟨by rw [HF.out]; rfl, HB.out⟩
        have e1 : X.toList.isEmpty = false := by cases h : X.toList <;> simp_all
        by_cases h2 : X.toList = [46]
        · have e2 : (X.toList == [46]) = true := by rw [h2]; rfl
          clear hp h2
          go_wp2
          go_ret
          exact ⟨by rw [HF.out]; rfl, HB.out⟩
        have e2 : (X.toList == [46]) = false := beq_false_of_ne h2
        by_cases h3 : X.toList = [46, 46]
        · have e3 : (X.toList == [46, 46]) = true := by rw [h3]; rfl
          clear hp h2 h3
          go_wp2
          go_ret
          exact ⟨by rw [HF.out]; rfl, HB.out⟩
        · rw [ByteArray.toList_eq] at h1 h2 h3
          exact absurd (by unfold partOk; rw [beq_false_of_ne h1, beq_false_of_ne h2, beq_false_of_ne h3]; rfl) hp
    · obtain rfl : k = ps.length := by omega
      have HF : Hid (wholeL ps = true) := by
        have := HD.out
        rwa [List.take_of_length_le (Nat.le_refl _)] at this
      go_wp2
      go_ret
      exact ⟨by rw [HF.out]; rfl, HB.out⟩
/-- is it a path? -/
def cleanB (s : ByteArray) : Bool := decide (s.size ≤ 200) && plainL s.data.toList && wholeL (partsB s)
set_option maxHeartbeats 1600000 in
theorem clean_any (s : ByteArray) (w : World) :
    Calls Tryz.prog 38 #[.string s] w fun e w' => e = .returned (.bool (cleanB s)) ∧ Below w.heap.size w w' := by
  by_cases hs : s.size ≤ 200
  · have g : decide ((s.size : Int) ≤ 200) = true := by simp; omega
    have HP := hidMO (fun W => plain_any s W hs)
    have HW := hidMO (fun W => whole_any s W hs)
    have HC : Hid (cleanB s = (plainL s.data.toList && wholeL (partsB s))) := by unfold Hid cleanB; simp [hs]
    generalize plainL s.data.toList = A at *
    generalize wholeL (partsB s) = B at *
    cases A
    · go_enter Tryz.func38, Tryz.ntmps38
      go_wp2_with fail
      refine (HP.out _).mono ?_
      rintro _ w1 ⟨rfl, rfl⟩
      go_wp2_with fail
      go_ret
      exact ⟨by rw [HC.out]; rfl, Below.refl _ _⟩
    · go_enter Tryz.func38, Tryz.ntmps38
      go_wp2_with fail
      refine (HP.out _).mono ?_
      rintro _ w1 ⟨rfl, rfl⟩
      go_wp2_with fail
      refine (HW.out _).mono ?_
      rintro _ w1 ⟨rfl, hb⟩
      go_wp2_with fail
      go_ret
      exact ⟨by rw [HC.out]; rfl, hb⟩
  · have g : decide ((s.size : Int) ≤ 200) = false := by simp; omega
    have HC : Hid (cleanB s = false) := by unfold Hid cleanB; simp [hs]
    go_enter Tryz.func38, Tryz.ntmps38
    go_wp2_with fail
    go_ret
    exact ⟨by rw [HC.out]; rfl, Below.refl _ _⟩
end Go.Proofs.YtlmeoahcpmikiaaGreatDoor
namespace Go.Proofs.YtlmeoahcpmikiaaGreatDoor
open Go.RowKit
/-- a file: its path and its bytes -/
abbrev FileB := ByteArray × ByteArray
def FilesAt (w : World) (b off : Nat) (fs : List FileB) : Prop := ∀ i (h : i < fs.length), w.cell? ⟨b, off + i * 2, none⟩ = some (.string fs[i].1) ∧ w.cell? ⟨b, off + i * 2 + 1, none⟩ = some (.string fs[i].2)
def sizeF (fs : List FileB) : Nat := (fs.map fun f => f.2.size).sum
theorem FilesAt.below {w w' : World} {b off B : Nat} {fs : List FileB} (h : FilesAt w b off fs) (hb : Below B w w') (hB : b < B) : FilesAt w' b off fs := fun i hi =>
  ⟨(hb.cell (p := ⟨b, off + i * 2, none⟩) hB).trans (h i hi).1, (hb.cell (p := ⟨b, off + i * 2 + 1, none⟩) hB).trans (h i hi).2⟩
theorem sizeF_take (fs : List FileB) (k : Nat) (h : k < fs.length) : sizeF (fs.take (k + 1)) = sizeF (fs.take k) + fs[k].2.size := by
  unfold sizeF
  rw [List.take_succ_eq_append_getElem h, List.map_append, List.sum_append]; simp
theorem sizeF_le (fs : List FileB) (k : Nat) : sizeF (fs.take k) ≤ sizeF fs := by
  have : sizeF fs = sizeF (fs.take k) + sizeF (fs.drop k) := by
    unfold sizeF
    rw [← List.sum_append, ← List.map_append, List.take_append_drop]
  omega
set_option maxHeartbeats 1600000 in
theorem size_at (b off c : Nat) (fs : List FileB) (w : World) (hb : b < w.heap.size) (hf : FilesAt w b off fs) (hs : sizeF fs ≤ 4611686018427387904) (hl : fs.length ≤ 1000000) :
    Calls Tryz.prog 37 #[.slice (some ⟨b, off, none⟩) fs.length c] w fun e w' => e = .returned (.int .i64 (sizeF fs : Nat)) ∧ Below w.heap.size w w' := by
  have HF := hidMO hf
  clear hf
  go_enter Tryz.func37, Tryz.ntmps37
  go_wp2
  go_loopw [3, 5, 8] (fun v _ i wr => ∃ (k : Nat), k ≤ fs.length ∧ i = .int .i64 k ∧ v = .int .i64 (sizeF (fs.take k) : Nat) ∧ Below w.heap.size w wr) (fun _ _ i _ => fs.length - (intOf i).toNat)
  case atStart => exact ⟨0, Nat.zero_le _, rfl, rfl, Below.refl _ _⟩
  case round =>
    obtain ⟨k, hk, rfl, rfl, hb2⟩ := hrel
    have HB := hidMO hb2
    clear hb2
    by_cases hlt : k < fs.length
    · have kk : (k : Int) < (fs.length : Int) := by omega
      have hc1 := (HF.out.below HB.out hb k hlt).1
      have hc2 := (HF.out.below HB.out hb k hlt).2
      have HT := hidMO (sizeF_take fs k hlt)
      have h1 := sizeF_le fs k
      have h2 := sizeF_le fs (k + 1)
      rw [HT.out] at h2
      generalize sizeF (fs.take k) = S at *
      generalize fs[k].1 = P at *
      generalize fs[k].2 = D at *
      go_wp2
      go_roundw
      case rel => exact ⟨k + 1, by omega, by go_num, by rw [HT.out]; go_num, HB.out.alloc HB.out.size _⟩
      case measure => (show fs.length - ((k : Int) + 1).toNat < fs.length - ((k : Int)).toNat); omega
    · obtain rfl : k = fs.length := by omega
      rw [List.take_of_length_le (Nat.le_refl _)]
      go_wp2
      go_ret
      exact ⟨rfl, HB.out⟩
end Go.Proofs.YtlmeoahcpmikiaaGreatDoor
namespace Go.Proofs.YtlmeoahcpmikiaaGreatDoor
open Go.RowKit
def fileV (f : FileB) : Value := .agg #[.string f.1, .string f.2]
set_option maxHeartbeats 1600000 in
theorem newCmp_any (f g : FileB) (w : World) :
    Calls Tryz.prog 41 #[fileV f, fileV g] w fun e w' => e = .returned (.int .i64 (Lib.compareBytes f.1.data.toList g.1.data.toList)) ∧ w' = (w.alloc (.cells #[.string f.1, .string f.2] 31)).alloc (.cells #[.string g.1, .string g.2] 31) := by
  unfold fileV
  go_enter Tryz.func41, Tryz.ntmps41
  go_wp2_with fail
  refine (Tryz.strings_Compare f.1 g.1 _).mono ?_
  rintro _ w1 ⟨rfl, rfl⟩
  go_wp2_with fail
  go_ret
  exact ⟨rfl, rfl⟩
theorem placeCmp_any (f : FileB) (p : ByteArray) (w : World) :
    Calls Tryz.prog 158 #[fileV f, .string p] w fun e w' => e = .returned (.int .i64 (Lib.compareBytes f.1.data.toList p.data.toList)) ∧ w' = (w.alloc (.cells #[.string f.1, .string f.2] 31)) := by
  unfold fileV
  go_enter Tryz.func158, Tryz.ntmps158
  go_wp2_with fail
  refine (Tryz.strings_Compare f.1 p _).mono ?_
  rintro _ w1 ⟨rfl, rfl⟩
  go_wp2_with fail
  go_ret
  exact ⟨rfl, rfl⟩
/-- how a file's path stands to p -/
def cmpP (p : ByteArray) (f : FileB) : Int := Lib.compareBytes f.1.data.toList p.data.toList
/-- where p stands, or would stand -/
structure Spot (fs : List FileB) (p : ByteArray) (i : Nat) : Prop where
  le : i ≤ fs.length
  lo : ∀ t (h : t < fs.length), t < i → cmpP p fs[t] < 0
  hi : ∀ t (h : t < fs.length), i ≤ t → 0 ≤ cmpP p fs[t]
/-- rising by paths, as far as p can tell -/
def Mono (fs : List FileB) (p : ByteArray) : Prop := ∀ a b (hb : b < fs.length) (h : a ≤ b), cmpP p fs[b] < 0 → cmpP p (fs[a]'(Nat.lt_of_le_of_lt h hb)) < 0
def thereB (fs : List FileB) (p : ByteArray) (i : Nat) : Bool := match fs[i]? with | some f => cmpP p f == 0 | none => false
set_option maxHeartbeats 3200000 in
theorem bsearch_at (b off c : Nat) (fs : List FileB) (p : ByteArray) (w : World) (hb : b < w.heap.size) (hf : FilesAt w b off fs) (hl : fs.length ≤ 1000000) (hm : Mono fs p) :
    Calls Tryz.prog 157 #[.slice (some ⟨b, off, none⟩) fs.length c, .string p, .func (.func 158) #[] #[]] w fun e w' => (∃ i, Spot fs p i ∧ e = .returned (.tuple #[.int .i64 (i : Nat), .bool (thereB fs p i)])) ∧ Below w.heap.size w w' := by
  have HF := hidMO hf
  have HM := hidMO hm
  have HP := hidMO (fun f W => placeCmp_any f p W)
  clear hf hm
  go_enter Tryz.func157, Tryz.ntmps157
  go_wp2_with fail
  go_loopw [9, 10, 11] (fun x y _ wr => ∃ (i j : Nat), i ≤ j ∧ j ≤ fs.length ∧ x = .int .i64 i ∧ y = .int .i64 j ∧ (∀ t (h : t < fs.length), t < i → cmpP p fs[t] < 0) ∧ (∀ t (h : t < fs.length), j ≤ t → 0 ≤ cmpP p fs[t]) ∧ Below w.heap.size w wr) (fun x y _ _ => (intOf y).toNat - (intOf x).toNat)
  case atStart => exact ⟨0, fs.length, Nat.zero_le _, Nat.le_refl _, rfl, rfl, fun t _ ht => by omega, fun t h ht => by omega, Below.refl _ _⟩
  case round =>
    obtain ⟨i, j, hij, hj, rfl, rfl, hlo, hhi, hb2⟩ := hrel
    have HLO := hidMO hlo
    have HHI := hidMO hhi
    have HB := hidMO hb2
    clear hlo hhi hb2
    by_cases hlt : i < j
    · have kk : (i : Int) < (j : Int) := by omega
      obtain ⟨h, hh⟩ : ∃ h, h = (i + j) / 2 := ⟨_, rfl⟩
      have h1 : i ≤ h := by omega
      have h2 : h < j := by omega
      have r1 : ((i : Int) + (j : Int)) / 2 = (h : Int) := by omega
      have hlen : h < fs.length := by omega
      have kl : (h : Int) < (fs.length : Int) := by omega
      have hc1 := (HF.out.below HB.out hb h hlen).1
      have hc2 := (HF.out.below HB.out hb h hlen).2
      have HCM : Hid (∀ W, Calls Tryz.prog 158 #[.agg #[.string fs[h].1, .string fs[h].2], .string p] W fun e w' => e = .returned (.int .i64 (cmpP p fs[h])) ∧ w' = W.alloc (.cells #[.string fs[h].1, .string fs[h].2] 31)) := HP.out fs[h]
      clear hh
      by_cases hneg : cmpP p fs[h] < 0
      · have HN : Hid (∀ t (hx : t < fs.length), t < h + 1 → cmpP p fs[t] < 0) := fun t hx ht => HM.out t h hlen (by omega) hneg
        generalize hcm : cmpP p fs[h] = cm at *
        generalize fs[h].1 = P at *
        generalize fs[h].2 = D at *
        have g : decide (cm < 0) = true := by simp; exact hneg
        go_wp2_with fail
        refine (HCM.out _).mono ?_
        rintro _ w2 ⟨rfl, rfl⟩
        go_wp2_with fail
        go_roundw
        case rel => exact ⟨h + 1, j, by omega, by omega, by go_num, rfl, HN.out, HHI.out, HB.out.alloc HB.out.size _⟩
        case measure => (show ((j : Nat) : Int).toNat - ((h : Int) + 1).toNat < ((j : Nat) : Int).toNat - ((i : Nat) : Int).toNat); omega
      · have HN : Hid (∀ t (hx : t < fs.length), h ≤ t → 0 ≤ cmpP p fs[t]) := fun t hx ht => by
          refine Classical.byContradiction fun hn => hneg ?_
          exact HM.out h t hx ht (by omega)
        generalize hcm : cmpP p fs[h] = cm at *
        generalize fs[h].1 = P at *
        generalize fs[h].2 = D at *
        have g : decide (cm < 0) = false := by simp; omega
        go_wp2_with fail
        refine (HCM.out _).mono ?_
        rintro _ w2 ⟨rfl, rfl⟩
        go_wp2_with fail
        go_roundw
        case rel => exact ⟨i, h, by omega, by omega, rfl, rfl, HLO.out, HN.out, HB.out.alloc HB.out.size _⟩
        case measure => (show ((h : Nat) : Int).toNat - ((i : Nat) : Int).toNat < ((j : Nat) : Int).toNat - ((i : Nat) : Int).toNat); omega
    · obtain rfl : i = j := by omega
      have HSP : Hid (Spot fs p i) := ⟨hj, HLO.out, HHI.out⟩
      by_cases hlen : i < fs.length
      · have kl : (i : Int) < (fs.length : Int) := by omega
        have hc1 := (HF.out.below HB.out hb i hlen).1
        have hc2 := (HF.out.below HB.out hb i hlen).2
        have HCM : Hid (∀ W, Calls Tryz.prog 158 #[.agg #[.string fs[i].1, .string fs[i].2], .string p] W fun e w' => e = .returned (.int .i64 (cmpP p fs[i])) ∧ w' = W.alloc (.cells #[.string fs[i].1, .string fs[i].2] 31)) := HP.out fs[i]
        have HTH : Hid (thereB fs p i = (cmpP p fs[i] == 0)) := by unfold Hid thereB; rw [List.getElem?_eq_getElem hlen]
        generalize cmpP p fs[i] = cm at *
        generalize fs[i].1 = P at *
        generalize fs[i].2 = D at *
        go_wp2_with fail
        refine (HCM.out _).mono ?_
        rintro _ w2 ⟨rfl, rfl⟩
        go_wp2_with fail
        go_ret2
        exact ⟨⟨i, HSP.out, by rw [HTH.out]; rfl⟩, HB.out.alloc HB.out.size _⟩
      · obtain rfl : i = fs.length := by omega
        have HTH : Hid (thereB fs p fs.length = false) := by unfold Hid thereB; rw [List.getElem?_eq_none (Nat.le_refl _)]
        go_wp2_with fail
        go_ret2
        exact ⟨⟨fs.length, HSP.out, by rw [HTH.out]; rfl⟩, HB.out⟩
end Go.Proofs.YtlmeoahcpmikiaaGreatDoor
