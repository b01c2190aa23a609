/-
  Texts cut at a byte; Clean; the document's parts.
-/
import Derived.Test.YtgkjmmfpbcgmgaaDoorPthA
import Derived.Test.YtgkjmmfpbcgmgaaDoorShelfS
import Derived.Test.YtgkjmmfpbcgmgaaDoorLexC
import Derived.Lib.SplitLaws
import Derived.Laws.OwnMore
namespace Go.Proofs.YtgkjmmfpbcgmgaaDoor
open Go.RowKit

theorem sl_len (s : ByteArray) : s.data.toList.length = s.size := by simp
theorem take_one (s : ByteArray) (k : Nat) (h : k < s.size) : s.data.toList.take (k + 1) = s.data.toList.take k ++ [s[k]] := by
  rw [List.take_succ_eq_append_getElem (by simpa using h)]; rfl
def k1 (i : Nat) : Nat := if i < 20 then 1518500249 else if i < 40 then 1859775393 else if i < 60 then 2400959708 else 3395469782
def h2 : List Nat := [1779033703, 3144134277, 1013904242, 2773480762, 1359893119, 2600822924, 528734635, 1541459225]
def splitC (c : UInt8) : List UInt8 → Option (List UInt8 × List UInt8)
  | [] => none
  | b :: l => if b = c then some ([], l) else (splitC c l).map fun x => (b :: x.1, x.2)
theorem split_none {c : UInt8} {l : List UInt8} (h : splitC c l = none) : Lib.indexByte l c = -1 ∧ c ∉ l := by
  induction l with
  | nil => exact ⟨rfl, by simp⟩
  | cons b l ih =>
    unfold splitC at h
    by_cases hb : b = c
    · rw [if_pos hb] at h; cases h
    · rw [if_neg hb, Option.map_eq_none_iff] at h
      have := ih h
      refine ⟨?_, by simp [this.2, Ne.symm hb]⟩
      unfold Lib.indexByte
      rw [if_neg (by simpa using hb), this.1]
      rfl
theorem split_some {c : UInt8} {l p q : List UInt8} (h : splitC c l = some (p, q)) : Lib.indexByte l c = (p.length : Int) ∧ l = p ++ c :: q ∧ c ∉ p := by
  induction l generalizing p with
  | nil => cases h
  | cons b l ih =>
    unfold splitC at h
    by_cases hb : b = c
    · rw [if_pos hb] at h
      obtain ⟨rfl, rfl⟩ := Prod.mk.inj (Option.some.inj h)
      refine ⟨?_, by rw [hb]; rfl, by simp⟩
      unfold Lib.indexByte
      rw [if_pos (by simpa using hb)]; rfl
    · rw [if_neg hb, Option.map_eq_some_iff] at h
      obtain ⟨⟨p', q'⟩, hx, he⟩ := h
      obtain ⟨rfl, rfl⟩ := Prod.mk.inj he
      obtain ⟨h1, h2, h3⟩ := ih hx
      refine ⟨?_, by rw [h2]; rfl, by simp [h3, Ne.symm hb]⟩
      unfold Lib.indexByte
      rw [if_neg (by simpa using hb), h1, if_neg (by simp)]
      simp
/-- what Cut answers at one byte -/
def cutR (c : UInt8) (l : List UInt8) : List UInt8 × List UInt8 × Bool :=
  match splitC c l with
  | none => (l, [], false)
  | some (p, q) => (p, q, true)
theorem ext_head (s : ByteArray) (k : Nat) : (s.extract 0 k).data.toList = s.data.toList.take k := by simp
theorem ext_tail (s : ByteArray) (k : Nat) : (s.extract k s.size).data.toList = s.data.toList.drop k := by
  rw [ByteArray.data_extract, Array.toList_extract, List.extract_eq_take_drop]
  rw [List.take_of_length_le]
  rw [List.length_drop]; simp
theorem ba_of {s : ByteArray} {l : List UInt8} (h : s.data.toList = l) : s = ⟨l.toArray⟩ := by
  subst h; rfl
set_option maxHeartbeats 1600000 in
theorem cut_in (s : ByteArray) (c : UInt8) (w : World) (hs : s.size ≤ 9223372036854775807) :
    Calls Tryd.prog 43 #[.string s, .string ⟨#[c]⟩] w fun e w' => e = .returned (.tuple #[.string ⟨(cutR c s.data.toList).1.toArray⟩, .string ⟨(cutR c s.data.toList).2.1.toArray⟩, .bool (cutR c s.data.toList).2.2]) ∧ ∃ m, w' = w.drewN m := by
  cases h : splitC c s.data.toList with
  | none =>
    have h1 := (split_none h).1
    have HR : Hid (cutR c s.data.toList = (s.data.toList, [], false)) := by unfold Hid cutR; rw [h]
    have HI : Hid (Calls Tryd.prog 58 #[.string s, .string ⟨#[c]⟩] w fun e w' => e = .returned (.int .i64 (-1)) ∧ w' = w) := by
      have := Tryd.stringslite_Index_one s c w
      rw [h1] at this
      exact this
    clear h h1
    go_enter Tryd.func43, Tryd.ntmps43
    go_wp2_with (go_at_call 58; with_reducible refine HI.out.mono ?_; rintro e w' ⟨rfl, rfl⟩)
    go_ret3
    exact ⟨by rw [HR.out]; rfl, 0, rfl⟩
  | some x =>
    obtain ⟨p, q⟩ := x
    obtain ⟨h1, h2, h3⟩ := split_some h
    have HR : Hid (cutR c s.data.toList = (p, q, true)) := by unfold Hid cutR; rw [h]
    have HI : Hid (Calls Tryd.prog 58 #[.string s, .string ⟨#[c]⟩] w fun e w' => e = .returned (.int .i64 (p.length : Int)) ∧ w' = w) := by
      have := Tryd.stringslite_Index_one s c w
      rw [h1] at this
      exact this
    have hl : p.length + 1 ≤ s.size := by
      have : s.data.toList.length = s.size := by simp
      rw [h2] at this; simp at this; omega
    have HP : Hid (s.extract 0 p.length = ⟨p.toArray⟩) := ba_of (by rw [ext_head, h2, List.take_left])
    have HQ : Hid (s.extract (p.length + 1) s.size = ⟨q.toArray⟩) := ba_of (by rw [ext_tail, h2, List.drop_append, List.drop_of_length_le (by omega)]; simp)
    clear h h1 h2 h3
    generalize p.length = n at *
    have c1 : (0 : Int) ≤ (n : Int) := by omega
    have c2 : (n : Int) ≤ (s.size : Int) := by omega
    have c4 : (n : Int) + 1 ≤ (s.size : Int) := by omega
    have c5 : (0 : Int) ≤ (n : Int) + 1 := by omega
    go_enter Tryd.func43, Tryd.ntmps43
    go_wp2_with (go_at_call 58; with_reducible refine HI.out.mono ?_; rintro e w' ⟨rfl, rfl⟩)
    go_quiet (fail)
    go_wp2
    go_ret3
    exact ⟨by rw [HR.out, ← HP.out, ← HQ.out]; rfl, nq, rfl⟩
theorem cut_any (s : ByteArray) (c : UInt8) (w : World) (hs : s.size ≤ 9223372036854775807) :
    Calls Tryd.prog 26 #[.string s, .string ⟨#[c]⟩] w fun e w' => e = .returned (.tuple #[.string ⟨(cutR c s.data.toList).1.toArray⟩, .string ⟨(cutR c s.data.toList).2.1.toArray⟩, .bool (cutR c s.data.toList).2.2]) ∧ ∃ m, w' = w.drewN m := by
  have HC := hidM (cut_in s c w hs)
  generalize (cutR c s.data.toList).1.toArray = A at *
  generalize (cutR c s.data.toList).2.1.toArray = B at *
  generalize (cutR c s.data.toList).2.2 = D at *
  go_enter Tryd.func26, Tryd.ntmps26
  go_wp2_with fail
  refine HC.out.mono ?_
  rintro _ w1 ⟨rfl, m, rfl⟩
  go_wp2
  go_ret3
  exact ⟨rfl, m, rfl⟩
def slash : ByteArray := ⟨#[47]⟩
/-- the parts between the slashes -/
def partsB (s : ByteArray) : List ByteArray := Lib.splitB slash 0 (Lib.countB s slash) s
theorem index_slash (x : ByteArray) : Lib.indexB x slash = Lib.indexByte x.data.toList 47 := Lib.index_one _ _
theorem count_slash (x : ByteArray) : Lib.countB x slash = Lib.countByte x.data.toList 47 := Lib.count_one _ _
theorem info9 : (Tryd.prog.info? 9).map (fun i => (i.zero, i.size, i.bytes)) = some (some (.string ByteArray.empty), 1, 16) := by kernel_rfl
theorem split_any (s : ByteArray) (w : World) (hs : s.size ≤ 200) :
    Calls Tryd.prog 28 #[.string s, .string slash] w fun e w' =>
      e = .returned (.slice (some ⟨w.heap.size, 0, none⟩) (partsB s).length (partsB s).length) ∧ w' = w.alloc (.cells ((partsB s).map Value.string).toArray 9) := by
  have hcl := Lib.countB_le slash (by decide) s.size s (Nat.le_refl _)
  have hlen := Lib.splitB_all slash (by decide) 0 _ s rfl
  have HG : Hid (Calls Tryd.prog 45 #[.string s, .string slash, .int .i64 0, .int .i64 (-1)] w fun e w' => e = .returned (.slice (some ⟨w.heap.size, 0, none⟩) (partsB s).length (partsB s).length) ∧ w' = w.alloc (.cells ((partsB s).map Value.string).toArray 9)) := by
    have c := Any.strings_genSplit_core Tryd.lays221 info9 s slash 0 (-1) (Lib.countB s slash + 1) w (by omega) (by decide) (Nat.zero_le _)
      (fun x c _ => by have h := Tryd.strings_Index_one x 47 (w.alloc (.cells c 9)); rw [← index_slash] at h; exact h)
      (by have h := Tryd.strings_Count_one s 47 w; rw [← count_slash] at h; exact h)
      (by decide) (by decide) (by rw [if_pos (by decide)]; omega)
    have hl : (partsB s).length = Lib.countB s slash + 1 := hlen
    refine c.mono fun e w' ⟨he, hw⟩ => ⟨?_, ?_⟩
    · rw [he]
      show Ending.returned (.slice _ (partsB s).length (Lib.countB s slash + 1)) = _
      rw [hl]
    · rw [hw]
      show w.alloc (.cells (Lib.cellsOf (partsB s) (Lib.countB s slash + 1)) 9) = _
      unfold Lib.cellsOf
      rw [hl]; simp
  clear hlen hcl
  generalize partsB s = ps at *
  unfold slash at *
  go_enter Tryd.func28, Tryd.ntmps28
  go_wp2_with fail
  refine HG.out.mono ?_
  rintro _ w1 ⟨rfl, rfl⟩
  go_wp2_with fail
  go_ret
  exact ⟨rfl, rfl⟩
theorem plain_no (s : ByteArray) (k : Nat) (h : k < s.size) (hc : ¬ (32 ≤ s[k].toNat ∧ s[k].toNat ≤ 126)) : plainL s.data.toList = false := by
  refine Bool.eq_false_iff.2 fun ht => hc ?_
  unfold plainL at ht
  rw [List.all_eq_true] at ht
  have := ht s[k] (by rw [show s[k] = s.data.toList[k]'(by rw [sl_len]; omega) from rfl]; exact List.getElem_mem _)
  simpa using this
set_option maxHeartbeats 1600000 in
theorem plain_any (s : ByteArray) (w : World) (hs : s.size ≤ 200) :
    Calls Tryd.prog 48 #[.string s] w fun e w' => e = .returned (.bool (plainL s.data.toList)) ∧ w' = w := by
  go_enter Tryd.func48, Tryd.ntmps48
  go_wp2
  go_loopw [3, 6] (fun _ i wr => ∃ (k : Nat), k ≤ s.size ∧ i = .int .i64 k ∧ plainL (s.data.toList.take k) = true ∧ wr = w) (fun _ i _ => s.size - (intOf i).toNat)
  case atStart => exact ⟨0, Nat.zero_le _, rfl, rfl, rfl⟩
  case round =>
    obtain ⟨k, hk, rfl, hd, rfl⟩ := hrel
    have HD := hidM hd
    clear hd
    by_cases hlt : k < s.size
    · have kk : (k : Int) < (s.size : Int) := by omega
      obtain ⟨c, hcc⟩ : ∃ c, c = s[k].toNat := ⟨_, rfl⟩
      have r0 : (s[k].toNat : Int) = (c : Int) := by omega
      by_cases hc : 32 ≤ s[k].toNat ∧ s[k].toNat ≤ 126
      · have HN : Hid (plainL (s.data.toList.take (k + 1)) = true) := by
          unfold Hid
          rw [take_one s k hlt]
          unfold plainL
          rw [List.all_append, show (s.data.toList.take k).all (fun c => decide (32 ≤ c.toNat ∧ c.toNat ≤ 126)) = true from HD.out]
          simp [hc]
        rw [← hcc] at hc
        obtain ⟨hc1, hc2⟩ := hc
        clear hcc
        have q1 : decide ((c : Int) < 32) = false := by simp; omega
        have q2 : decide ((126 : Int) < (c : Int)) = false := by simp; omega
        go_wp2
        go_roundw
        case rel => exact ⟨k + 1, by omega, by go_num, HN.out, trivial⟩
        case measure => (show s.size - ((k : Int) + 1).toNat < s.size - ((k : Int)).toNat); omega
      · have HF := hidM (plain_no s k hlt hc)
        rw [← hcc] at hc
        clear hcc
        by_cases hc1 : c < 32
        · have q1 : decide ((c : Int) < 32) = true := by simp; omega
          go_wp2
          go_ret
          exact ⟨by rw [HF.out]; rfl, rfl⟩
        · have q1 : decide ((c : Int) < 32) = false := by simp; omega
          have q2 : decide ((126 : Int) < (c : Int)) = true := by simp; omega
          go_wp2
          go_ret
          exact ⟨by rw [HF.out]; rfl, rfl⟩
    · obtain rfl : k = s.size := by omega
      have HF : Hid (plainL s.data.toList = true) := by
        have := HD.out
        rwa [List.take_of_length_le (by rw [sl_len]; omega)] at this
      go_wp2
      go_ret
      exact ⟨by rw [HF.out]; rfl, rfl⟩
def wholeL (ps : List ByteArray) : Bool := ps.all fun p => partOk p.data.toList
set_option maxHeartbeats 1600000 in
theorem whole_any (s : ByteArray) (w : World) (hs : s.size ≤ 200) :
    Calls Tryd.prog 49 #[.string s] w fun e w' => e = .returned (.bool (wholeL (partsB s))) ∧ Below w.heap.size w w' := by
  have HSP := hidM (split_any s w hs)
  have hpl : (partsB s).length ≤ 201 := by
    have := Lib.splitB_length_le slash 0 (Lib.countB s slash) s
    have h2 := Lib.countB_le slash (by decide) s.size s (Nat.le_refl _)
    unfold partsB; omega
  generalize partsB s = ps at *
  unfold slash at *
  go_enter Tryd.func49, Tryd.ntmps49
  go_wp2_with fail
  refine HSP.out.mono ?_
  rintro _ w1 ⟨rfl, rfl⟩
  have HC : Hid (∀ j (h : j < ps.length), (w.alloc (.cells (ps.map Value.string).toArray 9)).cell? ⟨w.heap.size, j, none⟩ = some (.string ps[j])) := by
    intro j h
    rw [World.cell?_alloc_mark w _ 9 (0, 0) j]
    simp [h]
  have HB : Hid (Below w.heap.size w (w.alloc (.cells (ps.map Value.string).toArray 9))) := (Below.refl _ _).alloc (Nat.le_refl _) _
  generalize w.alloc (.cells (ps.map Value.string).toArray 9) = W at *
  go_wp2
  go_loopw [4, 8] (fun _ i wr => ∃ (k : Nat), k ≤ ps.length ∧ i = .int .i64 k ∧ wholeL (ps.take k) = true ∧ wr = W) (fun _ i _ => ps.length - (intOf i).toNat)
  case atStart => exact ⟨0, Nat.zero_le _, rfl, rfl, rfl⟩
  case round =>
    obtain ⟨k, hk, rfl, hd, rfl⟩ := hrel
    have HD := hidM hd
    clear hd
    by_cases hlt : k < ps.length
    · have kk : (k : Int) < (ps.length : Int) := by omega
      have hc := HC.out k hlt
      by_cases hp : partOk ps[k].data.toList = true
      · have HN : Hid (wholeL (ps.take (k + 1)) = true) := by
          unfold Hid
          rw [List.take_succ_eq_append_getElem hlt]
          unfold wholeL
          rw [List.all_append, show (ps.take k).all (fun p => partOk p.data.toList) = true from HD.out]
          simp [hp]
        obtain ⟨⟨p1, p2⟩, p3⟩ : (ps[k].data.toList ≠ [] ∧ ps[k].data.toList ≠ [46]) ∧ ps[k].data.toList ≠ [46, 46] := by simpa [partOk] using hp
        rw [← ByteArray.toList_eq] at p1 p2 p3
        generalize ps[k] = X at *
        have e1 : X.toList.isEmpty = false := by cases h : X.toList <;> simp_all
        have e2 : (X.toList == [46]) = false := beq_false_of_ne p2
        have e3 : (X.toList == [46, 46]) = false := beq_false_of_ne p3
        clear p2 p3 hp
        go_wp2
        go_roundw
        case rel => exact ⟨k + 1, by omega, by go_num, HN.out, trivial⟩
        case measure => (show ps.length - ((k : Int) + 1).toNat < ps.length - ((k : Int)).toNat); omega
      · have HF : Hid (wholeL ps = false) := by
          refine Bool.eq_false_iff.2 fun ht => hp ?_
          unfold wholeL at ht
          rw [List.all_eq_true] at ht
          exact ht _ (List.getElem_mem _)
        generalize ps[k] = X at *
        by_cases h1 : X.toList = []
        · clear hp
          go_wp2
          go_ret
          exact ⟨by rw [HF.out]; rfl, HB.out⟩
        have e1 : X.toList.isEmpty = false := by cases h : X.toList <;> simp_all
        by_cases h2 : X.toList = [46]
        · have e2 : (X.toList == [46]) = true := by rw [h2]; rfl
          clear hp h2
          go_wp2
          go_ret
          exact ⟨by rw [HF.out]; rfl, HB.out⟩
        have e2 : (X.toList == [46]) = false := beq_false_of_ne h2
        by_cases h3 : X.toList = [46, 46]
        · have e3 : (X.toList == [46, 46]) = true := by rw [h3]; rfl
          clear hp h2 h3
          go_wp2
          go_ret
          exact ⟨by rw [HF.out]; rfl, HB.out⟩
        · rw [ByteArray.toList_eq] at h1 h2 h3
          exact absurd (by unfold partOk; rw [beq_false_of_ne h1, beq_false_of_ne h2, beq_false_of_ne h3]; rfl) hp
    · obtain rfl : k = ps.length := by omega
      have HF : Hid (wholeL ps = true) := by
        have := HD.out
        rwa [List.take_of_length_le (Nat.le_refl _)] at this
      go_wp2
      go_ret
      exact ⟨by rw [HF.out]; rfl, HB.out⟩
/-- is it a path? -/
def cleanB (s : ByteArray) : Bool := decide (s.size ≤ 200) && plainL s.data.toList && wholeL (partsB s)
set_option maxHeartbeats 1600000 in
theorem clean_any (s : ByteArray) (w : World) :
    Calls Tryd.prog 32 #[.string s] w fun e w' => e = .returned (.bool (cleanB s)) ∧ Below w.heap.size w w' := by
  by_cases hs : s.size ≤ 200
  · have g : decide ((s.size : Int) ≤ 200) = true := by simp; omega
    have HP := hidM (fun W => plain_any s W hs)
    have HW := hidM (fun W => whole_any s W hs)
    have HC : Hid (cleanB s = (plainL s.data.toList && wholeL (partsB s))) := by unfold Hid cleanB; simp [hs]
    generalize plainL s.data.toList = A at *
    generalize wholeL (partsB s) = B at *
    cases A
    · go_enter Tryd.func32, Tryd.ntmps32
      go_wp2_with fail
      refine (HP.out _).mono ?_
      rintro _ w1 ⟨rfl, rfl⟩
      go_wp2_with fail
      go_ret
      exact ⟨by rw [HC.out]; rfl, Below.refl _ _⟩
    · go_enter Tryd.func32, Tryd.ntmps32
      go_wp2_with fail
      refine (HP.out _).mono ?_
      rintro _ w1 ⟨rfl, rfl⟩
      go_wp2_with fail
      refine (HW.out _).mono ?_
      rintro _ w1 ⟨rfl, hb⟩
      go_wp2_with fail
      go_ret
      exact ⟨by rw [HC.out]; rfl, hb⟩
  · have g : decide ((s.size : Int) ≤ 200) = false := by simp; omega
    have HC : Hid (cleanB s = false) := by unfold Hid cleanB; simp [hs]
    go_enter Tryd.func32, Tryd.ntmps32
    go_wp2_with fail
    go_ret
    exact ⟨by rw [HC.out]; rfl, Below.refl _ _⟩
theorem ba_eq {a b : ByteArray} (h : a.data.toList = b.data.toList) : a = b := by
  cases a; cases b; simp at h; rw [h]
/-- texts, in a row of the call's own -/
def strsV (l : List ByteArray) : List Value := l.map Value.string
def OwnS (w : World) (B : Nat) (v : Value) (l : List ByteArray) : Prop := w.ownsRow B 9 1 v l.length (strsV l)
theorem OwnS.push {w : World} {B : Nat} {v : Value} {l : List ByteArray} {x : ByteArray} (h : w.ownsRow B 9 1 v (l.length + 1) (strsV l ++ [.string x])) : OwnS w B v (l ++ [x]) := by
  unfold OwnS strsV
  rw [List.map_append]
  simpa [strsV] using h
theorem cell_new_at (w : World) (v : Value) (t n : Nat) (hn : w.heap.size = n) : ∀ j u, [v][j]? = some u → (w.alloc (.cells #[v] t)).cell? ((⟨n, 0, none⟩ : Addr).add j) = some u := by
  intro j u hj
  subst hn
  rcases j with _ | j
  · simp at hj; subst hj; rw [Addr.add_lit]; simp
  · simp at hj
theorem OwnS.below {w wr w1 : World} {B : Nat} {v : Value} {l : List ByteArray} {o : Obj} (hown : OwnS wr B v l) (hb : Below B w wr) (hB : B ≤ wr.heap.size) (hg : (wr.alloc o).grownBy w1 v.ownBlock) : Below B w w1 :=
  (hb.alloc hB o).grown hg (by simp; omega) (fun k hk => (World.ownsRow.lt hown k hk).1)
def SlRet (w : World) (B : Nat) (l : List ByteArray) (e : Ending) : Prop := ∃ v, OwnS w B v l ∧ e = .returned v
def StrsAt (w : World) (g : Nat) (l : List ByteArray) : Prop := ∀ j (h : j < l.length), w.cell? ⟨g, j, none⟩ = some (.string l[j])
theorem StrsAt.below {w w' : World} {g B : Nat} {l : List ByteArray} (h : StrsAt w g l) (hb : Below B w w') (hB : g < B) : StrsAt w' g l := fun j hj =>
  (hb.cell (p := ⟨g, j, none⟩) hB).trans (h j hj)
theorem OwnS.shape {w : World} {B : Nat} {v : Value} {l : List ByteArray} (h : OwnS w B v l) : ∃ a c, v = .slice a l.length c ∧ (l ≠ [] → ∃ g, a = some ⟨g, 0, none⟩ ∧ B ≤ g ∧ g < w.heap.size ∧ StrsAt w g l) := by
  have h' := h
  rcases h.2 with ⟨hnil, hn⟩ | ⟨g, cap, cur, rfl, hbase, hbk, h1, h2, h3, h4⟩
  · refine ⟨none, 0, by rw [hnil, hn], fun hne => ?_⟩
    exact absurd (List.eq_nil_of_length_eq_zero hn) hne
  · refine ⟨_, cap, rfl, fun _ => ⟨g, rfl, hbase, (Array.getElem?_eq_some_iff.1 hbk).1, fun j hj => ?_⟩⟩
    have := World.ownsRow.cells h' (g := g) rfl j (.string l[j]) (by unfold strsV; simp [hj])
    rw [Addr.add_lit, Nat.zero_add] at this
    exact this
/-- the list of texts that a value is -/
def StrsV (w : World) (v : Value) (l : List ByteArray) : Prop := ∃ a c, v = .slice a l.length c ∧ (l ≠ [] → ∃ g, a = some ⟨g, 0, none⟩ ∧ g < w.heap.size ∧ StrsAt w g l)
theorem OwnS.strs {w : World} {B : Nat} {v : Value} {l : List ByteArray} (h : OwnS w B v l) : StrsV w v l := by
  obtain ⟨a, c, hv, hs⟩ := h.shape
  exact ⟨a, c, hv, fun hne => by obtain ⟨g, h1, _, h2, h3⟩ := hs hne; exact ⟨g, h1, h2, h3⟩⟩
theorem StrsV.below {w w' : World} {v : Value} {l : List ByteArray} (h : StrsV w v l) (hb : Below w.heap.size w w') : StrsV w' v l := by
  obtain ⟨a, c, hv, hs⟩ := h
  exact ⟨a, c, hv, fun hne => by obtain ⟨g, h1, h2, h3⟩ := hs hne; exact ⟨g, h1, Nat.lt_of_lt_of_le h2 hb.size, h3.below hb h2⟩⟩
theorem index_mem (l : List UInt8) (h : Lib.indexByte l 47 = -1) : (47 : UInt8) ∉ l := by
  intro hm
  obtain ⟨k, hk, he⟩ := List.mem_iff_getElem.1 hm
  exact Lib.indexByte_none h k (by rw [List.getElem?_eq_getElem hk, he])
theorem splitB_parts : ∀ (k : Nat) (s : ByteArray), Lib.countByte s.data.toList 47 = k → (Lib.splitB slash 0 k s).map (fun b => b.data.toList) = partsL s.data.toList := by
  intro k
  induction k with
  | zero =>
    intro s h
    rw [Lib.splitB_zero]
    unfold Lib.countByte at h
    rw [partsL_none _ (List.count_eq_zero.1 h)]; rfl
  | succ k ih =>
    intro s h
    unfold Lib.splitB
    rw [index_slash]
    by_cases hi : Lib.indexByte s.data.toList 47 = -1
    · rw [if_pos (by simp [hi]), partsL_none _ (index_mem _ hi)]; rfl
    · rw [if_neg (by simpa using hi)]
      obtain ⟨o, ho⟩ : ∃ o : Nat, Lib.indexByte s.data.toList 47 = o := ⟨(Lib.indexByte s.data.toList 47).toNat, by have := Lib.indexByte_ge s.data.toList 47; omega⟩
      rw [ho]
      have hsome := Lib.indexByte_some ho
      obtain ⟨hol, hoe⟩ := List.getElem?_eq_some_iff.1 hsome.1
      have hl : s.data.toList = s.data.toList.take o ++ 47 :: s.data.toList.drop (o + 1) := by
        conv => lhs; rw [← List.take_append_drop o s.data.toList, List.drop_eq_getElem_cons hol, hoe]
      have hno : (47 : UInt8) ∉ s.data.toList.take o := by
        intro hm
        obtain ⟨j, hj, he⟩ := List.mem_iff_getElem.1 hm
        have hj2 : j < o := by rw [List.length_take] at hj; omega
        exact hsome.2 j hj2 (by rw [List.getElem_take] at he; rw [List.getElem?_eq_getElem (by omega), he])
      have e1 : (s.extract 0 ((o : Int).toNat + 0)).data.toList = s.data.toList.take o := by rw [Lib.extract_data]; simp
      have e2 : (s.extract ((o : Int).toNat + slash.size) s.size).data.toList = s.data.toList.drop (o + 1) := by
        rw [Lib.extract_data]
        rw [show (o : Int).toNat + slash.size = o + 1 from rfl]
        refine List.take_of_length_le ?_
        rw [List.length_drop, ← Lib.size_eq]; omega
      have hcount : Lib.countByte (s.data.toList.drop (o + 1)) 47 = k := by
        unfold Lib.countByte at h ⊢
        rw [hl, List.count_append, List.count_cons_self, List.count_eq_zero.2 hno] at h
        omega
      rw [List.map_cons, e1, ih _ (by rw [e2]; exact hcount), e2]
      conv => rhs; rw [hl]
      rw [partsL_app, partsL_none _ hno]; rfl
theorem parts_eq (s : ByteArray) : (partsB s).map (fun b => b.data.toList) = partsL s.data.toList := by
  unfold partsB
  rw [count_slash]
  exact splitB_parts _ s rfl
theorem clean_eq (s : ByteArray) : cleanB s = cleanL s.data.toList := by
  unfold cleanB cleanL wholeL
  rw [← parts_eq, List.all_map, Lib.size_eq]; rfl
theorem parts_snoc (l : List UInt8) (c : UInt8) (h : c ≠ 47) : ∃ I Z, partsL l = I ++ [Z] ∧ partsL (l ++ [c]) = I ++ [Z ++ [c]] := by
  induction l with
  | nil => exact ⟨[], [], rfl, by simp [partsL, h]⟩
  | cons x l ih =>
    obtain ⟨I, Z, h1, h2⟩ := ih
    rw [List.cons_append, partsL_cons, partsL_cons, h1, h2]
    by_cases hx : x = 47
    · rw [if_pos hx, if_pos hx]
      exact ⟨[] :: I, Z, rfl, rfl⟩
    · rw [if_neg hx, if_neg hx]
      cases I with
      | nil => exact ⟨[], x :: Z, rfl, rfl⟩
      | cons a t => exact ⟨(x :: a) :: t, Z, rfl, rfl⟩
theorem parts_slash (l : List UInt8) : partsL (l ++ [47]) = partsL l ++ [[]] := partsL_app l []
def mkB (l : List UInt8) : ByteArray := ⟨l.toArray⟩
def rpB (s : ByteArray) (k : Nat) : List ByteArray := (partsL (s.data.toList.take k)).map mkB
theorem rpB_slash (s : ByteArray) (k : Nat) (h : k < s.size) (hc : s[k] = 47) : rpB s (k + 1) = rpB s k ++ [⟨#[]⟩] := by
  unfold rpB
  rw [take_one s k h, hc, parts_slash, List.map_append]; rfl
theorem rpB_other (s : ByteArray) (k : Nat) (h : k < s.size) (hc : s[k] ≠ 47) : ∃ I Z, rpB s k = I ++ [Z] ∧ rpB s (k + 1) = I ++ [Z ++ s.extract k (k + 1)] := by
  obtain ⟨I, Z, h1, h2⟩ := parts_snoc (s.data.toList.take k) s[k] hc
  refine ⟨I.map mkB, mkB Z, by unfold rpB; rw [h1, List.map_append]; rfl, ?_⟩
  unfold rpB
  rw [take_one s k h, h2, List.map_append]
  congr 1
  simp only [List.map_cons, List.map_nil, List.cons.injEq, and_true]
  refine ba_eq ?_
  have e : (s.extract k (k + 1)).data.toList = [s[k]] := by
    rw [Lib.extract_data]
    have hl : k < s.data.toList.length := by rw [← Lib.size_eq]; exact h
    rw [List.drop_eq_getElem_cons hl]
    simp
    rfl
  rw [ByteArray.data_append, Array.toList_append, e]
  simp [mkB]
theorem parts_le (l : List UInt8) : ∀ p ∈ partsL l, p.length ≤ l.length := by
  induction l with
  | nil => intro p hp; simp [partsL] at hp; subst hp; simp
  | cons x l ih =>
    intro p hp
    rw [partsL_cons] at hp
    split at hp
    · rcases List.mem_cons.1 hp with rfl | hp
      · simp
      · have := ih p hp; simp; omega
    · split at hp
      · rename_i a t hh
        rcases List.mem_cons.1 hp with rfl | hp
        · have := ih a (by rw [hh]; simp); simp; omega
        · have := ih p (by rw [hh]; exact List.mem_cons_of_mem _ hp); simp; omega
      · simp at hp; subst hp; simp
theorem rpB_size (s : ByteArray) (k : Nat) : ∀ x ∈ rpB s k, x.size ≤ k := by
  intro x hx
  unfold rpB at hx
  obtain ⟨l, hl, rfl⟩ := List.mem_map.1 hx
  have h1 := parts_le _ l hl
  have h2 : (s.data.toList.take k).length ≤ k := by rw [List.length_take]; omega
  show l.toArray.size ≤ k
  rw [List.size_toArray]; omega
theorem rpB_len (s : ByteArray) (k : Nat) : (rpB s k).length ≤ k + 1 ∧ 0 < (rpB s k).length := by
  unfold rpB
  rw [List.length_map]
  refine ⟨?_, List.length_pos_iff.2 (partsL_ne _)⟩
  have : ∀ l : List UInt8, (partsL l).length ≤ l.length + 1 := fun l => by
    induction l with
    | nil => simp [partsL]
    | cons x l ih =>
      rw [partsL_cons]
      split
      · simp; omega
      · split
        · rename_i h t hh; rw [hh] at ih; simp at ih ⊢; omega
        · simp
  have h1 := this (s.data.toList.take k)
  have h2 : (s.data.toList.take k).length ≤ k := by rw [List.length_take]; omega
  omega
set_option maxHeartbeats 1600000 in
theorem rparts_any (s : ByteArray) (w : World) (hs : s.size ≤ 1000000) :
    Calls Tryd.prog 25 #[.string s] w fun e w' => SlRet w' w.heap.size (rpB s s.size) e ∧ Below w.heap.size w w' := by
  obtain ⟨i0, hi, hz0, hz1, hz2⟩ := info_parts info9
  go_enter Tryd.func25, Tryd.ntmps25
  go_wp2_with fail
  have HO0 : Hid (OwnS (w.alloc (.cells #[.string ⟨#[]⟩] 9)) w.heap.size (.slice (some ⟨w.heap.size, 0, none⟩) 1 1) (rpB s 0)) :=
    ⟨by simp [rpB, partsL, strsV], .inr ⟨w.heap.size, 1, #[.string ⟨#[]⟩], rfl, Nat.le_refl _, heap_alloc_new w _, Nat.le_refl _, by simp [maxLen], rfl, rfl⟩⟩
  go_loopw [3, 4] (fun v i wr => ∃ (k : Nat), k ≤ s.size ∧ i = .int .i64 k ∧ OwnS wr w.heap.size v (rpB s k) ∧ Below w.heap.size w wr) (fun _ i _ => s.size - (intOf i).toNat)
  case atStart => exact ⟨0, Nat.zero_le _, rfl, HO0.out, (Below.refl _ _).alloc (Nat.le_refl _) _⟩
  case round =>
    obtain ⟨k, hk, rfl, hown, hbr⟩ := hrel
    have HO := hidM hown
    have HB := hidM hbr
    have hsz := hbr.size
    clear hown hbr HO0
    have hln := rpB_len s k
    by_cases hlt : k < s.size
    · have kk : (k : Int) < (s.size : Int) := by omega
      obtain ⟨ch, hch⟩ : ∃ ch, ch = s[k].toNat := ⟨_, rfl⟩
      have r0 : (s[k].toNat : Int) = (ch : Int) := by omega
      by_cases h47 : s[k] = 47
      · have HT := hidM (rpB_slash s k hlt h47)
        have r47 : (s[k].toNat : Int) = 47 := by rw [h47]; rfl
        generalize rpB s k = L at *
        clear h47 r0 hch
        go_wp2_with (first
          | (at_builtin; refine wpList_append_own _ rfl _ _ 35 rfl w.heap.size 9 i0 (.string .empty) 1 16 Tryd.underlying35 hi hz0 hz1 hz2 rfl (by decide) _ _ _ rfl (World.ownsRow.alloc HO.out _) ⟨wr.heap.size, 0, none⟩ 1 1 [.string ⟨#[]⟩] ?d0 rfl ?d1 ?d2 ?d3 ?d4 ?d5 ?_))
        case d0 => rfl
        case d1 => exact cell_new_at _ _ _ _ rfl
        case d2 => intro u hu; simp at hu; subst hu; rfl
        case d3 => unfold maxLen; omega
        case d4 => omega
        case d5 => simp; omega
        intro v' w2 hown' hgrow _
        have HO2 := hidM (OwnS.push hown')
        have HB3 := hidM (OwnS.below HO.out HB.out hsz hgrow)
        clear hown' hgrow
        go_wp2_with fail
        go_roundw
        case rel => exact ⟨k + 1, by omega, by go_num, by rw [HT.out]; exact HO2.out, HB3.out⟩
        case measure => (show s.size - ((k : Int) + 1).toNat < s.size - ((k : Int)).toNat); omega
      · have qc : ((ch : Int) == 47) = false := by
          have : ch ≠ 47 := fun e => h47 (by rw [← UInt8.toNat_inj, ← hch, e]; rfl)
          simp; omega
        obtain ⟨I, Z, h1, h2⟩ := rpB_other s k hlt h47
        have HT := hidM h2
        have hzs := rpB_size s k Z (by rw [h1]; simp)
        rw [h1] at HO hln
        clear h1 h2 h47 hch
        obtain ⟨a, cp, rfl, hsh⟩ := HO.out.shape
        obtain ⟨g, rfl, hg1, hg2, hst⟩ := hsh (by simp)
        obtain ⟨m, hm⟩ : ∃ m, m = I.length := ⟨_, rfl⟩
        have hLm : (I ++ [Z]).length = m + 1 := by rw [hm]; simp
        have cm : wr.cell? ⟨g, m, none⟩ = some (.string Z) := by
          have := hst m (by rw [hLm]; omega)
          rw [this]; simp [hm]
        have fz : wr.frozen? ⟨g, m, none⟩ = false := World.ownsRow.frozenAt HO.out m
        have HO' : Hid (wr.ownsRow w.heap.size 9 1 (.slice (some ⟨g, 0, none⟩) (m + 1) cp) (m + 1) (strsV (I ++ [Z]))) := by
          have := HO.out
          unfold OwnS at this
          rw [hLm] at this
          exact this
        have HST : Hid (∀ (W : World) (x : ByteArray), W.ownsRow w.heap.size 9 1 (.slice (some ⟨g, 0, none⟩) (m + 1) cp) (m + 1) ((strsV (I ++ [Z])).set m (.string x)) → OwnS W w.heap.size (.slice (some ⟨g, 0, none⟩) (m + 1) cp) (I ++ [x])) := fun W x h => by
          unfold OwnS
          have e1 : (I ++ [x]).length = m + 1 := by rw [hm]; simp
          have e2 : (strsV (I ++ [Z])).set m (.string x) = strsV (I ++ [x]) := by
            unfold strsV
            rw [List.map_append, List.map_append, List.set_append_right _ _ (by simp [hm])]
            simp [hm]
          rw [e1, ← e2]; exact h
        have hlm : m ≤ k := by have := hln.1; omega
        rw [hLm]
        have j1 : ((m + 1 : Nat) : Int) - 1 = (m : Int) := by omega
        have j2 : (m : Int) < ((m + 1 : Nat) : Int) := by omega
        have j3 : (k : Int) + 1 = ((k + 1 : Nat) : Int) := by omega
        have j4 : ((k + 1 : Nat) : Int) ≤ (s.size : Int) := by omega
        have j5 : (k : Int) ≤ ((k + 1 : Nat) : Int) := by omega
        have hes : (s.extract k (k + 1)).size ≤ 1 := by rw [ByteArray.size_extract]; omega
        clear hsh hst hLm hln HO hm
        generalize m + 1 = m1 at *
        generalize k + 1 = k1 at *
        go_wp2_with fail
        go_region
        have HSD := hidM (World.ownsRow.stored HO'.out m (.string (Z ++ s.extract k k1)))
        have HO2 : Hid (OwnS (wr.setCell ⟨g, m, none⟩ (.string (Z ++ s.extract k k1))).drew w.heap.size (.slice (some ⟨g, 0, none⟩) m1 cp) (I ++ [Z ++ s.extract k k1])) := HST.out _ _ HSD.out.1.drew
        have HB2 : Hid (Below w.heap.size w (wr.setCell ⟨g, m, none⟩ (.string (Z ++ s.extract k k1))).drew) := below_drewN (HB.out.grown HSD.out.2 hsz (fun j hj => by cases hj; exact hg1)) 1
        generalize (wr.setCell ⟨g, m, none⟩ (.string (Z ++ s.extract k k1))).drew = w2 at *
        clear HSD cm fz HO' HST
        go_wp2_with fail
        go_roundw
        case rel => exact ⟨k1, by omega, by go_num, by rw [HT.out]; exact HO2.out, HB2.out⟩
        case measure => (show s.size - ((k1 : Int)).toNat < s.size - ((k : Int)).toNat); omega
    · obtain rfl : k = s.size := by omega
      go_wp2_with fail
      go_ret
      exact ⟨⟨_, HO.out, rfl⟩, HB.out⟩
theorem rpB_all (s : ByteArray) : rpB s s.size = (partsL s.data.toList).map mkB := by
  unfold rpB
  rw [List.take_of_length_le (by rw [← Lib.size_eq]; exact Nat.le_refl _)]
set_option maxHeartbeats 1600000 in
theorem rclean_any (s : ByteArray) (w : World) :
    Calls Tryd.prog 35 #[.string s] w fun e w' => e = .returned (.bool (cleanB s)) ∧ Below w.heap.size w w' := by
  rw [clean_eq]
  have hsl : s.data.toList.length = s.size := (Lib.size_eq s).symm
  by_cases hs : s.size ≤ 200
  · have g : decide ((200 : Int) < (s.size : Int)) = false := by simp; omega
    have HPT := hidM (fun W => rparts_any s W (by omega))
    rw [rpB_all] at HPT
    have HLN : Hid ((partsL s.data.toList).length ≤ 201) := by
      have := (rpB_len s s.size).1
      rw [rpB_all, List.length_map] at this
      unfold Hid; omega
    have HCL : Hid (cleanL s.data.toList = (plainL s.data.toList && (partsL s.data.toList).all partOk)) := by
      unfold Hid cleanL
      rw [show decide (s.data.toList.length ≤ 200) = true by rw [hsl]; simpa using hs]; rfl
    clear hsl
    go_enter Tryd.func35, Tryd.ntmps35
    go_wp2_with fail
    go_loopw [3] (fun i wr => ∃ (k : Nat), k ≤ s.size ∧ i = .int .i64 k ∧ plainL (s.data.toList.take k) = true ∧ wr = w) (fun i _ => s.size - (intOf i).toNat)
    case atStart => exact ⟨0, Nat.zero_le _, rfl, rfl, rfl⟩
    case round =>
      obtain ⟨k, hk, rfl, hd, rfl⟩ := hrel
      have HD := hidM hd
      clear hd
      by_cases hlt : k < s.size
      · have kk : (k : Int) < (s.size : Int) := by omega
        obtain ⟨c, hcc⟩ : ∃ c, c = s[k].toNat := ⟨_, rfl⟩
        have r0 : (s[k].toNat : Int) = (c : Int) := by omega
        by_cases hc : 32 ≤ s[k].toNat ∧ s[k].toNat ≤ 126
        · have HN : Hid (plainL (s.data.toList.take (k + 1)) = true) := by
            unfold Hid
            rw [take_one s k hlt]
            unfold plainL
            rw [List.all_append, show (s.data.toList.take k).all (fun c => decide (32 ≤ c.toNat ∧ c.toNat ≤ 126)) = true from HD.out]
            simp [hc]
          rw [← hcc] at hc
          obtain ⟨hc1, hc2⟩ := hc
          clear hcc
          have q1 : decide ((c : Int) < 32) = false := by simp; omega
          have q2 : decide ((126 : Int) < (c : Int)) = false := by simp; omega
          go_wp2_with fail
          go_roundw
          case rel => exact ⟨k + 1, by omega, by go_num, HN.out, trivial⟩
          case measure => (show s.size - ((k : Int) + 1).toNat < s.size - ((k : Int)).toNat); omega
        · have HF : Hid (cleanL s.data.toList = false) := by unfold Hid; rw [HCL.out, plain_no s k hlt hc]; rfl
          rw [← hcc] at hc
          clear hcc
          by_cases hc1 : c < 32
          · have q1 : decide ((c : Int) < 32) = true := by simp; omega
            go_wp2_with fail
            go_ret
            exact ⟨by rw [HF.out]; rfl, Below.refl _ _⟩
          · have q1 : decide ((c : Int) < 32) = false := by simp; omega
            have q2 : decide ((126 : Int) < (c : Int)) = true := by simp; omega
            go_wp2_with fail
            go_ret
            exact ⟨by rw [HF.out]; rfl, Below.refl _ _⟩
      · obtain rfl : k = s.size := by omega
        have HPL : Hid (plainL s.data.toList = true) := by
          have := HD.out
          rwa [List.take_of_length_le (by rw [← Lib.size_eq]; exact Nat.le_refl _)] at this
        have HC2 : Hid (cleanL s.data.toList = (partsL s.data.toList).all partOk) := by unfold Hid; rw [HCL.out, HPL.out]; rfl
        clear HCL HD HPL
        generalize partsL s.data.toList = ps at *
        go_wp2_with fail
        refine (HPT.out _).mono ?_
        rintro _ w1 ⟨⟨v, hv, rfl⟩, hb1⟩
        obtain ⟨a, cp, hvv, hst⟩ := hv.strs
        rw [List.length_map] at hvv
        subst hvv
        have HST : Hid (∀ m (h : m < ps.length), ∃ g, a = some ⟨g, 0, none⟩ ∧ w1.cell? ⟨g, m, none⟩ = some (.string (mkB ps[m]))) := fun m h => by
          obtain ⟨g, h1, _, h3⟩ := hst (fun hh => by have := congrArg List.length hh; simp at this; rw [this] at h; simp at h)
          have := h3 m (by simpa using h)
          exact ⟨g, h1, by rw [this]; simp⟩
        have HB1 := hidM hb1
        have hln := HLN.out
        clear hv hb1 hst HPT
        go_wp2_with fail
        go_loopw [28] (fun i wx => ∃ (m : Nat), m ≤ ps.length ∧ i = .int .i64 m ∧ (∀ t (h : t < ps.length), t < m → partOk ps[t] = true) ∧ wx = w1) (fun i _ => ps.length - (intOf i).toNat)
        case atStart => exact ⟨0, Nat.zero_le _, rfl, fun t _ h => by omega, rfl⟩
        case round =>
          obtain ⟨m, hm, rfl, hd, rfl⟩ := hrel
          have HD := hidM hd
          clear hd
          by_cases hml : m < ps.length
          · have mk : (m : Int) < (ps.length : Int) := by omega
            obtain ⟨g, rfl, y0⟩ := HST.out m hml
            have hxd : (mkB ps[m]).toList = ps[m] := by rw [ByteArray.toList_eq]; simp [mkB]
            have HOK : Hid (partOk (mkB ps[m]).toList = true → ∀ t (h : t < ps.length), t < m + 1 → partOk ps[t] = true) := fun he t h ht => by
              rw [hxd] at he
              by_cases h5 : t < m
              · exact HD.out t h h5
              · have : t = m := by omega
                subst this; exact he
            have HNO : Hid (partOk (mkB ps[m]).toList = false → cleanL s.data.toList = false) := fun he => by
              rw [hxd] at he
              rw [HC2.out]
              refine Bool.eq_false_iff.2 fun hall => ?_
              have := List.all_eq_true.1 hall ps[m] (List.getElem_mem hml)
              rw [he] at this; cases this
            clear hxd
            generalize mkB ps[m] = X at *
            by_cases h1 : X.toList = []
            · have HF := hidM (HNO.out (by rw [h1]; rfl))
              have e1 : (X.toList == []) = true := by rw [h1]; rfl
              clear h1
              go_wp2_with fail
              go_ret
              exact ⟨by rw [HF.out]; rfl, HB1.out⟩
            have e1 : (X.toList == []) = false := beq_false_of_ne h1
            by_cases h2 : X.toList = [46]
            · have HF := hidM (HNO.out (by rw [h2]; rfl))
              have e2 : (X.toList == [46]) = true := by rw [h2]; rfl
              clear h1 h2
              go_wp2_with fail
              go_ret
              exact ⟨by rw [HF.out]; rfl, HB1.out⟩
            have e2 : (X.toList == [46]) = false := beq_false_of_ne h2
            by_cases h3 : X.toList = [46, 46]
            · have HF := hidM (HNO.out (by rw [h3]; rfl))
              have e3 : (X.toList == [46, 46]) = true := by rw [h3]; rfl
              clear h1 h2 h3
              go_wp2_with fail
              go_ret
              exact ⟨by rw [HF.out]; rfl, HB1.out⟩
            have e3 : (X.toList == [46, 46]) = false := beq_false_of_ne h3
            have HN := hidM (HOK.out (by unfold partOk; rw [e1, e2, e3]; rfl))
            clear h1 h2 h3
            go_wp2_with fail
            go_roundw
            case rel => exact ⟨m + 1, by omega, by go_num, HN.out, trivial⟩
            case measure => (show ps.length - ((m : Int) + 1).toNat < ps.length - ((m : Int)).toNat); omega
          · have HF : Hid (cleanL s.data.toList = true) := by
              unfold Hid
              rw [HC2.out, List.all_eq_true]
              intro p hp
              obtain ⟨t, ht, rfl⟩ := List.mem_iff_getElem.1 hp
              exact HD.out t ht (by omega)
            obtain rfl : m = ps.length := by omega
            go_wp2_with fail
            go_ret
            exact ⟨by rw [HF.out]; rfl, HB1.out⟩
  · have g : decide ((200 : Int) < (s.size : Int)) = true := by simp; omega
    have HF : Hid (cleanL s.data.toList = false) := by
      unfold Hid cleanL
      rw [show decide (s.data.toList.length ≤ 200) = false by rw [hsl]; simpa using hs]; rfl
    go_enter Tryd.func35, Tryd.ntmps35
    go_wp2_with fail
    go_ret
    exact ⟨by rw [HF.out]; rfl, Below.refl _ _⟩
end Go.Proofs.YtgkjmmfpbcgmgaaDoor
