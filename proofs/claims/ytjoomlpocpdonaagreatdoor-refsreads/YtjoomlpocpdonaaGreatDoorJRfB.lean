/-
  Name, as the program has it.
  Name, as the document has it.
-/
import Derived.Test.YtjoomlpocpdonaaGreatDoorRfM
import Derived.Test.YtjoomlpocpdonaaGreatDoorShelR
namespace Go.Proofs.YtjoomlpocpdonaaGreatDoor
open Go.RowKit

structure GOk (m : Int) (w : World) : Prop where
  lt : 0 < w.heap.size
  cell : w.cell? ⟨0, 0, none⟩ = some (.int .i64 m)
theorem GOk.below {m : Int} {w w' : World} (h : GOk m w) (hb : Below w.heap.size w w') : GOk m w' :=
  ⟨Nat.lt_of_lt_of_le h.lt hb.size, (hb.cell (p := ⟨0, 0, none⟩) h.lt).trans h.cell⟩
theorem GOk.keep {m : Int} {w w' : World} {B : Nat} (h : GOk m w) (h0 : 0 < B) (hb : Below B w w') : GOk m w' :=
  ⟨Nat.lt_of_lt_of_le h.lt hb.size, (hb.cell (p := ⟨0, 0, none⟩) h0).trans h.cell⟩
theorem bar_index (c : UInt8) : decide (0 ≤ Lib.indexByte (⟨#[32, 126, 94, 58, 63, 42, 91, 92]⟩ : ByteArray).data.toList c) = barL.contains c := by
  rw [show (⟨#[32, 126, 94, 58, 63, 42, 91, 92]⟩ : ByteArray).data.toList = barL from rfl]
  exact (Lib.contains_iff_indexByte barL c).symm
theorem noBar_no (s : ByteArray) (k : Nat) (h : k < s.size) (hc : barL.contains s[k] = true) : noBar s.data.toList = false := by
  refine Bool.eq_false_iff.2 fun ht => ?_
  unfold noBar at ht
  rw [List.all_eq_true] at ht
  have := ht s[k] (by rw [show s[k] = s.data.toList[k]'(by rw [sl_len]; omega) from rfl]; exact List.getElem_mem _)
  rw [hc] at this
  cases this
set_option maxHeartbeats 1600000 in
theorem nplain_any (s : ByteArray) (m : Int) (w : World) (hs : s.size ≤ 200) (hg : GOk m w) :
    Calls Tryz.prog 37 #[.string s] w fun e w' => e = .returned (.bool (plainN s.data.toList)) ∧ w' = w := by
  have HI : Hid (∀ c : UInt8, Calls Tryz.prog 61 #[.string ⟨#[32, 126, 94, 58, 63, 42, 91, 92]⟩, .int .u8 (c.toNat : Int)] w fun e w' => ∃ n : Int, e = .returned (.int .i64 n) ∧ decide (0 ≤ n) = barL.contains c ∧ w' = w) := fun c =>
    (Tryz.strings_IndexByte ⟨#[32, 126, 94, 58, 63, 42, 91, 92]⟩ (c.toNat : Int) w).mono fun e w' h => ⟨_, h.1, by rw [show ((c.toNat : Int).toNat.toUInt8) = c by simp]; exact bar_index c, h.2⟩
  have HC1 := hidM (Tryz.strings_Contains s ⟨#[46, 46]⟩ m w (by omega) hg.cell)
  have HC2 := hidM (Tryz.strings_Contains s ⟨#[64, 123]⟩ m w (by omega) hg.cell)
  have HC3 := hidM (Tryz.strings_HasSuffix s ⟨#[46]⟩ w (by omega))
  have HR : Hid (plainN s.data.toList = (noBar s.data.toList && (!Lib.contains s.data.toList [46, 46] && !Lib.contains s.data.toList [64, 123] && !Lib.hasSuffix s.data.toList [46]))) := rfl
  rw [show (⟨#[46, 46]⟩ : ByteArray).data.toList = [46, 46] from rfl] at HC1
  rw [show (⟨#[64, 123]⟩ : ByteArray).data.toList = [64, 123] from rfl] at HC2
  rw [show (⟨#[46]⟩ : ByteArray).data.toList = [46] from rfl] at HC3
  generalize Lib.contains s.data.toList [46, 46] = A at *
  generalize Lib.contains s.data.toList [64, 123] = B at *
  generalize Lib.hasSuffix s.data.toList [46] = C at *
  clear hg
  go_enter Tryz.func37, Tryz.ntmps37
  go_wp2_with fail
  go_loopw [3, 6] (fun _ i wr => ∃ (k : Nat), k ≤ s.size ∧ i = .int .i64 k ∧ noBar (s.data.toList.take k) = true ∧ wr = w) (fun _ i _ => s.size - (intOf i).toNat)
  case atStart => exact ⟨0, Nat.zero_le _, rfl, rfl, rfl⟩
  case round =>
    obtain ⟨k, hk, rfl, hd, rfl⟩ := hrel
    have HD := hidM hd
    clear hd
    by_cases hlt : k < s.size
    · have kk : (k : Int) < (s.size : Int) := by omega
      by_cases hc : barL.contains s[k] = true
      · have HF := hidM (noBar_no s k hlt hc)
        go_wp2_with fail
        refine (HI.out s[k]).mono ?_
        rintro _ w1 ⟨n, rfl, hn, rfl⟩
        rw [hc] at hn
        go_wp2_with fail
        go_ret
        exact ⟨by rw [HR.out, HF.out]; rfl, rfl⟩
      · have HN : Hid (noBar (s.data.toList.take (k + 1)) = true) := by
          unfold Hid
          rw [take_one s k hlt, noBar_app, HD.out]
          unfold noBar
          rw [List.all_cons, Bool.eq_false_iff.2 hc]; rfl
        have hc := Bool.eq_false_iff.2 hc
        go_wp2_with fail
        refine (HI.out s[k]).mono ?_
        rintro _ w1 ⟨n, rfl, hn, rfl⟩
        rw [hc] at hn
        go_wp2_with fail
        go_roundw
        case rel => exact ⟨k + 1, by omega, by go_num, HN.out, trivial⟩
        case measure => (show s.size - ((k : Int) + 1).toNat < s.size - ((k : Int)).toNat); omega
    · obtain rfl : k = s.size := by omega
      have HF : Hid (plainN s.data.toList = (!A && !B && !C)) := by
        have := HD.out
        rw [List.take_of_length_le (by rw [sl_len]; omega)] at this
        unfold Hid
        rw [HR.out, this]; rfl
      clear HR HD HI
      cases A with
      | true =>
        go_wp2_with fail
        refine HC1.out.mono ?_
        rintro _ w1 ⟨rfl, rfl⟩
        go_wp2_with fail
        go_ret
        exact ⟨by rw [HF.out]; rfl, rfl⟩
      | false =>
      cases B with
      | true =>
        go_wp2_with fail
        refine HC1.out.mono ?_
        rintro _ w1 ⟨rfl, rfl⟩
        go_wp2_with fail
        refine HC2.out.mono ?_
        rintro _ w1 ⟨rfl, rfl⟩
        go_wp2_with fail
        go_ret
        exact ⟨by rw [HF.out]; rfl, rfl⟩
      | false =>
        go_wp2_with fail
        refine HC1.out.mono ?_
        rintro _ w1 ⟨rfl, rfl⟩
        go_wp2_with fail
        refine HC2.out.mono ?_
        rintro _ w1 ⟨rfl, rfl⟩
        go_wp2_with fail
        refine HC3.out.mono ?_
        rintro _ w1 ⟨rfl, rfl⟩
        go_wp2_with fail
        go_ret
        exact ⟨by rw [HF.out]; rfl, rfl⟩
def wholeB (ps : List ByteArray) : Bool := ps.all fun p => partN p.data.toList
theorem wholeB_parts (s : ByteArray) : wholeB (partsB s) = wholeN s.data.toList := by
  unfold wholeB wholeN
  rw [← parts_eq, List.all_map]; rfl
set_option maxHeartbeats 1600000 in
theorem nwhole_any (s : ByteArray) (w : World) (hs : s.size ≤ 200) :
    Calls Tryz.prog 38 #[.string s] w fun e w' => e = .returned (.bool (wholeN s.data.toList)) ∧ Below w.heap.size w w' := by
  have HSP := hidM (split_any s w hs)
  have hpl : (partsB s).length ≤ 201 := by
    have := Lib.splitB_length_le slash 0 (Lib.countB s slash) s
    have h2 := Lib.countB_le slash (by decide) s.size s (Nat.le_refl _)
    unfold partsB; omega
  have HSZ : Hid (∀ p ∈ partsB s, p.size ≤ 200) := fun p hp => by
    have h1 : p.data.toList ∈ partsL s.data.toList := by rw [← parts_eq]; exact List.mem_map_of_mem hp
    have h2 := parts_le _ _ h1
    rw [sl_len, sl_len] at h2
    omega
  rw [← wholeB_parts]
  generalize partsB s = ps at *
  unfold slash at *
  go_enter Tryz.func38, Tryz.ntmps38
  go_wp2_with fail
  refine HSP.out.mono ?_
  rintro _ w1 ⟨rfl, rfl⟩
  have HC : Hid (∀ j (h : j < ps.length), (w.alloc (.cells (ps.map Value.string).toArray 9)).cell? ⟨w.heap.size, j, none⟩ = some (.string ps[j])) := by
    intro j h
    rw [World.cell?_alloc_mark w _ 9 (0, 0) j]
    simp [h]
  have HB : Hid (Below w.heap.size w (w.alloc (.cells (ps.map Value.string).toArray 9))) := (Below.refl _ _).alloc (Nat.le_refl _) _
  generalize w.alloc (.cells (ps.map Value.string).toArray 9) = W at *
  go_wp2_with fail
  go_loopw [4, 8] (fun _ i wr => ∃ (k : Nat), k ≤ ps.length ∧ i = .int .i64 k ∧ wholeB (ps.take k) = true ∧ wr = W) (fun _ i _ => ps.length - (intOf i).toNat)
  case atStart => exact ⟨0, Nat.zero_le _, rfl, rfl, rfl⟩
  case round =>
    obtain ⟨k, hk, rfl, hd, rfl⟩ := hrel
    have HD := hidM hd
    clear hd
    by_cases hlt : k < ps.length
    · have kk : (k : Int) < (ps.length : Int) := by omega
      have hc := HC.out k hlt
      have hz := HSZ.out _ (List.getElem_mem hlt)
      have HP := hidM (Tryz.strings_HasPrefix ps[k] ⟨#[46]⟩ wr)
      have HS := hidM (Tryz.strings_HasSuffix ps[k] ⟨#[46, 108, 111, 99, 107]⟩ wr (by omega))
      have HE : Hid (partN ps[k].data.toList = (!Lib.hasPrefix ps[k].data.toList [46] && !Lib.hasSuffix ps[k].data.toList [46, 108, 111, 99, 107])) := rfl
      have HN : Hid (partN ps[k].data.toList = true → wholeB (ps.take (k + 1)) = true) := fun hp => by
        rw [List.take_succ_eq_append_getElem hlt]
        unfold wholeB
        rw [List.all_append, show (ps.take k).all (fun p => partN p.data.toList) = true from HD.out]
        simp [hp]
      have HF : Hid (partN ps[k].data.toList = false → wholeB ps = false) := fun hp => by
        refine Bool.eq_false_iff.2 fun ht => ?_
        unfold wholeB at ht
        rw [List.all_eq_true] at ht
        rw [ht _ (List.getElem_mem hlt)] at hp
        cases hp
      rw [show (⟨#[46]⟩ : ByteArray).data.toList = [46] from rfl] at HP
      rw [show (⟨#[46, 108, 111, 99, 107]⟩ : ByteArray).data.toList = [46, 108, 111, 99, 107] from rfl] at HS
      generalize Lib.hasPrefix ps[k].data.toList [46] = A at *
      generalize Lib.hasSuffix ps[k].data.toList [46, 108, 111, 99, 107] = B at *
      generalize ps[k] = X at *
      cases A with
      | true =>
        have HF2 := hidM (HF.out (by rw [HE.out]; rfl))
        go_wp2_with fail
        refine HP.out.mono ?_
        rintro _ w1 ⟨rfl, rfl⟩
        go_wp2_with fail
        go_ret
        exact ⟨by rw [HF2.out]; rfl, HB.out⟩
      | false =>
      cases B with
      | true =>
        have HF2 := hidM (HF.out (by rw [HE.out]; rfl))
        go_wp2_with fail
        refine HP.out.mono ?_
        rintro _ w1 ⟨rfl, rfl⟩
        go_wp2_with fail
        refine HS.out.mono ?_
        rintro _ w1 ⟨rfl, rfl⟩
        go_wp2_with fail
        go_ret
        exact ⟨by rw [HF2.out]; rfl, HB.out⟩
      | false =>
        have HN2 := hidM (HN.out (by rw [HE.out]; rfl))
        go_wp2_with fail
        refine HP.out.mono ?_
        rintro _ w1 ⟨rfl, rfl⟩
        go_wp2_with fail
        refine HS.out.mono ?_
        rintro _ w1 ⟨rfl, rfl⟩
        go_wp2_with fail
        go_roundw
        case rel => exact ⟨k + 1, by omega, by go_num, HN2.out, trivial⟩
        case measure => (show ps.length - ((k : Int) + 1).toNat < ps.length - ((k : Int)).toNat); omega
    · obtain rfl : k = ps.length := by omega
      have HF : Hid (wholeB ps = true) := by
        have := HD.out
        rwa [List.take_of_length_le (Nat.le_refl _)] at this
      go_wp2_with fail
      go_ret
      exact ⟨by rw [HF.out]; rfl, HB.out⟩
set_option maxHeartbeats 1600000 in
theorem name_any (s : ByteArray) (m : Int) (w : World) (hg : GOk m w) :
    Calls Tryz.prog 11 #[.string s] w fun e w' => e = .returned (.bool (nameL s.data.toList)) ∧ Below w.heap.size w w' := by
  have HG := hidM hg
  clear hg
  by_cases h1 : s.toList = [72, 69, 65, 68]
  · have e1 : (s.toList == [72, 69, 65, 68]) = true := by rw [h1]; rfl
    have HR : Hid (nameL s.data.toList = true) := by
      unfold Hid nameL
      rw [← ByteArray.toList_eq, h1]; rfl
    clear h1
    go_enter Tryz.func11, Tryz.ntmps11
    go_wp2_with fail
    go_ret
    exact ⟨by rw [HR.out]; rfl, Below.refl _ _⟩
  have e1 : (s.toList == [72, 69, 65, 68]) = false := beq_false_of_ne h1
  have HR : Hid (nameL s.data.toList = (Lib.hasPrefix s.data.toList folderL && cleanL s.data.toList && plainN s.data.toList && wholeN s.data.toList)) := by
    unfold Hid nameL restN
    rw [← ByteArray.toList_eq, decide_eq_false (show ¬ s.toList = headL from h1)]; rfl
  clear h1
  have HP := hidM (Tryz.strings_HasPrefix s ⟨#[114, 101, 102, 115, 47]⟩ w)
  rw [show (⟨#[114, 101, 102, 115, 47]⟩ : ByteArray).data.toList = folderL from rfl] at HP
  have HC := hidM (clean_any s w)
  rw [clean_eq] at HC
  have HS : Hid (cleanL s.data.toList = true → s.size ≤ 200) := fun h => by
    have := (cleanL_iff.1 h).1
    rwa [sl_len] at this
  have HPL : Hid (s.size ≤ 200 → ∀ W, Below w.heap.size w W → Calls Tryz.prog 37 #[.string s] W fun e w' => e = .returned (.bool (plainN s.data.toList)) ∧ w' = W) := fun h W hb => nplain_any s m W h (HG.out.below hb)
  have HW := hidM (fun (h : s.size ≤ 200) W => nwhole_any s W h)
  generalize Lib.hasPrefix s.data.toList folderL = A at *
  generalize cleanL s.data.toList = B at *
  generalize plainN s.data.toList = C at *
  generalize wholeN s.data.toList = D at *
  cases A with
  | false =>
    go_enter Tryz.func11, Tryz.ntmps11
    go_wp2_with fail
    refine HP.out.mono ?_
    rintro _ w1 ⟨rfl, rfl⟩
    go_wp2_with fail
    go_ret
    exact ⟨by rw [HR.out]; rfl, Below.refl _ _⟩
  | true =>
  cases B with
  | false =>
    go_enter Tryz.func11, Tryz.ntmps11
    go_wp2_with fail
    refine HP.out.mono ?_
    rintro _ w1 ⟨rfl, rfl⟩
    go_wp2_with fail
    refine HC.out.mono ?_
    rintro _ w2 ⟨rfl, hb2⟩
    go_wp2_with fail
    go_ret
    exact ⟨by rw [HR.out]; rfl, hb2⟩
  | true =>
  have hs := HS.out rfl
  have HPL2 := hidM (HPL.out hs)
  have HW2 := hidM (HW.out hs)
  clear HPL HW HS
  cases C with
  | false =>
    go_enter Tryz.func11, Tryz.ntmps11
    go_wp2_with fail
    refine HP.out.mono ?_
    rintro _ w1 ⟨rfl, rfl⟩
    go_wp2_with fail
    refine HC.out.mono ?_
    rintro _ w2 ⟨rfl, hb2⟩
    go_wp2_with fail
    refine (HPL2.out _ hb2).mono ?_
    rintro _ w3 ⟨rfl, rfl⟩
    go_wp2_with fail
    go_ret
    exact ⟨by rw [HR.out]; rfl, hb2⟩
  | true =>
    go_enter Tryz.func11, Tryz.ntmps11
    go_wp2_with fail
    refine HP.out.mono ?_
    rintro _ w1 ⟨rfl, rfl⟩
    go_wp2_with fail
    refine HC.out.mono ?_
    rintro _ w2 ⟨rfl, hb2⟩
    go_wp2_with fail
    refine (HPL2.out _ hb2).mono ?_
    rintro _ w3 ⟨rfl, rfl⟩
    go_wp2_with fail
    refine (HW2.out _).mono ?_
    rintro _ w4 ⟨rfl, hb4⟩
    have HB := hidM (hb2.trans (hb4.mono hb2.size))
    go_wp2_with fail
    go_ret
    exact ⟨by rw [HR.out]; rfl, HB.out⟩
end Go.Proofs.YtjoomlpocpdonaaGreatDoor
namespace Go.Proofs.YtjoomlpocpdonaaGreatDoor
open Go.RowKit

theorem extract_list (s : ByteArray) (a b : Nat) : (s.extract a b).toList = (s.data.toList.drop a).take (b - a) := by
  rw [ByteArray.toList_eq, Lib.extract_data]
theorem contains_at (s t : ByteArray) (k : Nat) : ((s.extract k (k + t.size)).toList == t.toList) = Lib.occAt s.data.toList t.data.toList k := by
  rw [extract_list, ByteArray.toList_eq, Nat.add_sub_cancel_left]
  unfold Lib.occAt
  rw [Bool.eq_iff_iff, beq_iff_eq, List.isPrefixOf_iff_prefix, List.prefix_iff_eq_take, sl_len]
  exact ⟨fun h => h.symm, fun h => h.symm⟩
theorem contains_yes (s t : List UInt8) (k : Nat) (hk : k ≤ s.length) (h : Lib.occAt s t k = true) : Lib.contains s t = true := by
  unfold Lib.contains
  rw [decide_eq_true_eq]
  rcases Lib.index_spec s t with ⟨_, h2⟩ | ⟨i, h1, _⟩
  · rw [h2 k hk] at h; cases h
  · omega
theorem occ_room (s t : List UInt8) (k : Nat) (hk : k ≤ s.length) (h : Lib.occAt s t k = true) : k + t.length ≤ s.length := by
  unfold Lib.occAt at h
  have := (List.isPrefixOf_iff_prefix.1 h).length_le
  rw [List.length_drop] at this
  omega
theorem contains_not (s t : List UInt8) (h : ∀ k, k + t.length ≤ s.length → Lib.occAt s t k = false) : Lib.contains s t = false := by
  unfold Lib.contains
  rw [decide_eq_false_iff_not]
  rcases Lib.index_spec s t with ⟨h1, _⟩ | ⟨i, _, h2, h3, _⟩
  · omega
  · rw [h i (occ_room s t i h2 h3)] at h3; cases h3
set_option maxHeartbeats 1600000 in
theorem has_any (s t : ByteArray) (w : World) (hs : s.size ≤ 1000000) (ht : t.size ≤ 1000000) :
    Calls Tryz.prog 40 #[.string s, .string t] w fun e w' => e = .returned (.bool (Lib.contains s.data.toList t.data.toList)) ∧ w' = w := by
  have HA := hidM (contains_at s t)
  have HY := hidM (contains_yes s.data.toList t.data.toList)
  have HX := hidM (contains_not s.data.toList t.data.toList)
  rw [sl_len, sl_len] at HX
  rw [sl_len] at HY
  generalize Lib.contains s.data.toList t.data.toList = A at *
  generalize Lib.occAt s.data.toList t.data.toList = O at *
  go_enter Tryz.func40, Tryz.ntmps40
  go_wp2_with fail
  go_loopw [4, 5] (fun b i wr => ∃ (k : Nat), k ≤ s.size + 1 ∧ i = .int .i64 k ∧ (∀ j, j < k → O j = false) ∧ wr = w) (fun _ i _ => s.size + 1 - (intOf i).toNat)
  case atStart => exact ⟨0, Nat.zero_le _, rfl, fun j h => by omega, rfl⟩
  case round =>
    obtain ⟨k, hk, rfl, hd, rfl⟩ := hrel
    have HD := hidM hd
    clear hd
    by_cases hlt : k + t.size ≤ s.size
    · have ha := HA.out k
      have hy := HY.out k (by omega)
      have HN : Hid (O k = false → ∀ j, j < k + 1 → O j = false) := fun h j hj => by
        by_cases h5 : j < k
        · exact HD.out j h5
        · obtain rfl : j = k := by omega
          exact h
      generalize O k = B at *
      obtain ⟨k1, hk1⟩ : ∃ k1, k1 = k + t.size := ⟨_, rfl⟩
      rw [← hk1] at ha
      have j1 : (k : Int) + (t.size : Int) = (k1 : Int) := by omega
      have j2 : (k1 : Int) ≤ (s.size : Int) := by omega
      have j3 : (k : Int) ≤ (k1 : Int) := by omega
      clear hk1 hlt
      cases B with
      | true =>
        have HT := hidM (hy rfl)
        clear hy HN
        go_wp2_with fail
        go_ret
        exact ⟨by rw [HT.out]; rfl, rfl⟩
      | false =>
        have HT := hidM (HN.out rfl)
        clear hy HN
        go_wp2_with fail
        go_roundw
        case rel => exact ⟨k + 1, by omega, by go_num, HT.out, trivial⟩
        case measure => (show s.size + 1 - ((k : Int) + 1).toNat < s.size + 1 - ((k : Int)).toNat); omega
    · have HF := hidM (HX.out fun j hj => HD.out j (by omega))
      have j2 : ¬ (k : Int) + (t.size : Int) ≤ (s.size : Int) := by omega
      go_wp2_with fail
      go_ret
      exact ⟨by rw [HF.out]; rfl, rfl⟩
set_option maxHeartbeats 1600000 in
theorem ends_any (s t : ByteArray) (w : World) (hs : s.size ≤ 4611686018427387904) :
    Calls Tryz.prog 41 #[.string s, .string t] w fun e w' => e = .returned (.bool (Lib.hasSuffix s.data.toList t.data.toList)) ∧ w' = w := by
  have HR := hidM (Lib.hasSuffix_raw s t)
  generalize Lib.hasSuffix s.data.toList t.data.toList = A at *
  by_cases h : t.size ≤ s.size
  · have HR2 : Hid (((s.extract (s.size - t.size) s.size).toList == t.toList) = A) := by
      have := HR.out
      rwa [show decide (t.size ≤ s.size) = true by simpa using h, Bool.true_and] at this
    have j1 : (s.size : Int) - (t.size : Int) = ((s.size - t.size : Nat) : Int) := by omega
    have j2 : ((s.size - t.size : Nat) : Int) ≤ (s.size : Int) := by omega
    have j4 : wrap64 ((s.size - t.size : Nat) : Int) = ((s.size - t.size : Nat) : Int) := by unfold wrap64; omega
    have g2 : (t.size : Int) ≤ (s.size : Int) := by omega
    clear HR
    go_enter Tryz.func41, Tryz.ntmps41
    go_wp2_with fail
    go_ret
    exact ⟨by rw [← HR2.out]; rfl, rfl⟩
  · have g : decide ((t.size : Int) ≤ (s.size : Int)) = false := by simp; omega
    have HR2 : Hid (A = false) := by
      have := HR.out
      rw [show decide (t.size ≤ s.size) = false by simpa using h, Bool.false_and] at this
      exact this.symm
    go_enter Tryz.func41, Tryz.ntmps41
    go_wp2_with fail
    go_ret
    exact ⟨by rw [HR2.out]; rfl, rfl⟩
theorem begins_any (s p : ByteArray) (w : World) : Calls Tryz.prog 35 #[.string s, .string p] w fun e w' => e = .returned (.bool (Lib.hasPrefix s.data.toList p.data.toList)) ∧ w' = w := by
  have h := rbegins_any (s, s) p w
  refine h.mono fun e w' ⟨he, hw⟩ => ⟨?_, hw⟩
  rw [he]; rfl
theorem contains_one (c : UInt8) : ∀ l, Lib.contains l [c] = l.contains c := by
  intro l
  unfold Lib.contains
  rw [index_one]
  cases h : l.contains c with
  | true => simp
  | false => simp
theorem noBar_all (l : List UInt8) : noBar l = barL.all fun c => !l.contains c := by
  unfold noBar
  rw [Bool.eq_iff_iff, List.all_eq_true, List.all_eq_true]
  constructor
  · intro h c hc
    have := fun hm => h c hm
    cases hq : l.contains c with
    | false => rfl
    | true =>
      have hm : c ∈ l := by simpa using hq
      have := this hm
      rw [show barL.contains c = true by simpa using hc] at this
      cases this
  · intro h x hx
    cases hq : barL.contains x with
    | false => rfl
    | true =>
      have hm : x ∈ barL := by simpa using hq
      have := h x hm
      rw [show l.contains x = true by simpa using hx] at this
      cases this
def barS : List ByteArray := [⟨#[32]⟩, ⟨#[126]⟩, ⟨#[94]⟩, ⟨#[58]⟩, ⟨#[63]⟩, ⟨#[42]⟩, ⟨#[91]⟩, ⟨#[92]⟩]
def barsB (bs : List ByteArray) (l : List UInt8) : Bool := bs.all fun b => !Lib.contains l b.data.toList
theorem noBar_bars (l : List UInt8) : barsB barS l = noBar l := by
  rw [noBar_all]
  unfold barsB barS barL
  simp only [List.all_cons, List.all_nil]
  simp only [contains_one]
theorem name_split (l : List UInt8) (h : l ≠ headL) : nameL l = (Lib.hasPrefix l folderL && cleanL l && !Lib.contains l [46, 46] && !Lib.contains l [64, 123] && !Lib.hasSuffix l [46] && noBar l && wholeN l) := by
  unfold nameL restN plainN
  rw [decide_eq_false h, Bool.false_or]
  generalize noBar l = a
  generalize wholeN l = b
  cases a <;> cases b <;> simp [Bool.and_assoc]
theorem wholeB_rp (s : ByteArray) : wholeB (rpB s s.size) = wholeN s.data.toList := by
  rw [rpB_all]
  unfold wholeB wholeN
  rw [List.all_map]
  congr 1
set_option maxHeartbeats 3200000 in
theorem rname_any (s : ByteArray) (w : World) :
    Calls Tryz.prog 12 #[.string s] w fun e w' => e = .returned (.bool (nameL s.data.toList)) ∧ Below w.heap.size w w' := by
  by_cases h1 : s.toList = [72, 69, 65, 68]
  · have e1 : (s.toList == [72, 69, 65, 68]) = true := by rw [h1]; rfl
    have HR : Hid (nameL s.data.toList = true) := by
      unfold Hid nameL
      rw [← ByteArray.toList_eq, h1]; rfl
    clear h1
    go_enter Tryz.func12, Tryz.ntmps12
    go_wp2_with fail
    go_ret
    exact ⟨by rw [HR.out]; rfl, Below.refl _ _⟩
  have e1 : (s.toList == [72, 69, 65, 68]) = false := beq_false_of_ne h1
  have HR : Hid (nameL s.data.toList = (Lib.hasPrefix s.data.toList folderL && cleanL s.data.toList && !Lib.contains s.data.toList [46, 46] && !Lib.contains s.data.toList [64, 123] && !Lib.hasSuffix s.data.toList [46] && noBar s.data.toList && wholeN s.data.toList)) :=
    name_split _ (by rw [← ByteArray.toList_eq]; exact h1)
  clear h1
  have HP := hidM (begins_any s ⟨#[114, 101, 102, 115, 47]⟩ w)
  rw [show (⟨#[114, 101, 102, 115, 47]⟩ : ByteArray).data.toList = folderL from rfl] at HP
  have HC := hidM (rclean_any s w)
  rw [clean_eq] at HC
  have HS : Hid (cleanL s.data.toList = true → s.size ≤ 200) := fun h => by
    have := (cleanL_iff.1 h).1
    rwa [sl_len] at this
  have HH : Hid (s.size ≤ 200 → ∀ (t : ByteArray), t.size ≤ 1000000 → ∀ W, Calls Tryz.prog 40 #[.string s, .string t] W fun e w' => e = .returned (.bool (Lib.contains s.data.toList t.data.toList)) ∧ w' = W) := fun h t ht W => has_any s t W (by omega) ht
  have HE : Hid (s.size ≤ 200 → ∀ W, Calls Tryz.prog 41 #[.string s, .string ⟨#[46]⟩] W fun e w' => e = .returned (.bool (Lib.hasSuffix s.data.toList (⟨#[46]⟩ : ByteArray).data.toList)) ∧ w' = W) := fun h W => ends_any s ⟨#[46]⟩ W (by omega)
  rw [show (⟨#[46]⟩ : ByteArray).data.toList = [46] from rfl] at HE
  have HPT : Hid (s.size ≤ 200 → ∀ W, Calls Tryz.prog 42 #[.string s] W fun e w' => SlRet w' W.heap.size (rpB s s.size) e ∧ Below W.heap.size W w') := fun h W => rparts_any s W (by omega)
  have HWB := hidM (wholeB_rp s)
  have HRL := hidM (rpB_len s s.size)
  have HRZ := hidM (rpB_size s s.size)
  have HBA := hidM (noBar_bars s.data.toList)
  generalize Lib.hasPrefix s.data.toList folderL = A at *
  generalize cleanL s.data.toList = B at *
  generalize Lib.hasSuffix s.data.toList [46] = E at *
  generalize wholeN s.data.toList = G at *
  generalize noBar s.data.toList = F at *
  generalize rpB s s.size = ps at *
  cases A with
  | false =>
    go_enter Tryz.func12, Tryz.ntmps12
    go_wp2_with fail
    refine HP.out.mono ?_
    rintro _ w1 ⟨rfl, rfl⟩
    go_wp2_with fail
    go_ret
    exact ⟨by rw [HR.out]; rfl, Below.refl _ _⟩
  | true =>
  cases B with
  | false =>
    go_enter Tryz.func12, Tryz.ntmps12
    go_wp2_with fail
    refine HP.out.mono ?_
    rintro _ w1 ⟨rfl, rfl⟩
    go_wp2_with fail
    refine HC.out.mono ?_
    rintro _ w2 ⟨rfl, hb2⟩
    go_wp2_with fail
    go_ret
    exact ⟨by rw [HR.out]; rfl, hb2⟩
  | true =>
  have hs := HS.out rfl
  have HH2 := hidM (HH.out hs)
  have HPT2 := hidM (HPT.out hs)
  have hln := HRL.out.1
  have HD1 := hidM (HH2.out ⟨#[46, 46]⟩ (by decide))
  have HD2 := hidM (HH2.out ⟨#[64, 123]⟩ (by decide))
  rw [show (⟨#[46, 46]⟩ : ByteArray).data.toList = [46, 46] from rfl] at HD1
  rw [show (⟨#[64, 123]⟩ : ByteArray).data.toList = [64, 123] from rfl] at HD2
  generalize Lib.contains s.data.toList [46, 46] = C at *
  generalize Lib.contains s.data.toList [64, 123] = D at *
  clear HPT HH HS HRL
  cases C with
  | true =>
    go_enter Tryz.func12, Tryz.ntmps12
    go_wp2_with fail
    refine HP.out.mono ?_
    rintro _ w1 ⟨rfl, rfl⟩
    go_wp2_with fail
    refine HC.out.mono ?_
    rintro _ w2 ⟨rfl, hb2⟩
    go_wp2_with fail
    refine (HD1.out _).mono ?_
    rintro _ w3 ⟨rfl, rfl⟩
    go_wp2_with fail
    go_ret
    exact ⟨by rw [HR.out]; rfl, hb2⟩
  | false =>
  cases D with
  | true =>
    go_enter Tryz.func12, Tryz.ntmps12
    go_wp2_with fail
    refine HP.out.mono ?_
    rintro _ w1 ⟨rfl, rfl⟩
    go_wp2_with fail
    refine HC.out.mono ?_
    rintro _ w2 ⟨rfl, hb2⟩
    go_wp2_with fail
    refine (HD1.out _).mono ?_
    rintro _ w3 ⟨rfl, rfl⟩
    go_wp2_with fail
    refine (HD2.out _).mono ?_
    rintro _ w3 ⟨rfl, rfl⟩
    go_wp2_with fail
    go_ret
    exact ⟨by rw [HR.out]; rfl, hb2⟩
  | false =>
  cases E with
  | true =>
    go_enter Tryz.func12, Tryz.ntmps12
    go_wp2_with fail
    refine HP.out.mono ?_
    rintro _ w1 ⟨rfl, rfl⟩
    go_wp2_with fail
    refine HC.out.mono ?_
    rintro _ w2 ⟨rfl, hb2⟩
    go_wp2_with fail
    refine (HD1.out _).mono ?_
    rintro _ w3 ⟨rfl, rfl⟩
    go_wp2_with fail
    refine (HD2.out _).mono ?_
    rintro _ w3 ⟨rfl, rfl⟩
    go_wp2_with fail
    refine (HE.out hs _).mono ?_
    rintro _ w3 ⟨rfl, rfl⟩
    go_wp2_with fail
    go_ret
    exact ⟨by rw [HR.out]; rfl, hb2⟩
  | false =>
  have HR2 : Hid (nameL s.data.toList = (F && G)) := by
    unfold Hid
    rw [HR.out]; simp
  clear HR
  go_enter Tryz.func12, Tryz.ntmps12
  go_wp2_with fail
  refine HP.out.mono ?_
  rintro _ w1 ⟨rfl, rfl⟩
  go_wp2_with fail
  refine HC.out.mono ?_
  rintro _ w2 ⟨rfl, hb2⟩
  go_wp2_with fail
  refine (HD1.out _).mono ?_
  rintro _ w3 ⟨rfl, rfl⟩
  go_wp2_with fail
  refine (HD2.out _).mono ?_
  rintro _ w3 ⟨rfl, rfl⟩
  go_wp2_with fail
  refine (HE.out hs _).mono ?_
  rintro _ w3 ⟨rfl, rfl⟩
  clear HP HC HD1 HD2 HE
  have HB2 := hidM (hb2.alloc hb2.size (.cells (barS.map Value.string).toArray 9))
  have HBC : Hid (∀ j (h : j < barS.length), (w3.alloc (.cells (barS.map Value.string).toArray 9)).cell? ⟨w3.heap.size, j, none⟩ = some (.string (barS[j]'h))) := by
    intro j h
    rw [World.cell?_alloc_mark w3 _ 9 (0, 0) j]
    simp only [List.getElem?_toArray, List.getElem?_map, List.getElem?_eq_getElem h, Option.map_some]
  have HSM : Hid (∀ j (h : j < barS.length), (barS[j]'h).size ≤ 1000000) := by
    intro j h
    have : ∀ b ∈ barS, b.size ≤ 1000000 := by decide
    exact this _ (List.getElem_mem _)
  have hgl : w3.heap.size < (w3.alloc (.cells (barS.map Value.string).toArray 9)).heap.size := by simp
  rw [show (barS.map Value.string).toArray = #[.string ⟨#[32]⟩, .string ⟨#[126]⟩, .string ⟨#[94]⟩, .string ⟨#[58]⟩, .string ⟨#[63]⟩, .string ⟨#[42]⟩, .string ⟨#[91]⟩, .string ⟨#[92]⟩] from rfl] at HB2 HBC hgl
  go_wp2_with fail
  generalize w3.alloc (.cells #[.string ⟨#[32]⟩, .string ⟨#[126]⟩, .string ⟨#[94]⟩, .string ⟨#[58]⟩, .string ⟨#[63]⟩, .string ⟨#[42]⟩, .string ⟨#[91]⟩, .string ⟨#[92]⟩] 9) = W at *
  generalize w3.heap.size = g at *
  go_loopw [4, 31] (fun _ i wr => ∃ (k : Nat), k ≤ 8 ∧ i = .int .i64 k ∧ barsB (barS.take k) s.data.toList = true ∧ wr = W) (fun _ i _ => 8 - (intOf i).toNat)
  case atStart => exact ⟨0, Nat.zero_le _, rfl, rfl, rfl⟩
  case round =>
    obtain ⟨k, hk, rfl, hd, rfl⟩ := hrel
    have HD := hidM hd
    clear hd
    by_cases hlt : k < 8
    · have hlt2 : k < barS.length := hlt
      have hc := HBC.out k hlt2
      have HHk := hidM (HH2.out barS[k] (HSM.out k hlt2) wr)
      have HN : Hid (Lib.contains s.data.toList barS[k].data.toList = false → barsB (barS.take (k + 1)) s.data.toList = true) := fun hp => by
        rw [List.take_succ_eq_append_getElem hlt2]
        unfold barsB
        rw [List.all_append, show (barS.take k).all (fun b => !Lib.contains s.data.toList b.data.toList) = true from HD.out]
        simp [hp]
      have HF : Hid (Lib.contains s.data.toList barS[k].data.toList = true → nameL s.data.toList = false) := fun hp => by
        rw [HR2.out, ← HBA.out]
        rw [show barsB barS s.data.toList = false from Bool.eq_false_iff.2 fun ht => by
          unfold barsB at ht
          rw [List.all_eq_true] at ht
          have := ht _ (List.getElem_mem hlt2)
          rw [hp] at this
          cases this]
        rfl
      have kk : (k : Int) < 8 := by omega
      generalize Lib.contains s.data.toList barS[k].data.toList = Y at *
      generalize barS[k] = X at *
      clear hlt2
      cases Y with
      | true =>
        have HF2 := hidM (HF.out rfl)
        clear HF HN
        go_wp2_with fail
        refine HHk.out.mono ?_
        rintro _ w4 ⟨rfl, rfl⟩
        go_wp2_with fail
        go_ret
        exact ⟨by rw [HF2.out]; rfl, HB2.out⟩
      | false =>
        have HN2 := hidM (HN.out rfl)
        clear HF HN
        go_wp2_with fail
        refine HHk.out.mono ?_
        rintro _ w4 ⟨rfl, rfl⟩
        go_wp2_with fail
        go_roundw
        case rel => exact ⟨k + 1, by omega, by go_num, HN2.out, trivial⟩
        case measure => (show 8 - ((k : Int) + 1).toNat < 8 - ((k : Int)).toNat); omega
    · obtain rfl : k = 8 := by omega
      have HF : Hid (nameL s.data.toList = G) := by
        have := HD.out
        rw [show barS.take 8 = barS from rfl, HBA.out] at this
        unfold Hid
        rw [HR2.out, this]; rfl
      clear HR2 HD HBC HBA HSM HH2
      go_wp2_with fail
      refine (HPT2.out _).mono ?_
      rintro _ w4 ⟨⟨v, hv, rfl⟩, hb4⟩
      have HB4 := hidM (HB2.out.trans (hb4.mono HB2.out.size))
      obtain ⟨a, cp, hvv, hst⟩ := hv.strs
      subst hvv
      have HST : Hid (∀ j (h : j < ps.length), ∃ g, a = some ⟨g, 0, none⟩ ∧ w4.cell? ⟨g, j, none⟩ = some (.string ps[j])) := fun j h => by
        obtain ⟨g, h1, _, h3⟩ := hst (fun hh => by rw [hh] at h; simp at h)
        exact ⟨g, h1, h3 j h⟩
      clear hv hb4 hst HPT2 HB2
      have hln2 : ps.length ≤ 201 := by omega
      go_wp2_with fail
      go_loopw [6, 42] (fun _ i wr => ∃ (k : Nat), k ≤ ps.length ∧ i = .int .i64 k ∧ wholeB (ps.take k) = true ∧ wr = w4) (fun _ i _ => ps.length - (intOf i).toNat)
      case atStart => exact ⟨0, Nat.zero_le _, rfl, rfl, rfl⟩
      case round =>
        obtain ⟨k, hk, rfl, hd, rfl⟩ := hrel
        have HD := hidM hd
        clear hd
        by_cases hlt : k < ps.length
        · have kk : (k : Int) < (ps.length : Int) := by omega
          obtain ⟨g2, rfl, y0⟩ := HST.out k hlt
          have hz := HRZ.out _ (List.getElem_mem hlt)
          have HP := hidM (begins_any ps[k] ⟨#[46]⟩ wr)
          have HS := hidM (ends_any ps[k] ⟨#[46, 108, 111, 99, 107]⟩ wr (by omega))
          have HE : Hid (partN ps[k].data.toList = (!Lib.hasPrefix ps[k].data.toList [46] && !Lib.hasSuffix ps[k].data.toList [46, 108, 111, 99, 107])) := rfl
          have HN : Hid (partN ps[k].data.toList = true → wholeB (ps.take (k + 1)) = true) := fun hp => by
            rw [List.take_succ_eq_append_getElem hlt]
            unfold wholeB
            rw [List.all_append, show (ps.take k).all (fun p => partN p.data.toList) = true from HD.out]
            simp [hp]
          have HFF : Hid (partN ps[k].data.toList = false → nameL s.data.toList = false) := fun hp => by
            rw [HF.out, ← HWB.out]
            refine Bool.eq_false_iff.2 fun ht => ?_
            unfold wholeB at ht
            rw [List.all_eq_true] at ht
            rw [ht _ (List.getElem_mem hlt)] at hp
            cases hp
          rw [show (⟨#[46]⟩ : ByteArray).data.toList = [46] from rfl] at HP
          rw [show (⟨#[46, 108, 111, 99, 107]⟩ : ByteArray).data.toList = [46, 108, 111, 99, 107] from rfl] at HS
          generalize Lib.hasPrefix ps[k].data.toList [46] = A at *
          generalize Lib.hasSuffix ps[k].data.toList [46, 108, 111, 99, 107] = B at *
          generalize ps[k] = X at *
          cases A with
          | true =>
            have HF2 := hidM (HFF.out (by rw [HE.out]; rfl))
            clear HN HFF HE
            go_wp2_with fail
            refine HP.out.mono ?_
            rintro _ w1 ⟨rfl, rfl⟩
            go_wp2_with fail
            go_ret
            exact ⟨by rw [HF2.out]; rfl, HB4.out⟩
          | false =>
          cases B with
          | true =>
            have HF2 := hidM (HFF.out (by rw [HE.out]; rfl))
            clear HN HFF HE
            go_wp2_with fail
            refine HP.out.mono ?_
            rintro _ w1 ⟨rfl, rfl⟩
            go_wp2_with fail
            refine HS.out.mono ?_
            rintro _ w1 ⟨rfl, rfl⟩
            go_wp2_with fail
            go_ret
            exact ⟨by rw [HF2.out]; rfl, HB4.out⟩
          | false =>
            have HN2 := hidM (HN.out (by rw [HE.out]; rfl))
            clear HN HFF HE
            go_wp2_with fail
            refine HP.out.mono ?_
            rintro _ w1 ⟨rfl, rfl⟩
            go_wp2_with fail
            refine HS.out.mono ?_
            rintro _ w1 ⟨rfl, rfl⟩
            go_wp2_with fail
            go_roundw
            case rel => exact ⟨k + 1, by omega, by go_num, HN2.out, trivial⟩
            case measure => (show ps.length - ((k : Int) + 1).toNat < ps.length - ((k : Int)).toNat); omega
        · obtain rfl : k = ps.length := by omega
          have HG : Hid (nameL s.data.toList = true) := by
            have := HD.out
            rw [List.take_of_length_le (Nat.le_refl _), HWB.out] at this
            unfold Hid
            rw [HF.out, this]
          go_wp2_with fail
          go_ret
          exact ⟨by rw [HG.out]; rfl, HB4.out⟩
end Go.Proofs.YtjoomlpocpdonaaGreatDoor
