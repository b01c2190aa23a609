/-
  Name, as the program has it.
  Name, as the document has it.
-/
import Derived.Test.YtjoomlpocpdonaaGreatDoorRfM
import Derived.Test.YtjoomlpocpdonaaGreatDoorShelR
namespace Go.Proofs.YtjoomlpocpdonaaGreatDoor
open Go.RowKit

structure GOk (m : Int) (w : World) : Prop where
  lt : 0 < w.heap.size
  cell : w.cell? ⟨0, 0, none⟩ = some (.int .i64 m)
theorem GOk.below {m : Int} {w w' : World} (h : GOk m w) (hb : Below w.heap.size w w') : GOk m w' :=
  ⟨Nat.lt_of_lt_of_le h.lt hb.size, (hb.cell (p := ⟨0, 0, none⟩) h.lt).trans h.cell⟩
theorem GOk.keep {m : Int} {w w' : World} {B : Nat} (h : GOk m w) (h0 : 0 < B) (hb : Below B w w') : GOk m w' :=
  ⟨Nat.lt_of_lt_of_le h.lt hb.size, (hb.cell (p := ⟨0, 0, none⟩) h0).trans h.cell⟩
theorem bar_index (c : UInt8) : decide (0 ≤ Lib.indexByte (⟨#[32, 126, 94, 58, 63, 42, 91, 92]⟩ : ByteArray).data.toList c) = barL.contains c := by
  rw [show (⟨#[32, 126, 94, 58, 63, 42, 91, 92]⟩ : ByteArray).data.toList = barL from rfl]
  exact (Lib.contains_iff_indexByte barL c).symm
theorem noBar_no (s : ByteArray) (k : Nat) (h : k < s.size) (hc : barL.contains s[k] = true) : noBar s.data.toList = false := by
  refine Bool.eq_false_iff.2 fun ht => ?_
  unfold noBar at ht
  rw [List.all_eq_true] at ht
  have := ht s[k] (by rw [show s[k] = s.data.toList[k]'(by rw [sl_len]; omega) from rfl]; exact List.getElem_mem _)
  rw [hc] at this
  cases this
set_option maxHeartbeats 1600000 in
theorem nplain_any (s : ByteArray) (m : Int) (w : World) (hs : s.size ≤ 200) (hg : GOk m w) :
    Calls Tryz.prog 37 #[.string s] w fun e w' => e = .returned (.bool (plainN s.data.toList)) ∧ w' = w := by
  have HI : Hid (∀ c : UInt8, Calls Tryz.prog 61 #[.string ⟨#[32, 126, 94, 58, 63, 42, 91, 92]⟩, .int .u8 (c.toNat : Int)] w fun e w' => ∃ n : Int, e = .returned (.int .i64 n) ∧ decide (0 ≤ n) = barL.contains c ∧ w' = w) := fun c =>
    (Tryz.strings_IndexByte ⟨#[32, 126, 94, 58, 63, 42, 91, 92]⟩ (c.toNat : Int) w).mono fun e w' h => ⟨_, h.1, by rw [show ((c.toNat : Int).toNat.toUInt8) = c by simp]; exact bar_index c, h.2⟩
  have HC1 := hidM (Tryz.strings_Contains s ⟨#[46, 46]⟩ m w (by omega) hg.cell)
  have HC2 := hidM (Tryz.strings_Contains s ⟨#[64, 123]⟩ m w (by omega) hg.cell)
  have HC3 := hidM (Tryz.strings_HasSuffix s ⟨#[46]⟩ w (by omega))
  have HR : Hid (plainN s.data.toList = (noBar s.data.toList && (!Lib.contains s.data.toList [46, 46] && !Lib.contains s.data.toList [64, 123] && !Lib.hasSuffix s.data.toList [46]))) := rfl
  rw [show (⟨#[46, 46]⟩ : ByteArray).data.toList = [46, 46] from rfl] at HC1
  rw [show (⟨#[64, 123]⟩ : ByteArray).data.toList = [64, 123] from rfl] at HC2
  rw [show (⟨#[46]⟩ : ByteArray).data.toList = [46] from rfl] at HC3
  generalize Lib.contains s.data.toList [46, 46] = A at *
  generalize Lib.contains s.data.toList [64, 123] = B at *
  generalize Lib.hasSuffix s.data.toList [46] = C at *
  clear hg
  go_enter Tryz.func37, Tryz.ntmps37
  go_wp2_with fail
  go_loopw [3, 6] (fun _ i wr => ∃ (k : Nat), k ≤ s.size ∧ i = .int .i64 k ∧ noBar (s.data.toList.take k) = true ∧ wr = w) (fun _ i _ => s.size - (intOf i).toNat)
  case atStart => exact ⟨0, Nat.zero_le _, rfl, rfl, rfl⟩
  case round =>
    obtain ⟨k, hk, rfl, hd, rfl⟩ := hrel
    have HD := hidM hd
    clear hd
    by_cases hlt : k < s.size
    · have kk : (k : Int) < (s.size : Int) := by omega
      by_cases hc : barL.contains s[k] = true
      · have HF := hidM (noBar_no s k hlt hc)
        go_wp2_with fail
        refine (HI.out s[k]).mono ?_
        rintro _ w1 ⟨n, rfl, hn, rfl⟩
        rw [hc] at hn
        go_wp2_with fail
        go_ret
        exact ⟨by rw [HR.out, HF.out]; rfl, rfl⟩
      · have HN : Hid (noBar (s.data.toList.take (k + 1)) = true) := by
          unfold Hid
          rw [take_one s k hlt, noBar_app, HD.out]
          unfold noBar
          rw [List.all_cons, Bool.eq_false_iff.2 hc]; rfl
        have hc := Bool.eq_false_iff.2 hc
        go_wp2_with fail
        refine (HI.out s[k]).mono ?_
        rintro _ w1 ⟨n, rfl, hn, rfl⟩
        rw [hc] at hn
        go_wp2_with fail
        go_roundw
        case rel => exact ⟨k + 1, by omega, by go_num, HN.out, trivial⟩
        case measure => (show s.size - ((k : Int) + 1).toNat < s.size - ((k : Int)).toNat); omega
    · obtain rfl : k = s.size := by omega
      have HF : Hid (plainN s.data.toList = (!A && !B && !C)) := by
        have := HD.out
        rw [List.take_of_length_le (by rw [sl_len]; omega)] at this
        unfold Hid
        rw [HR.out, this]; rfl
      clear HR HD HI
      cases A with
      | true =>
        go_wp2_with fail
        refine HC1.out.mono ?_
        rintro _ w1 ⟨rfl, rfl⟩
        go_wp2_with fail
        go_ret
        exact ⟨by rw [HF.out]; rfl, rfl⟩
      | false =>
      cases B with
      | true =>
        go_wp2_with fail
        refine HC1.out.mono ?_
        rintro _ w1 ⟨rfl, rfl⟩
        go_wp2_with fail
        refine HC2.out.mono ?_
        rintro _ w1 ⟨rfl, rfl⟩
        go_wp2_with fail
        go_ret
        exact ⟨by rw [HF.out]; rfl, rfl⟩
      | false =>
        go_wp2_with fail
        refine HC1.out.mono ?_
        rintro _ w1 ⟨rfl, rfl⟩
        go_wp2_with fail
        refine HC2.out.mono ?_
        rintro _ w1 ⟨rfl, rfl⟩
        go_wp2_with fail
        refine HC3.out.mono ?_
        rintro _ w1 ⟨rfl, rfl⟩
        go_wp2_with fail
        go_ret
        exact ⟨by rw [HF.out]; rfl, rfl⟩
def wholeB (ps : List ByteArray) : Bool := ps.all fun p => partN p.data.toList
theorem wholeB_parts (s : ByteArray) : wholeB (partsB s) = wholeN s.data.toList := by
  unfold wholeB wholeN
  rw [← parts_eq, List.all_map]; rfl
set_option maxHeartbeats 1600000 in
theorem nwhole_any (s : ByteArray) (w : World) (hs : s.size ≤ 200) :
    Calls Tryz.prog 38 #[.string s] w fun e w' => e = .returned (.bool (wholeN s.data.toList)) ∧ Below w.heap.size w w' := by
  have HSP := hidM (split_any s w hs)
  have hpl : (partsB s).length ≤ 201 := by
    have := Lib.splitB_length_le slash 0 (Lib.countB s slash) s
    have h2 := Lib.countB_le slash (by decide) s.size s (Nat.le_refl _)
    unfold partsB; omega
  have HSZ : Hid (∀ p ∈ partsB s, p.size ≤ 200) := fun p hp => by
    have h1 : p.data.toList ∈ partsL s.data.toList := by rw [← parts_eq]; exact List.mem_map_of_mem hp
    have h2 := parts_le _ _ h1
    rw [sl_len, sl_len] at h2
    omega
  rw [← wholeB_parts]
  generalize partsB s = ps at *
  unfold slash at *
  go_enter Tryz.func38, Tryz.ntmps38
  go_wp2_with fail
  refine HSP.out.mono ?_
  rintro _ w1 ⟨rfl, rfl⟩
  have HC : Hid (∀ j (h : j < ps.length), (w.alloc (.cells (ps.map Value.string).toArray 9)).cell? ⟨w.heap.size, j, none⟩ = some (.string ps[j])) := by
    intro j h
    rw [World.cell?_alloc_mark w _ 9 (0, 0) j]
    simp [h]
  have HB : Hid (Below w.heap.size w (w.alloc (.cells (ps.map Value.string).toArray 9))) := (Below.refl _ _).alloc (Nat.le_refl _) _
  generalize w.alloc (.cells (ps.map Value.string).toArray 9) = W at *
  go_wp2_with fail
  go_loopw [4, 8] (fun _ i wr => ∃ (k : Nat), k ≤ ps.length ∧ i = .int .i64 k ∧ wholeB (ps.take k) = true ∧ wr = W) (fun _ i _ => ps.length - (intOf i).toNat)
  case atStart => exact ⟨0, Nat.zero_le _, rfl, rfl, rfl⟩
  case round =>
    obtain ⟨k, hk, rfl, hd, rfl⟩ := hrel
    have HD := hidM hd
    clear hd
    by_cases hlt : k < ps.length
    · have kk : (k : Int) < (ps.length : Int) := by omega
      have hc := HC.out k hlt
      have hz := HSZ.out _ (List.getElem_mem hlt)
      have HP := hidM (Tryz.strings_HasPrefix ps[k] ⟨#[46]⟩ wr)
      have HS := hidM (Tryz.strings_HasSuffix ps[k] ⟨#[46, 108, 111, 99, 107]⟩ wr (by omega))
      have HE : Hid (partN ps[k].data.toList = (!Lib.hasPrefix ps[k].data.toList [46] && !Lib.hasSuffix ps[k].data.toList [46, 108, 111, 99, 107])) := rfl
      have HN : Hid (partN ps[k].data.toList = true → wholeB (ps.take (k + 1)) = true) := fun hp => by
        rw [List.take_succ_eq_append_getElem hlt]
        unfold wholeB
        rw [List.all_append, show (ps.take k).all (fun p => partN p.data.toList) = true from HD.out]
        simp [hp]
      have HF : Hid (partN ps[k].data.toList = false → wholeB ps = false) := fun hp => by
        refine Bool.eq_false_iff.2 fun ht => ?_
        unfold wholeB at ht
        rw [List.all_eq_true] at ht
        rw [ht _ (List.getElem_mem hlt)] at hp
        cases hp
      rw [show (⟨#[46]⟩ : ByteArray).data.toList = [46] from rfl] at HP
      rw [show (⟨#[46, 108, 111, 99, 107]⟩ : ByteArray).data.toList = [46, 108, 111, 99, 107] from rfl] at HS
      generalize Lib.hasPrefix ps[k].data.toList [46] = A at *
      generalize Lib.hasSuffix ps[k].data.toList [46, 108, 111, 99, 107] = B at *
      generalize ps[k] = X at *
      cases A with
      | true =>
        have HF2 := hidM (HF.out (by rw [HE.out]; rfl))
        go_wp2_with fail
        refine HP.out.mono ?_
        rintro _ w1 ⟨rfl, rfl⟩
        go_wp2_with fail
        go_ret
        exact ⟨by rw [HF2.out]; rfl, HB.out⟩
      | false =>
      cases B with
      | true =>
        have HF2 := hidM (HF.out (by rw [HE.out]; rfl))
        go_wp2_with fail
        refine HP.out.mono ?_
        rintro _ w1 ⟨rfl, rfl⟩
        go_wp2_with fail
        refine HS.out.mono ?_
        rintro _ w1 ⟨rfl, rfl⟩
        go_wp2_with fail
        go_ret
        exact ⟨by rw [HF2.out]; rfl, HB.out⟩
      | false =>
        have HN2 := hidM (HN.out (by rw [HE.out]; rfl))
        go_wp2_with fail
        refine HP.out.mono ?_
        rintro _ w1 ⟨rfl, rfl⟩
        go_wp2_with fail
        refine HS.out.mono ?_
        rintro _ w1 ⟨rfl, rfl⟩
        go_wp2_with fail
        go_roundw
        case rel => exact ⟨k + 1, by omega, by go_num, HN2.out, trivial⟩
        case measure => (show ps.length - ((k : Int) + 1).toNat < ps.length - ((k : Int)).toNat); omega
    · obtain rfl : k = ps.length := by omega
      have HF : Hid (wholeB ps = true) := by
        have := HD.out
        rwa [List.take_of_length_le (Nat.le_refl _)] at this
      go_wp2_with fail
      go_ret
      exact ⟨by rw [HF.out]; rfl, HB.out⟩
set_option maxHeartbeats 1600000 in
theorem name_any (s : ByteArray) (m : Int) (w : World) (hg : GOk m w) :
    Calls Tryz.prog 11 #[.string s] w fun e w' => e = .returned (.bool (nameL s.data.toList)) ∧ Below w.heap.size w w' := by
  have HG := hidM hg
  clear hg
  by_cases h1 : s.toList = [72, 69, 65, 68]
  · have e1 : (s.toList == [72, 69, 65, 68]) = true := by rw [h1]; rfl
    have HR : Hid (nameL s.data.toList = true) := by
      unfold Hid nameL
      rw [← ByteArray.toList_eq, h1]; rfl
    clear h1
    go_enter Tryz.func11, Tryz.ntmps11
    go_wp2_with fail
    go_ret
    exact ⟨by rw [HR.out]; rfl, Below.refl _ _⟩
  have e1 : (s.toList == [72, 69, 65, 68]) = false := beq_false_of_ne h1
  have HR : Hid (nameL s.data.toList = (Lib.hasPrefix s.data.toList folderL && cleanL s.data.toList && plainN s.data.toList && wholeN s.data.toList)) := by
    unfold Hid nameL restN
    rw [← ByteArray.toList_eq, decide_eq_false (show ¬ s.toList = headL from h1)]; rfl
  clear h1
  have HP := hidM (Tryz.strings_HasPrefix s ⟨#[114, 101, 102, 115, 47]⟩ w)
  rw [show (⟨#[114, 101, 102, 115, 47]⟩ : ByteArray).data.toList = folderL from rfl] at HP
  have HC := hidM (clean_any s w)
  rw [clean_eq] at HC
  have HS : Hid (cleanL s.data.toList = true → s.size ≤ 200) := fun h => by
    have := (cleanL_iff.1 h).1
    rwa [sl_len] at this
  have HPL : Hid (s.size ≤ 200 → ∀ W, Below w.heap.size w W → Calls Tryz.prog 37 #[.string s] W fun e w' => e = .returned (.bool (plainN s.data.toList)) ∧ w' = W) := fun h W hb => nplain_any s m W h (HG.out.below hb)
  have HW := hidM (fun (h : s.size ≤ 200) W => nwhole_any s W h)
  generalize Lib.hasPrefix s.data.toList folderL = A at *
  generalize cleanL s.data.toList = B at *
  generalize plainN s.data.toList = C at *
  generalize wholeN s.data.toList = D at *
  cases A with
  | false =>
    go_enter Tryz.func11, Tryz.ntmps11
    go_wp2_with fail
    refine HP.out.mono ?_
    rintro _ w1 ⟨rfl, rfl⟩
    go_wp2_with fail
    go_ret
    exact ⟨by rw [HR.out]; rfl, Below.refl _ _⟩
  | true =>
  cases B with
  | false =>
    go_enter Tryz.func11, Tryz.ntmps11
    go_wp2_with fail
    refine HP.out.mono ?_
    rintro _ w1 ⟨rfl, rfl⟩
    go_wp2_with fail
    refine HC.out.mono ?_
    rintro _ w2 ⟨rfl, hb2⟩
    go_wp2_with fail
    go_ret
    exact ⟨by rw [HR.out]; rfl, hb2⟩
  | true =>
  have hs := HS.out rfl
  have HPL2 := hidM (HPL.out hs)
  have HW2 := hidM (HW.out hs)
  clear HPL HW HS
  cases C with
  | false =>
    go_enter Tryz.func11, Tryz.ntmps11
    go_wp2_with fail
    refine HP.out.mono ?_
    rintro _ w1 ⟨rfl, rfl⟩
    go_wp2_with fail
    refine HC.out.mono ?_
    rintro _ w2 ⟨rfl, hb2⟩
    go_wp2_with fail
    refine (HPL2.out _ hb2).mono ?_
    rintro _ w3 ⟨rfl, rfl⟩
    go_wp2_with fail
    go_ret
    exact ⟨by rw [HR.out]; rfl, hb2⟩
  | true =>
    go_enter Tryz.func11, Tryz.ntmps11
    go_wp2_with fail
    refine HP.out.mono ?_
    rintro _ w1 ⟨rfl, rfl⟩
    go_wp2_with fail
    refine HC.out.mono ?_
    rintro _ w2 ⟨rfl, hb2⟩
    go_wp2_with fail
    refine (HPL2.out _ hb2).mono ?_
    rintro _ w3 ⟨rfl, rfl⟩
    go_wp2_with fail
    refine (HW2.out _).mono ?_
    rintro _ w4 ⟨rfl, hb4⟩
    have HB := hidM (hb2.trans (hb4.mono hb2.size))
    go_wp2_with fail
    go_ret
    exact ⟨by rw [HR.out]; rfl, HB.out⟩
end Go.Proofs.YtjoomlpocpdonaaGreatDoor
namespace Go.Proofs.YtjoomlpocpdonaaGreatDoor
open Go.RowKit

end Go.Proofs.YtjoomlpocpdonaaGreatDoor
