/-
  The document's Path and FilePath of module files.
-/
import Derived.Test.YtgkjmmfpbcgmgaaDoorPthF
namespace Go.Proofs.YtgkjmmfpbcgmgaaDoor
open Go.RowKit

set_option maxHeartbeats 1000000 in
theorem ends_any (s : ByteArray) (w : World) (hs : s.size ≤ 200) : Calls Tryd.prog 37 #[.string s, .string ⟨#[46]⟩] w fun e w' => e = .returned (.bool (s.data.toList.getLast? == some 46)) ∧ w' = w := by
  by_cases h0 : s.size = 0
  · have HR : Hid ((s.data.toList.getLast? == some 46) = false) := by
      have : s.data.toList = [] := List.length_eq_zero_iff.1 (by rw [sl_len]; exact h0)
      unfold Hid; rw [this]; rfl
    have c1 : ¬ (1 : Int) ≤ (s.size : Int) := by omega
    clear h0
    generalize (s.data.toList.getLast? == some 46) = RR at *
    go_enter Tryd.func37, Tryd.ntmps37
    go_wp2
    go_ret
    exact ⟨by rw [HR.out]; rfl, rfl⟩
  · have c1 : (1 : Int) ≤ (s.size : Int) := by omega
    obtain ⟨m, hm⟩ : ∃ m, s.size = m + 1 := ⟨s.size - 1, by omega⟩
    have c2 : (s.size : Int) - 1 = (m : Int) := by omega
    have c3 : (0 : Int) ≤ (m : Int) := by omega
    have c4 : (m : Int) ≤ (s.size : Int) := by omega
    obtain ⟨X, hX⟩ : ∃ X, s.extract m s.size = X := ⟨_, rfl⟩
    have HR : Hid ((X.toList == [46]) = (s.data.toList.getLast? == some 46)) := by
      unfold Hid
      have h1 : X.toList = [s[m]'(by omega)] := by
        rw [← hX, Lib.toList_data, ext_tail, List.drop_eq_getElem_cons (by rw [sl_len]; omega), List.drop_of_length_le (by rw [sl_len]; omega)]
        rfl
      rw [h1, List.getLast?_eq_getElem?, sl_len, show s.size - 1 = m by omega, ba_at s m (by omega)]
      show ((s[m]'(by omega)) == 46 && true) = ((s[m]'(by omega)) == 46)
      rw [Bool.and_true]
    have HM := hidM hm
    clear hm h0
    generalize (s.data.toList.getLast? == some 46) = RR at *
    go_enter Tryd.func37, Tryd.ntmps37
    go_wp2
    go_ret
    exact ⟨by rw [← HR.out]; rfl, rfl⟩
def barR : List UInt8 := [34, 39, 42, 60, 62, 63, 124, 92, 58, 59]
theorem bar_two (c : UInt8) : barL.contains c = (barR.contains c || c == 96) := by
  unfold barL barR
  simp only [List.contains_cons, List.contains_nil, Bool.or_false]
  cases (c == 34) <;> cases (c == 39) <;> cases (c == 42) <;> cases (c == 60) <;> cases (c == 62) <;> cases (c == 63) <;> cases (c == 96) <;> simp
theorem getL (s : ByteArray) (k : Nat) (h : k < s.size) : s[k] ∈ s.data.toList := List.mem_of_getElem? (ba_at s k h)
set_option maxHeartbeats 2000000 in
set_option maxRecDepth 100000 in
theorem rfilePath_any (s : ByteArray) (w : World) :
    Calls Tryd.prog 18 #[.string s] w fun e w' => e = .returned (.bool (fileL s.data.toList)) ∧ Below w.heap.size w w' := by
  have HC := hidM (rclean_any s w)
  rw [clean_eq] at HC
  have HR : Hid (fileL s.data.toList = (cleanL s.data.toList && !(s.data.toList.any fun c => barL.contains c) && !stopL s.data.toList)) := rfl
  cases h0 : cleanL s.data.toList with
  | false =>
    rw [h0] at HC HR
    clear h0
    go_enter Tryd.func18, Tryd.ntmps18
    go_wp2_with fail
    refine HC.out.mono ?_
    rintro _ w1 ⟨rfl, hb⟩
    go_wp2
    go_ret
    exact ⟨by rw [HR.out]; rfl, hb⟩
  | true =>
    have hs : s.size ≤ 200 := by
      unfold cleanL at h0
      simp only [Bool.and_eq_true, decide_eq_true_eq] at h0
      rw [sl_len] at h0; exact h0.1.1
    rw [h0] at HC HR
    have HFI : Hid (∀ (k : Nat) (hk : k < s.size) V, Calls Tryd.prog 36 #[.string ⟨#[34, 39, 42, 60, 62, 63, 124, 92, 58, 59]⟩, .int .u8 ((s[k]'hk).toNat : Int)] V fun e w' => e = .returned (.int .i64 (Lib.indexByte barR (s[k]'hk))) ∧ w' = V) := fun k hk V => find_any ⟨#[34, 39, 42, 60, 62, 63, 124, 92, 58, 59]⟩ (s[k]'hk) V (by decide)
    have HRP := hidM (fun V => rparts_any s V (by omega))
    have HST : Hid (stopL s.data.toList = (rpB s s.size).any fun b => b.data.toList.getLast? == some 46) := by
      unfold Hid
      rw [rpB_all, List.any_map]; rfl
    have HPZ := hidM (rpB_size s s.size)
    have hpl := (rpB_len s s.size).1
    have hpl0 := (rpB_len s s.size).2
    clear h0
    generalize rpB s s.size = ps at *
    go_enter Tryd.func18, Tryd.ntmps18
    go_wp2_with fail
    refine HC.out.mono ?_
    rintro _ w1 ⟨rfl, hb⟩
    have HB1 := hidM hb
    clear hb HC
    go_wp2
    go_loopw [3, 9, 10, 11, 12, 13, 14, 15, 16, 17, 18, 19, 20, 21, 22, 23, 24, 25] (fun v3 _ _ _ _ _ _ _ _ _ _ _ _ _ _ _ _ _ wr => ∃ k : Nat, k ≤ s.size ∧ v3 = .int .i64 (k : Int) ∧ ((s.data.toList.take k).any fun c => barL.contains c) = false ∧ wr = w1) (fun v3 _ _ _ _ _ _ _ _ _ _ _ _ _ _ _ _ _ _ => s.size - (intOf v3).toNat)
    case atStart => exact ⟨0, Nat.zero_le _, rfl, rfl, rfl⟩
    case round =>
      obtain ⟨k, hk, rfl, hd, hw⟩ := hrel
      have HW := hidM hw
      have HD := hidM hd
      clear hd hw
      by_cases hlt : k < s.size
      · have kk : (k : Int) < (s.size : Int) := by omega
        have HF := hidM (HFI.out k hlt wr)
        have HI : Hid (decide (0 ≤ Lib.indexByte barR s[k]) = barR.contains s[k]) := idx_cont _ _
        have HBT : Hid (barL.contains s[k] = (barR.contains s[k] || s[k] == 96)) := bar_two _
        have HTK : Hid (((s.data.toList.take (k + 1)).any fun c => barL.contains c) = barL.contains s[k]) := by
          unfold Hid
          rw [take_one s k hlt, List.any_append, HD.out]
          simp
        have HNO : Hid (barL.contains s[k] = true → fileL s.data.toList = false) := by
          intro h
          rw [HR.out, show (s.data.toList.any fun c => barL.contains c) = true from List.any_eq_true.2 ⟨_, getL s k hlt, h⟩]
          rfl
        have h96 : ((((s[k].toNat : Nat) : Int)) == 96) = (s[k] == 96) := by
          rw [Bool.eq_iff_iff, beq_iff_eq, beq_iff_eq]
          constructor
          · intro h; exact UInt8.toNat_inj.1 (by have : (96 : UInt8).toNat = 96 := rfl; omega)
          · intro h; rw [h]; rfl
        generalize Lib.indexByte barR s[k] = ix at *
        generalize barR.contains s[k] = C1 at *
        generalize (s[k] == 96) = C2 at *
        generalize barL.contains s[k] = C3 at *
        have hix := HI.out
        cases C1 with
        | true =>
          have hC3 : C3 = true := by rw [HBT.out]; rfl
          have HN2 := hidM (HNO.out hC3)
          clear HNO HBT HTK hC3 h96
          go_wp2_with (go_at_call 36; with_reducible refine HF.out.mono ?_; rintro _ _ ⟨rfl, rfl⟩)
          go_ret
          exact ⟨by rw [HN2.out]; rfl, by have := HW.out; subst this; exact HB1.out⟩
        | false =>
          cases C2 with
          | true =>
            have hC3 : C3 = true := by rw [HBT.out]; rfl
            have HN2 := hidM (HNO.out hC3)
            clear HNO HBT HTK hC3
            go_wp2_with (go_at_call 36; with_reducible refine HF.out.mono ?_; rintro _ _ ⟨rfl, rfl⟩)
            go_ret
            exact ⟨by rw [HN2.out]; rfl, by have := HW.out; subst this; exact HB1.out⟩
          | false =>
            have hC3 : C3 = false := by rw [HBT.out]; rfl
            have HN3 : Hid (((s.data.toList.take (k + 1)).any fun c => barL.contains c) = false) := by unfold Hid; rw [HTK.out, hC3]
            clear HNO HBT HTK hC3
            go_wp2_with (go_at_call 36; with_reducible refine HF.out.mono ?_; rintro _ _ ⟨rfl, rfl⟩)
            go_roundw
            case rel => exact ⟨k + 1, by omega, by go_num, HN3.out, HW.out⟩
            case measure => (show s.size - ((k : Int) + 1).toNat < s.size - ((k : Int)).toNat); omega
      · have kk : ¬ (k : Int) < (s.size : Int) := by omega
        have HAL : Hid ((s.data.toList.any fun c => barL.contains c) = false) := by
          have := HD.out
          rwa [List.take_of_length_le (by rw [sl_len]; omega)] at this
        have HR2 : Hid (fileL s.data.toList = !(ps.any fun b => b.data.toList.getLast? == some 46)) := by unfold Hid; rw [HR.out, HAL.out, HST.out]; rfl
        have HB1w : Hid (Below w.heap.size w wr) := by rw [HW.out]; exact HB1.out
        clear HR HAL HST HD HW HB1 HFI
        go_wp2_with fail
        refine (HRP.out _).mono ?_
        rintro _ w2 ⟨⟨v2, hown, rfl⟩, hb2⟩
        obtain ⟨a, c, rfl, hsh⟩ := hown.shape
        obtain ⟨g, rfl, _, hg, hat⟩ := hsh (by intro e; rw [e] at hpl0; simp at hpl0)
        have HAT := hidM hat
        have HB2 := hidM (HB1w.out.trans (hb2.mono HB1w.out.size))
        clear hown hsh hat hb2 HRP
        obtain ⟨n, hn⟩ : ∃ n, n = ps.length := ⟨_, rfl⟩
        rw [← hn] at hpl ⊢
        have HN := hidM hn
        clear hn
        go_wp2
        go_loopw [5, 29, 30, 31, 32, 33, 34, 35] (fun _ v _ _ _ _ _ _ wr => ∃ k : Nat, k ≤ n ∧ v = .int .i64 (k : Int) ∧ ((ps.take k).any fun b => b.data.toList.getLast? == some 46) = false ∧ wr = w2) (fun _ v _ _ _ _ _ _ _ => n - (intOf v).toNat)
        case atStart => exact ⟨0, Nat.zero_le _, rfl, rfl, rfl⟩
        case round =>
          obtain ⟨k, hk, rfl, hd, hw⟩ := hrel
          have HW := hidM hw
          have HD := hidM hd
          clear hd
          subst hw
          by_cases hlt : k < n
          · have kk : (k : Int) < (n : Int) := by omega
            have hkp : k < ps.length := by rw [← HN.out]; exact hlt
            have hc := HAT.out k hkp
            have HE := hidM (ends_any ps[k] wr (by have := HPZ.out ps[k] (List.getElem_mem _); omega))
            have HT : Hid (((ps.take (k + 1)).any fun b => b.data.toList.getLast? == some 46) = (ps[k].data.toList.getLast? == some 46)) := by
              unfold Hid
              rw [List.take_succ_eq_append_getElem hkp, List.any_append, HD.out]
              simp
            have HNO : Hid ((ps[k].data.toList.getLast? == some 46) = true → fileL s.data.toList = false) := by
              intro h
              rw [HR2.out, show (ps.any fun b => b.data.toList.getLast? == some 46) = true from List.any_eq_true.2 ⟨_, List.getElem_mem hkp, h⟩]
              rfl
            generalize (ps[k].data.toList.getLast? == some 46) = B at *
            generalize ps[k] = X at *
            cases B with
            | true =>
              have HN2 := hidM (HNO.out rfl)
              clear HNO HT
              go_wp2_with (go_at_call 37; with_reducible refine HE.out.mono ?_; rintro _ _ ⟨rfl, rfl⟩)
              go_ret
              exact ⟨by rw [HN2.out]; rfl, HB2.out⟩
            | false =>
              clear HNO
              go_wp2_with (go_at_call 37; with_reducible refine HE.out.mono ?_; rintro _ _ ⟨rfl, rfl⟩)
              go_roundw
              case rel => exact ⟨k + 1, by omega, by go_num, HT.out, trivial⟩
              case measure => (show n - ((k : Int) + 1).toNat < n - ((k : Int)).toNat); omega
          · have HF : Hid (fileL s.data.toList = true) := by
              have h := HD.out
              rw [List.take_of_length_le (by rw [← HN.out]; omega)] at h
              unfold Hid; rw [HR2.out, h]; rfl
            have kk : ¬ (k : Int) < (n : Int) := by omega
            go_wp2
            go_ret
            exact ⟨by rw [HF.out]; rfl, HB2.out⟩
end Go.Proofs.YtgkjmmfpbcgmgaaDoor
