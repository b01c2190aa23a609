/-
  Walks: Unhex, the program's and the document's.
-/
import Derived.Test.YtbodjopdhciaeaaDoorWalkG
namespace Go.Proofs.YtbodjopdhciaeaaDoor
open Go.RowKit

theorem or4 (a b : Nat) (ha : a < 16) (hb : b < 16) : bits .or .u8 ((a : Int) * 16) (b : Int) = ((a * 16 + b : Nat) : Int) := by
  rw [show (a : Int) * 16 = ((a * 16 : Nat) : Int) by omega, u8_or_nat _ _ (by omega) (by omega), nat_join 4 _ _ (by omega) (by omega)]

set_option maxHeartbeats 1600000 in
theorem unhex_yes (s : ByteArray) (w : World) (hs : s.size ≤ 1048576) (hh : hexed s.data.toList = true) :
    Calls Tryd.prog 20 #[.string s] w fun e w' => e = .returned (.tuple #[.string ⟨(unhexL s.data.toList).toArray⟩, .bool true]) ∧ Below w.heap.size w w' := by
  obtain ⟨i0, hi, hz0, hz1, hz2⟩ := info_parts Tryd.info5
  unfold hexed at hh
  rw [Bool.and_eq_true] at hh
  have HD := hidM (all_digTo _ hh.1)
  have hev : s.size % 2 = 0 := by have := hh.2; rw [len_size] at this; exact of_decide_eq_true this
  clear hh
  obtain ⟨m, hm⟩ : ∃ m, s.size = 2 * m := ⟨s.size / 2, by omega⟩
  have HM := hidM hm
  have hm1 : s.size ≤ 2 * m := by omega
  have hm2 : 2 * m ≤ s.size := by omega
  have hz : ((s.size : Int) % 2 != 0) = false := by simp; omega
  clear hm hev
  go_enter Tryd.func20, Tryd.ntmps20
  go_wp2_with (at_make; refine wpList_make_own _ rfl _ _ 44 rfl w.heap.size 5 i0 (.int .u8 0) 1 Tryd.underlying44 hi hz0 hz1 .i64 .i64 _ m rfl rfl ?c0 ?c1 ?c2 ?c3 ?_)
  case c0 => omega
  case c1 => rw [hz2]; omega
  case c2 => unfold maxLen; omega
  case c3 => exact Nat.le_refl _
  intro w1 hown hgrow
  have hbel : Below w.heap.size w w1 := (Below.refl _ _).grown hgrow (Nat.le_refl _) (by intro k hk; cases hk)
  have hown2 : OwnB w1 w.heap.size (.slice (some ⟨w.heap.size, 0, none⟩) 0 m) [] := hown
  clear hown hgrow
  go_wp2
  go_loopw [4, 5, 6, 7, 8, 9] (fun v i _ _ _ _ wr => ∃ (k : Nat) (P : List UInt8), k ≤ m ∧ i = .int .i64 ((2 * k : Nat) : Int) ∧ P = unhexN s.data.toList k ∧ OwnB wr w.heap.size v P ∧ Below w.heap.size w wr) (fun _ i _ _ _ _ _ => s.size - (intOf i).toNat)
  case atStart => exact ⟨0, [], Nat.zero_le _, rfl, rfl, hown2, hbel⟩
  case round =>
    obtain ⟨k, P, hk, rfl, hP, hownr, hbr⟩ := hrel
    clear hown2 hbel
    have HP := hidM hP
    have hB := hbr.size
    by_cases hlt : k < m
    · have hl : P.length = k := by rw [hP, unhexN_len]
      have HL := hidM hl
      have k1 : 2 * k < s.size := by omega
      have k2 : 2 * k + 1 < s.size := by omega
      obtain ⟨c, hc⟩ : ∃ c, c = s[2 * k] := ⟨_, rfl⟩
      obtain ⟨d, hd⟩ : ∃ d, d = s[2 * k + 1] := ⟨_, rfl⟩
      have gc : s.data.toList.getD (2 * k) 0 = c := by rw [getD_at s _ k1, hc]
      have gd : s.data.toList.getD (2 * k + 1) 0 = d := by rw [getD_at s _ k2, hd]
      have dc : isDig c = true := by rw [← gc]; exact HD.out _ (by rw [len_size]; omega)
      have dd : isDig d = true := by rw [← gd]; exact HD.out _ (by rw [len_size]; omega)
      have HV : Hid (unhexN s.data.toList (k + 1) = P ++ [UInt8.ofNat (hexV c * 16 + hexV d)]) := by
        unfold Hid; rw [unhexN_succ, ← hP]; unfold pairV; rw [gc, gd]
      have rc : (s[2 * k].toNat : Int) = (c.toNat : Int) := by rw [hc]
      have rd : (s[2 * k + 1].toNat : Int) = (d.toNat : Int) := by rw [hd]
      clear hc hd gc gd hP hl
      have b1 := hexV_lt c
      have b2 := hexV_lt d
      go_wp2_with fail
      refine (hexValue_any c wr).mono ?_
      rintro e wr' ⟨rfl, rfl⟩
      go_wp2_with fail
      refine (hexValue_any d wr').mono ?_
      rintro e wr ⟨rfl, rfl⟩
      have HE : Hid (((hexV c * 16 + hexV d : Nat) : Int) = ((UInt8.ofNat (hexV c * 16 + hexV d)).toNat : Int)) := by unfold Hid; simp; omega
      have ho : bits .or .u8 ((hexV c : Int) * 16) (hexV d : Int) = ((hexV c * 16 + hexV d : Nat) : Int) := or4 _ _ b1 b2
      rw [HE.out] at ho
      generalize UInt8.ofNat (hexV c * 16 + hexV d) = x at *
      generalize hexV c = x1 at *
      generalize hexV d = x2 at *
      clear HE rc rd
      go_wp2_with (first
        | (at_builtin; refine wpList_append_own _ rfl _ _ 44 rfl w.heap.size 5 i0 (.int .u8 0) 1 1 Tryd.underlying44 hi hz0 hz1 hz2 rfl (by decide) _ _ _ rfl (hownr.alloc _) ⟨wr.heap.size, 0, none⟩ 1 1 [.int .u8 (x.toNat : Int)] ?d0 rfl ?d1 ?d2 ?d3 ?d4 ?d5 ?_))
      case d0 => rfl
      case d1 => exact cell_new_one wr _
      case d2 => intro u hu; simp at hu; subst hu; rfl
      case d3 => have := HL.out; unfold maxLen; omega
      case d4 => have := HL.out; omega
      case d5 => simp; omega
      intro v' w2 hown' hgrow _
      have HO := hidM (own_push hown')
      have HB := hidM (below_push hownr hbr hB hgrow)
      clear hown' hgrow hownr hbr hB ho dc dd
      go_wp2
      go_roundw
      case rel => exact ⟨k + 1, P ++ [x], by omega, by go_num, HV.out.symm, HO.out, HB.out⟩
      case measure => simp [intOf]; omega
    · have HF : Hid (unhexL s.data.toList = P) := by
        unfold Hid unhexL; rw [hP, len_size, show s.size / 2 = k by omega]
      have hge : ¬ 2 * (k : Int) < (s.size : Int) := by omega
      have hconv := conv_own hownr
      have HB := hidM hbr
      clear hownr hbr hB hP
      go_wp2
      go_ret2
      exact ⟨by rw [HF.out]; rfl, HB.out⟩

set_option maxHeartbeats 1600000 in
theorem unhex_no (s : ByteArray) (w : World) (hs : s.size ≤ 1048576) (hh : hexed s.data.toList = false) :
    Calls Tryd.prog 20 #[.string s] w fun e w' => e = .returned (.tuple #[.string ⟨#[]⟩, .bool false]) ∧ Below w.heap.size w w' := by
  obtain ⟨i0, hi, hz0, hz1, hz2⟩ := info_parts Tryd.info5
  by_cases hev : s.size % 2 = 0
  · have HN : Hid (DigTo s.data.toList s.size → False) := by
      intro h
      have h2 := hexed_yes s.data.toList (by rw [len_size]; exact h)
      rw [hh, len_size] at h2
      simp [hev] at h2
    clear hh
    obtain ⟨m, hm⟩ : ∃ m, s.size = 2 * m := ⟨s.size / 2, by omega⟩
    have HM := hidM hm
    have hm1 : s.size ≤ 2 * m := by omega
    have hm2 : 2 * m ≤ s.size := by omega
    have hz : ((s.size : Int) % 2 != 0) = false := by simp; omega
    clear hm hev
    go_enter Tryd.func20, Tryd.ntmps20
    go_wp2_with (at_make; refine wpList_make_own _ rfl _ _ 44 rfl w.heap.size 5 i0 (.int .u8 0) 1 Tryd.underlying44 hi hz0 hz1 .i64 .i64 _ m rfl rfl ?c0 ?c1 ?c2 ?c3 ?_)
    case c0 => omega
    case c1 => rw [hz2]; omega
    case c2 => unfold maxLen; omega
    case c3 => exact Nat.le_refl _
    intro w1 hown hgrow
    have hbel : Below w.heap.size w w1 := (Below.refl _ _).grown hgrow (Nat.le_refl _) (by intro k hk; cases hk)
    have hown2 : OwnB w1 w.heap.size (.slice (some ⟨w.heap.size, 0, none⟩) 0 m) [] := hown
    clear hown hgrow
    go_wp2
    go_loopw [4, 5, 6, 7, 8, 9] (fun v i _ _ _ _ wr => ∃ (k : Nat) (P : List UInt8), k ≤ m ∧ i = .int .i64 ((2 * k : Nat) : Int) ∧ P.length = k ∧ DigTo s.data.toList (2 * k) ∧ OwnB wr w.heap.size v P ∧ Below w.heap.size w wr) (fun _ i _ _ _ _ _ => s.size - (intOf i).toNat)
    case atStart => exact ⟨0, [], Nat.zero_le _, rfl, rfl, fun i hi => by omega, hown2, hbel⟩
    case round =>
      obtain ⟨k, P, hk, rfl, hl, hdt, hownr, hbr⟩ := hrel
      clear hown2 hbel
      have HL := hidM hl
      have HD := hidM hdt
      have hB := hbr.size
      clear hl hdt
      by_cases hlt : k < m
      · have k1 : 2 * k < s.size := by omega
        have k2 : 2 * k + 1 < s.size := by omega
        obtain ⟨c, hc⟩ : ∃ c, c = s[2 * k] := ⟨_, rfl⟩
        obtain ⟨d, hd⟩ : ∃ d, d = s[2 * k + 1] := ⟨_, rfl⟩
        have gc : s.data.toList.getD (2 * k) 0 = c := by rw [getD_at s _ k1, hc]
        have gd : s.data.toList.getD (2 * k + 1) 0 = d := by rw [getD_at s _ k2, hd]
        have HY : Hid (isDig c = true → isDig d = true → DigTo s.data.toList (2 * (k + 1))) := by
          intro h1 h2 i hi
          by_cases e : i < 2 * k
          · exact HD.out i e
          · rcases (by omega : i = 2 * k ∨ i = 2 * k + 1) with rfl | rfl
            · rw [gc]; exact h1
            · rw [gd]; exact h2
        have rc : (s[2 * k].toNat : Int) = (c.toNat : Int) := by rw [hc]
        have rd : (s[2 * k + 1].toNat : Int) = (d.toNat : Int) := by rw [hd]
        clear hc hd gc gd
        have b1 := hexV_lt c
        have b2 := hexV_lt d
        cases dc : isDig c
        · have HB := hidM hbr
          clear hownr hbr hB
          go_wp2_with fail
          refine (hexValue_any c wr).mono ?_
          rintro e wr' ⟨rfl, rfl⟩
          go_wp2_with fail
          refine (hexValue_any d wr').mono ?_
          rintro e wr ⟨rfl, rfl⟩
          clear rc rd
          go_wp2
          go_ret2
          exact ⟨rfl, HB.out⟩
        · cases dd : isDig d
          · have HB := hidM hbr
            clear hownr hbr hB
            go_wp2_with fail
            refine (hexValue_any c wr).mono ?_
            rintro e wr' ⟨rfl, rfl⟩
            go_wp2_with fail
            refine (hexValue_any d wr').mono ?_
            rintro e wr ⟨rfl, rfl⟩
            clear rc rd
            go_wp2
            go_ret2
            exact ⟨rfl, HB.out⟩
          · have HY2 : Hid (DigTo s.data.toList (2 * (k + 1))) := HY.out dc dd
            go_wp2_with fail
            refine (hexValue_any c wr).mono ?_
            rintro e wr' ⟨rfl, rfl⟩
            go_wp2_with fail
            refine (hexValue_any d wr').mono ?_
            rintro e wr ⟨rfl, rfl⟩
            have HE : Hid (((hexV c * 16 + hexV d : Nat) : Int) = ((UInt8.ofNat (hexV c * 16 + hexV d)).toNat : Int)) := by unfold Hid; simp; omega
            have ho : bits .or .u8 ((hexV c : Int) * 16) (hexV d : Int) = ((hexV c * 16 + hexV d : Nat) : Int) := or4 _ _ b1 b2
            rw [HE.out] at ho
            generalize UInt8.ofNat (hexV c * 16 + hexV d) = x at *
            generalize hexV c = x1 at *
            generalize hexV d = x2 at *
            clear HE rc rd
            go_wp2_with (first
              | (at_builtin; refine wpList_append_own _ rfl _ _ 44 rfl w.heap.size 5 i0 (.int .u8 0) 1 1 Tryd.underlying44 hi hz0 hz1 hz2 rfl (by decide) _ _ _ rfl (hownr.alloc _) ⟨wr.heap.size, 0, none⟩ 1 1 [.int .u8 (x.toNat : Int)] ?d0 rfl ?d1 ?d2 ?d3 ?d4 ?d5 ?_))
            case d0 => rfl
            case d1 => exact cell_new_one wr _
            case d2 => intro u hu; simp at hu; subst hu; rfl
            case d3 => have := HL.out; unfold maxLen; omega
            case d4 => have := HL.out; omega
            case d5 => simp; omega
            intro v' w2 hown' hgrow _
            have HO := hidM (own_push hown')
            have HB := hidM (below_push hownr hbr hB hgrow)
            have HL2 : Hid ((P ++ [x]).length = k + 1) := by unfold Hid; rw [List.length_append, HL.out]; rfl
            clear hown' hgrow hownr hbr hB ho dc dd
            go_wp2
            go_roundw
            case rel => exact ⟨k + 1, P ++ [x], by omega, by go_num, HL2.out, HY2.out, HO.out, HB.out⟩
            case measure => simp [intOf]; omega
      · exact absurd (fun i hi => HD.out i (by omega)) HN.out
  · have hz : ((s.size : Int) % 2 != 0) = true := by simp; omega
    clear hh
    go_enter Tryd.func20, Tryd.ntmps20
    go_wp2
    go_ret2
    exact ⟨rfl, Below.refl _ _⟩
end Go.Proofs.YtbodjopdhciaeaaDoor
