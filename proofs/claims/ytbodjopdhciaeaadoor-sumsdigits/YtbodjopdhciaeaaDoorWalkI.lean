/-
  Walks: the document's Unhex.
-/
import Derived.Test.YtbodjopdhciaeaaDoorWalkH
namespace Go.Proofs.YtbodjopdhciaeaaDoor
open Go.RowKit

theorem conv_bytes (t : ByteArray) (w : World) : ∃ cap W, (convert 9 44 (.string t)).run Tryd.prog w = .ok (.slice (some ⟨w.heap.size, 0, none⟩) t.size cap) W ∧
    (∀ j (h : j < t.size), W.cell? ⟨w.heap.size, j, none⟩ = some (.int .u8 (t[j].toNat : Int))) ∧ Below w.heap.size w W := by
  refine ⟨_, _, run_bytes_of_string w 9 44 5 t Tryd.underlying9 Tryd.underlying44 Tryd.underlying5, ?_, ?_⟩
  · intro j h
    have e : w.heap.size = w.drew.heap.size := rfl
    rw [e, World.cell?_alloc_mark, bytesRow_at t _ j h]
    rfl
  · exact ((Below.refl _ _).drew).alloc (Nat.le_refl _) _

theorem digit_cases (c : UInt8) (h : isDig c = true) : (48 ≤ c.toNat ∧ c.toNat ≤ 57 ∧ hexV c = c.toNat - 48) ∨ (97 ≤ c.toNat ∧ c.toNat ≤ 102 ∧ hexV c = c.toNat - 87) := by
  unfold isDig at h
  unfold hexV
  simp only [Bool.or_eq_true, Bool.and_eq_true, decide_eq_true_eq] at h
  rcases h with ⟨h1, h2⟩ | ⟨h1, h2⟩
  · left; exact ⟨h1, h2, by rw [if_pos ⟨h1, h2⟩]⟩
  · right; exact ⟨h1, h2, by rw [if_neg (by omega), if_pos ⟨h1, h2⟩]⟩
theorem ext_two0 (s : ByteArray) (k : Nat) (k1 : 2 * k < s.size) (h : 0 < (s.extract (2 * k) (2 * k + 2)).size) : (s.extract (2 * k) (2 * k + 2))[0]'h = s[2 * k] := by
  show (s.extract (2 * k) (2 * k + 2)).data[0]'(by simpa using h) = s.data[2 * k]
  simp
theorem ext_two1 (s : ByteArray) (k : Nat) (k2 : 2 * k + 1 < s.size) (h : 1 < (s.extract (2 * k) (2 * k + 2)).size) : (s.extract (2 * k) (2 * k + 2))[1]'h = s[2 * k + 1] := by
  show (s.extract (2 * k) (2 * k + 2)).data[1]'(by simpa using h) = s.data[2 * k + 1]
  simp
theorem ownB_below {w W : World} {B : Nat} {v : Value} {P : List UInt8} (h : OwnB w B v P) (hb : Below w.heap.size w W) : OwnB W B v P :=
  World.ownsRow.kept (row := none) h ⟨hb.os, hb.tape, hb.output, hb.size, fun k hk _ => hb.block k hk⟩ (by cases v.ownBlock <;> simp)

set_option maxHeartbeats 3200000 in
theorem runhex_any (s : ByteArray) (w : World) (hs : s.size ≤ 1048576) (hh : hexed s.data.toList = true) :
    Calls Tryd.prog 26 #[.string s] w fun e w' => e = .returned (.string ⟨(unhexL s.data.toList).toArray⟩) ∧ Below w.heap.size w w' := by
  obtain ⟨i0, hi, hz0, hz1, hz2⟩ := info_parts Tryd.info5
  unfold hexed at hh
  rw [Bool.and_eq_true] at hh
  have HD := hidM (all_digTo _ hh.1)
  have hev : s.size % 2 = 0 := by have := hh.2; rw [len_size] at this; exact of_decide_eq_true this
  clear hh
  obtain ⟨m, hm⟩ : ∃ m, s.size = 2 * m := ⟨s.size / 2, by omega⟩
  have HM := hidM hm
  have hm1 : s.size ≤ 2 * m := by omega
  have hm2 : 2 * m ≤ s.size := by omega
  clear hm hev
  have hst := own_empty w
  have hb0 : Below w.heap.size w (w.alloc (.cells #[] 5)) := (Below.refl _ _).alloc (Nat.le_refl _) _
  go_enter Tryd.func26, Tryd.ntmps26
  go_wp2
  go_loopw [3, 4, 5, 7] (fun v i _ _ wr => ∃ (k : Nat) (P : List UInt8), k ≤ m ∧ i = .int .i64 ((2 * k : Nat) : Int) ∧ P = unhexN s.data.toList k ∧ OwnB wr w.heap.size v P ∧ Below w.heap.size w wr) (fun _ i _ _ _ => s.size - (intOf i).toNat)
  case atStart => exact ⟨0, [], Nat.zero_le _, rfl, rfl, hst, hb0⟩
  case round =>
    obtain ⟨k, P, hk, rfl, hP, hownr, hbr⟩ := hrel
    clear hst hb0
    have HP := hidM hP
    have hB := hbr.size
    by_cases hlt : k < m
    · have hl : P.length = k := by rw [hP, unhexN_len]
      have HL := hidM hl
      have k1 : 2 * k < s.size := by omega
      have k2 : 2 * k + 1 < s.size := by omega
      have hts : (s.extract (2 * k) (2 * k + 2)).size = 2 := by simp; omega
      obtain ⟨cap, W, hcv, hcell, hbW⟩ := conv_bytes (s.extract (2 * k) (2 * k + 2)) wr
      rw [hts] at hcv
      obtain ⟨c, hc⟩ : ∃ c, c = s[2 * k] := ⟨_, rfl⟩
      obtain ⟨d, hd⟩ : ∃ d, d = s[2 * k + 1] := ⟨_, rfl⟩
      have gc : s.data.toList.getD (2 * k) 0 = c := by rw [getD_at s _ k1, hc]
      have gd : s.data.toList.getD (2 * k + 1) 0 = d := by rw [getD_at s _ k2, hd]
      have vc := digit_cases c (by rw [← gc]; exact HD.out _ (by rw [len_size]; omega))
      have vd := digit_cases d (by rw [← gd]; exact HD.out _ (by rw [len_size]; omega))
      have HV : Hid (unhexN s.data.toList (k + 1) = P ++ [UInt8.ofNat (hexV c * 16 + hexV d)]) := by
        unfold Hid; rw [unhexN_succ, ← hP]; unfold pairV; rw [gc, gd]
      have hc0 : W.cell? ⟨wr.heap.size, 0, none⟩ = some (.int .u8 (c.toNat : Int)) := by
        rw [hcell 0 (by rw [hts]; omega), hc, ext_two0 s k k1]
      have hc1 : W.cell? ⟨wr.heap.size, 1, none⟩ = some (.int .u8 (d.toNat : Int)) := by
        rw [hcell 1 (by rw [hts]; omega), hd, ext_two1 s k k2]
      have HE : Hid ((UInt8.ofNat (hexV c * 16 + hexV d)).toNat = hexV c * 16 + hexV d) := by
        have b1 := hexV_lt c
        have b2 := hexV_lt d
        unfold Hid; simp; omega
      have hownW := ownB_below hownr hbW
      have hbrW : Below w.heap.size w W := hbr.trans (hbW.mono hB)
      have hBW : w.heap.size ≤ W.heap.size := Nat.le_trans hB hbW.size
      generalize UInt8.ofNat (hexV c * 16 + hexV d) = x at *
      generalize hexV c = x1 at *
      generalize hexV d = x2 at *
      generalize c.toNat = y1 at *
      generalize d.toNat = y2 at *
      clear hc hd gc gd hP hl hcell hts hownr hbr hB hbW
      rcases vc with ⟨a1, a2, a3⟩ | ⟨a1, a2, a3⟩ <;> rcases vd with ⟨b1, b2, b3⟩ | ⟨b1, b2, b3⟩
      all_goals
        have A3 := hidM a3
        have B3 := hidM b3
        clear a3 b3
        go_wp2
        refine wp_loop_rounds 3 ?_
        rw [rounds_succ]
        go_wp2
        rw [rounds_succ]
        go_wp2
        rw [rounds_succ]
        go_wp2_with (first
          | (at_builtin; refine wpList_append_own _ rfl _ _ 44 rfl w.heap.size 5 i0 (.int .u8 0) 1 1 Tryd.underlying44 hi hz0 hz1 hz2 rfl (by decide) _ _ _ rfl (hownW.alloc _) ⟨W.heap.size, 0, none⟩ 1 1 [.int .u8 (x.toNat : Int)] ?d0 rfl ?d1 ?d2 ?d3 ?d4 ?d5 ?_))
        case d0 => rfl
        case d1 => exact cell_new_eq W _ _ (val_int (by rw [HE.out, A3.out, B3.out]; omega))
        case d2 => intro u hu; simp at hu; subst hu; rfl
        case d3 => have := HL.out; unfold maxLen; omega
        case d4 => have := HL.out; omega
        case d5 => simp; omega
        intro v' w2 hown' hgrow _
        have HO := hidM (own_push hown')
        have HB := hidM (below_push hownW hbrW hBW hgrow)
        clear hown' hgrow hownW hbrW hBW
        go_wp2
        go_roundw
        case rel => exact ⟨k + 1, P ++ [x], by omega, by go_num, HV.out.symm, HO.out, HB.out⟩
        case measure => simp [intOf]; omega
    · have HF : Hid (unhexL s.data.toList = P) := by
        unfold Hid unhexL; rw [hP, len_size, show s.size / 2 = k by omega]
      have hge : ¬ 2 * (k : Int) + 1 < (s.size : Int) := by omega
      have hconv := conv_own hownr
      have HB := hidM hbr
      clear hownr hbr hB hP
      go_wp2
      go_ret
      exact ⟨by rw [HF.out]; rfl, HB.out⟩
end Go.Proofs.YtbodjopdhciaeaaDoor
