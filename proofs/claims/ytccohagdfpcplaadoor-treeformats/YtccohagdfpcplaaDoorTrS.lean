/-
  Walks of the document's tree: Name, mode.
-/
import Derived.Test.YtccohagdfpcplaaDoorTrR
namespace Go.Proofs.YtccohagdfpcplaaDoor
open Go.RowKit

theorem low_step (l : List UInt8) (k : Nat) (h : k < l.length) : (l.take (k + 1)).map lowC = (l.take k).map lowC ++ [lowC (l.getD k 0)] := by
  rw [List.take_succ_eq_append_getElem h, List.map_append, List.getD_eq_getElem?_getD, List.getElem?_eq_getElem h]
  rfl
theorem low_val (c : UInt8) : (lowC c).toNat = if 65 ≤ c.toNat ∧ c.toNat ≤ 90 then c.toNat + 32 else c.toNat := by
  unfold lowC
  split
  · rw [UInt8.toNat_add]
    have : (32 : UInt8).toNat = 32 := rfl
    omega
  · rfl
set_option maxHeartbeats 2000000 in
set_option maxRecDepth 100000 in
theorem rname_any (s : ByteArray) (w : World) (hs : s.size ≤ 140737488355328) : Calls Tryd.prog 16 #[.string s] w fun e w' => e = .returned (.bool (nameB s.data.toList)) ∧ Below w.heap.size w w' := by
  have HLen := hidM (len_size s)
  have HD : Hid (s.toList = s.data.toList) := Lib.toList_data s
  have HF1 := hidM (fun V => rfind_any s 47 V hs)
  have HF0 := hidM (fun V => rfind_any s 0 V hs)
  have h47 := find_mem s.data.toList 47
  have h00 := find_mem s.data.toList 0
  have HB0 : Hid (Below w.heap.size w (w.alloc (.cells #[] 5))) := (Below.refl _ w).alloc (Nat.le_refl _) _
  by_cases k1 : s.size < 1
  · as_aux_lemma =>
    have HR : Hid (nameB s.data.toList = false) := by unfold Hid nameB; rw [HLen.out]; exact decide_eq_false (fun h => by omega)
    have g1 : (s.size : Int) < 1 := by omega
    clear HF1 HF0 h47 h00
    go_enter Tryd.func16, Tryd.ntmps16
    go_wp2
    go_ret
    exact ⟨by rw [HR.out]; rfl, Below.refl _ _⟩
  have g1 : ¬ (s.size : Int) < 1 := by omega
  by_cases k2 : 100 < s.size
  · as_aux_lemma =>
    have HR : Hid (nameB s.data.toList = false) := by unfold Hid nameB; rw [HLen.out]; exact decide_eq_false (fun h => by omega)
    have g2 : (100 : Int) < (s.size : Int) := by omega
    clear HF1 HF0 h47 h00
    go_enter Tryd.func16, Tryd.ntmps16
    go_wp2
    go_ret
    exact ⟨by rw [HR.out]; rfl, Below.refl _ _⟩
  have g2 : ¬ (100 : Int) < (s.size : Int) := by omega
  cases k3 : s.toList == [46] with
  | true =>
    as_aux_lemma =>
    have HR : Hid (nameB s.data.toList = false) := by unfold Hid nameB; exact decide_eq_false (fun h => h.2.2.2.2.1 (by rw [← HD.out]; exact eq_of_beq k3))
    clear HF1 HF0 h47 h00
    go_enter Tryd.func16, Tryd.ntmps16
    go_wp2
    go_ret
    exact ⟨by rw [HR.out]; rfl, Below.refl _ _⟩
  | false =>
  cases k4 : s.toList == [46, 46] with
  | true =>
    as_aux_lemma =>
    have HR : Hid (nameB s.data.toList = false) := by unfold Hid nameB; exact decide_eq_false (fun h => h.2.2.2.2.2.1 (by rw [← HD.out]; exact eq_of_beq k4))
    clear HF1 HF0 h47 h00
    go_enter Tryd.func16, Tryd.ntmps16
    go_wp2
    go_ret
    exact ⟨by rw [HR.out]; rfl, Below.refl _ _⟩
  | false =>
  have z47 : (((47 : UInt8).toNat : Int)) = 47 := rfl
  have z00 : (((0 : UInt8).toNat : Int)) = 0 := rfl
  rw [z47] at HF1
  rw [z00] at HF0
  clear z47 z00
  rcases h47 with ⟨h47, f47⟩ | ⟨h47, f47⟩
  · as_aux_lemma =>
    have HR : Hid (nameB s.data.toList = false) := by unfold Hid nameB; exact decide_eq_false (fun h => h.2.2.1 h47)
    clear HF0 h00 h47
    generalize findI s.data.toList 47 = q at *
    go_enter Tryd.func16, Tryd.ntmps16
    go_wp2_with fail
    refine (HF1.out _).mono ?_
    rintro _ w1 ⟨rfl, hw1⟩
    rw [hw1]
    go_wp2
    go_ret
    exact ⟨by rw [HR.out]; rfl, Below.refl _ _⟩
  rw [f47] at HF1
  rcases h00 with ⟨h00, f00⟩ | ⟨h00, f00⟩
  · as_aux_lemma =>
    have HR : Hid (nameB s.data.toList = false) := by unfold Hid nameB; exact decide_eq_false (fun h => h.2.2.2.1 h00)
    clear h47 f47 h00
    generalize findI s.data.toList 0 = q at *
    go_enter Tryd.func16, Tryd.ntmps16
    go_wp2_with fail
    refine (HF1.out _).mono ?_
    rintro _ w1 ⟨rfl, hw1⟩
    rw [hw1]
    clear hw1
    go_wp2_with fail
    refine (HF0.out _).mono ?_
    rintro _ w2 ⟨rfl, hw2⟩
    rw [hw2]
    go_wp2
    go_ret
    exact ⟨by rw [HR.out]; rfl, Below.refl _ _⟩
  rw [f00] at HF0
  have HR0 : Hid (nameB s.data.toList = !((⟨(s.data.toList.map lowC).toArray⟩ : ByteArray).toList == [46, 103, 105, 116])) := by
    unfold Hid nameB
    rw [Lib.toList_data]
    show _ = !(s.data.toList.map lowC == [46, 103, 105, 116])
    have e3 : s.data.toList ≠ [46] := fun e => by rw [HD.out, e] at k3; exact absurd k3 (by decide)
    have e4 : s.data.toList ≠ [46, 46] := fun e => by rw [HD.out, e] at k4; exact absurd k4 (by decide)
    by_cases hg : s.data.toList.map lowC = [46, 103, 105, 116]
    · rw [decide_eq_false (fun h => h.2.2.2.2.2.2 hg), hg]; rfl
    · rw [decide_eq_true ⟨by rw [HLen.out]; omega, by rw [HLen.out]; omega, h47, h00, e3, e4, hg⟩, beq_eq_false_iff_ne.2 hg]; rfl
  clear f47 f00 h47 h00
  obtain ⟨i0, hi, hz0, hz1, hz2⟩ := info_parts Tryd.info5
  have hst := own_empty w
  have HAT : Hid (∀ m (h : m < s.size), s.data.toList.getD m 0 = s[m]) := fun m h => getD_at s m h
  have HST : Hid (∀ k, k < s.size → (s.data.toList.take (k + 1)).map lowC = (s.data.toList.take k).map lowC ++ [lowC (s.data.toList.getD k 0)]) := fun k hk => low_step _ k (by rw [HLen.out]; exact hk)
  have HTK : Hid (s.data.toList.take s.size = s.data.toList) := by unfold Hid; rw [← HLen.out]; exact List.take_length
  generalize nameB s.data.toList = RB at *
  have hsz : s.size ≤ 100 := by omega
  generalize s.data.toList = l at *
  clear k1 k2 HD
  go_enter Tryd.func16, Tryd.ntmps16
  go_wp2_with fail
  refine (HF1.out _).mono ?_
  rintro _ w1 ⟨rfl, hw1⟩
  rw [hw1]
  clear hw1 HF1
  go_wp2_with fail
  refine (HF0.out _).mono ?_
  rintro _ w2 ⟨rfl, hw2⟩
  rw [hw2]
  clear hw2 HF0
  go_wp2
  go_loopw [3, 4, 5] (fun v i _ wr => ∃ (k : Nat) (P : List UInt8), k ≤ s.size ∧ i = .int .i64 (k : Int) ∧ P = (l.take k).map lowC ∧ OwnB wr w.heap.size v P ∧ Below w.heap.size w wr) (fun _ i _ _ => s.size - (intOf i).toNat)
  case atStart => exact ⟨0, [], Nat.zero_le _, rfl, rfl, hst, HB0.out⟩
  case round =>
    obtain ⟨k, P, hk, rfl, hP, hownr, hbr⟩ := hrel
    clear hst HB0
    have hB := hbr.size
    by_cases hlt : k < s.size
    · have hl : P.length = k := by rw [hP, List.length_map, List.length_take, HLen.out]; omega
      have HL := hidM hl
      have HV : Hid ((l.take (k + 1)).map lowC = P ++ [lowC s[k]]) := by unfold Hid; rw [HST.out k hlt, HAT.out k hlt, ← hP]
      have hlv := low_val s[k]
      obtain ⟨x, hx⟩ : ∃ x, x = lowC s[k] := ⟨_, rfl⟩
      rw [← hx] at HV hlv
      have HLV := hidM hlv
      have hxb := x.toNat_lt
      have hsb := (s[k]).toNat_lt
      clear hP hl hlv hx HAT HST HTK
      have key : ∀ y : Int, y = (x.toNat : Int) → True := fun _ _ => trivial
      clear key
      by_cases a1 : 65 ≤ s[k].toNat
      · by_cases a2 : s[k].toNat ≤ 90
        · as_aux_lemma =>
          have d1 : decide ((65 : Int) ≤ (s[k].toNat : Int)) = true := by simp; omega
          have d2 : decide ((s[k].toNat : Int) ≤ (90 : Int)) = true := by simp; omega
          have e1 : (s[k].toNat : Int) + 32 = (x.toNat : Int) := by have := HLV.out; rw [if_pos ⟨a1, a2⟩] at this; omega
          clear a1 a2 HLV
          go_wp2_with (first
            | (at_builtin; refine wpList_append_own _ rfl _ _ 43 rfl w.heap.size 5 i0 (.int .u8 0) 1 1 Tryd.underlying43 hi hz0 hz1 hz2 rfl (by decide) _ _ _ rfl (hownr.alloc _) ⟨wr.heap.size, 0, none⟩ 1 1 [.int .u8 (x.toNat : Int)] ?d0 rfl ?d1 ?d2 ?d3 ?d4 ?d5 ?_))
          case d0 => rfl
          case d1 => exact cell_new_eq wr _ _ rfl
          case d2 => intro u hu; simp at hu; subst hu; rfl
          case d3 => have := HL.out; unfold maxLen; omega
          case d4 => have := HL.out; omega
          case d5 => simp; omega
          intro v' w2 hown' hgrow _
          have HO := hidM (own_push hown')
          have HB := hidM (below_push hownr hbr hB hgrow)
          clear hown' hgrow hownr hbr hB
          go_wp2
          go_roundw
          case rel => exact ⟨k + 1, P ++ [x], by omega, by go_num, HV.out.symm, HO.out, HB.out⟩
          case measure => simp [intOf]; omega
        · as_aux_lemma =>
          have d1 : decide ((65 : Int) ≤ (s[k].toNat : Int)) = true := by simp; omega
          have d2 : decide ((s[k].toNat : Int) ≤ (90 : Int)) = false := by simp; omega
          have HE : Hid ((s[k].toNat : Int) = (x.toNat : Int)) := by have := HLV.out; rw [if_neg (fun h => a2 h.2)] at this; unfold Hid; omega
          clear a1 a2 HLV
          go_wp2_with (first
            | (at_builtin; refine wpList_append_own _ rfl _ _ 43 rfl w.heap.size 5 i0 (.int .u8 0) 1 1 Tryd.underlying43 hi hz0 hz1 hz2 rfl (by decide) _ _ _ rfl (hownr.alloc _) ⟨wr.heap.size, 0, none⟩ 1 1 [.int .u8 (x.toNat : Int)] ?d0 rfl ?d1 ?d2 ?d3 ?d4 ?d5 ?_))
          case d0 => rfl
          case d1 => exact cell_new_eq wr _ _ (val_int HE.out)
          case d2 => intro u hu; simp at hu; subst hu; rfl
          case d3 => have := HL.out; unfold maxLen; omega
          case d4 => have := HL.out; omega
          case d5 => simp; omega
          intro v' w2 hown' hgrow _
          have HO := hidM (own_push hown')
          have HB := hidM (below_push hownr hbr hB hgrow)
          clear hown' hgrow hownr hbr hB
          go_wp2
          go_roundw
          case rel => exact ⟨k + 1, P ++ [x], by omega, by go_num, HV.out.symm, HO.out, HB.out⟩
          case measure => simp [intOf]; omega
      · as_aux_lemma =>
        have d1 : decide ((65 : Int) ≤ (s[k].toNat : Int)) = false := by simp; omega
        have HE : Hid ((s[k].toNat : Int) = (x.toNat : Int)) := by have := HLV.out; rw [if_neg (fun h => a1 h.1)] at this; unfold Hid; omega
        clear a1 HLV
        go_wp2_with (first
          | (at_builtin; refine wpList_append_own _ rfl _ _ 43 rfl w.heap.size 5 i0 (.int .u8 0) 1 1 Tryd.underlying43 hi hz0 hz1 hz2 rfl (by decide) _ _ _ rfl (hownr.alloc _) ⟨wr.heap.size, 0, none⟩ 1 1 [.int .u8 (x.toNat : Int)] ?d0 rfl ?d1 ?d2 ?d3 ?d4 ?d5 ?_))
        case d0 => rfl
        case d1 => exact cell_new_eq wr _ _ (val_int HE.out)
        case d2 => intro u hu; simp at hu; subst hu; rfl
        case d3 => have := HL.out; unfold maxLen; omega
        case d4 => have := HL.out; omega
        case d5 => simp; omega
        intro v' w2 hown' hgrow _
        have HO := hidM (own_push hown')
        have HB := hidM (below_push hownr hbr hB hgrow)
        clear hown' hgrow hownr hbr hB
        go_wp2
        go_roundw
        case rel => exact ⟨k + 1, P ++ [x], by omega, by go_num, HV.out.symm, HO.out, HB.out⟩
        case measure => simp [intOf]; omega
    · as_aux_lemma =>
      have hPl : P = l.map lowC := by rw [hP, show k = s.size by omega, HTK.out]
      have hconv := conv_own hownr
      rw [hPl] at hconv
      have HB := hidM hbr
      clear hownr hbr hB hP hPl HAT HST HTK
      generalize (⟨(l.map lowC).toArray⟩ : ByteArray) = TX at *
      cases hq : TX.toList == [46, 103, 105, 116] with
      | true =>
        have HR : Hid (RB = false) := by unfold Hid; rw [HR0.out, hq]; rfl
        clear HR0
        go_wp2
        go_ret
        exact ⟨by rw [HR.out]; rfl, HB.out⟩
      | false =>
        have HR : Hid (RB = true) := by unfold Hid; rw [HR0.out, hq]; rfl
        clear HR0
        go_wp2
        go_ret
        exact ⟨by rw [HR.out]; rfl, HB.out⟩
end Go.Proofs.YtccohagdfpcplaaDoor
