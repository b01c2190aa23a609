/-
  Walks: base 64, and the answers that the document fixes (awake).
-/
import Derived.Test.YtbodjopdhciaeaaDoorWalkD
import Derived.Test.YtbodjopdhciaeaaDoorB64
namespace Go.Proofs.YtbodjopdhciaeaaDoor
open Go.RowKit

theorem cell_new_eq (w : World) (v v' : Value) (h : v = v') : ∀ j u, [v'][j]? = some u → (w.alloc (.cells #[v] 5)).cell? ((⟨w.heap.size, 0, none⟩ : Addr).add j) = some u := by
  subst h; exact cell_new_one w v

set_option maxHeartbeats 800000 in
theorem group_any (v : Value) (g : ByteArray) (P : List UInt8) (B : Nat) (w : World) (h1 : 1 ≤ g.size) (h2 : g.size ≤ 3) (hP : P.length ≤ 1099511627776)
    (hown : OwnB w B v P) (hB : B ≤ w.heap.size) :
    Calls Tryd.prog 37 #[v, .string g] w fun e w' => ∃ v', e = .returned v' ∧ OwnB w' B v' (P ++ g64 g.data.toList 4) ∧ Below B w w' := by
  obtain ⟨i0, hi, hz0, hz1, hz2⟩ := info_parts Tryd.info5
  obtain ⟨n, hn⟩ : ∃ n, n = gNum g.data.toList := ⟨_, rfl⟩
  have hlen : g.data.toList.length = g.size := by simp
  have hnl : n < 16777216 := by rw [hn]; exact gNum_lt _ (by omega) (by omega)
  have HN : Hid (IntKind.u64.wrap ((numB g.data.toList : Int) * 2 ^ (8 * (3 - g.size))) = (n : Int)) := by
    unfold Hid
    have := wrapN n hnl
    rw [← this, hn]
    unfold gNum
    rw [hlen]
    simp
  have HG := hidM hn
  have HLEN := hidM hlen
  clear hn hlen
  go_enter Tryd.func37, Tryd.ntmps37
  go_wp2_with fail
  refine (fromBig_any g w (by unfold maxLen; omega)).mono ?_
  rintro e w1 ⟨rfl, rfl⟩
  generalize numB g.data.toList = x at *
  go_wp2
  rw [HN.out]
  clear HN
  go_loopw [0, 6] (fun u i wr => ∃ (j : Nat), j ≤ 4 ∧ i = .int .i64 j ∧ OwnB wr B u (P ++ g64 g.data.toList j) ∧ Below B w1 wr) (fun _ i _ => 4 - (intOf i).toNat)
  case atStart => exact ⟨0, by omega, rfl, by simpa [g64] using hown, Below.refl _ _⟩
  case round =>
    obtain ⟨j, hj, rfl, hownr, hbr⟩ := hrel
    clear hown
    have hBr := hbr.size
    by_cases hj4 : j < 4
    · have HL : Hid ((P ++ g64 g.data.toList j).length = P.length + j) := by unfold Hid; rw [List.length_append, g64_len]
      by_cases hjg : g.size < j
      · have HD : Hid (g64 g.data.toList (j + 1) = g64 g.data.toList j ++ [61]) := by
          unfold Hid; rw [g64_succ]; unfold gDigit; rw [if_pos (by rw [HLEN.out]; exact hjg)]
        generalize g64 g.data.toList j = Q at *
        go_wp2_with (first
          | (at_builtin; refine wpList_append_own _ rfl _ _ 44 rfl B 5 i0 (.int .u8 0) 1 1 Tryd.underlying44 hi hz0 hz1 hz2 rfl (by decide) _ _ _ rfl (hownr.alloc _) ⟨wr.heap.size, 0, none⟩ 1 1 [.int .u8 ((61 : UInt8).toNat : Int)] ?c0 rfl ?c1 ?c2 ?c3 ?c4 ?c5 ?_))
        case c0 => rfl
        case c1 => exact cell_new_one wr _
        case c2 => intro u hu; simp at hu; subst hu; rfl
        case c3 => have := HL.out; unfold maxLen; omega
        case c4 => have := HL.out; omega
        case c5 => simp; omega
        intro v' w2 hown' hgrow _
        have HO : Hid (OwnB w2 B v' ((P ++ Q) ++ [61])) := own_push (by rw [List.length_append]; exact hown')
        have HB := hidM (below_push hownr hbr (by omega) hgrow)
        clear hown' hgrow hownr hbr hB hBr
        go_wp2
        go_roundw
        case rel => exact ⟨j + 1, by omega, by go_num, by rw [HD.out, ← List.append_assoc]; exact HO.out, HB.out⟩
        case measure => simp [intOf]; omega
      · have h18 : 6 * j ≤ 18 := by omega
        obtain ⟨q, hq⟩ : ∃ q, q = n / 2 ^ (18 - 6 * j) % 64 := ⟨_, rfl⟩
        have hq1 : q < 64 := by rw [hq]; exact Nat.mod_lt _ (by decide)
        have hq2 : bits .and .u64 ((n : Int) / 2 ^ (18 - 6 * j)) 63 = (q : Int) := by rw [hq]; exact pick64 n _ hnl
        have HD : Hid (g64 g.data.toList (j + 1) = g64 g.data.toList j ++ [alphaN q]) := by
          unfold Hid; rw [g64_succ]; unfold gDigit; rw [if_neg (by rw [HLEN.out]; exact hjg), ← HG.out, ← hq]
        clear hq
        generalize g64 g.data.toList j = Q at *
        go_wp2_with (first
          | (at_builtin; refine wpList_append_own _ rfl _ _ 44 rfl B 5 i0 (.int .u8 0) 1 1 Tryd.underlying44 hi hz0 hz1 hz2 rfl (by decide) _ _ _ rfl (hownr.alloc _) ⟨wr.heap.size, 0, none⟩ 1 1 [.int .u8 ((alphaN q).toNat : Int)] ?d0 rfl ?d1 ?d2 ?d3 ?d4 ?d5 ?_))
        case d0 => rfl
        case d1 => exact cell_new_eq wr _ _ (val_int (congrArg (fun c : UInt8 => (c.toNat : Int)) (alpha_at q hq1)))
        case d2 => intro u hu; simp at hu; subst hu; rfl
        case d3 => have := HL.out; unfold maxLen; omega
        case d4 => have := HL.out; omega
        case d5 => simp; omega
        intro v' w2 hown' hgrow _
        have HO : Hid (OwnB w2 B v' ((P ++ Q) ++ [alphaN q])) := own_push (by rw [List.length_append]; exact hown')
        have HB := hidM (below_push hownr hbr (by omega) hgrow)
        clear hown' hgrow hownr hbr hB hBr
        go_wp2
        go_roundw
        case rel => exact ⟨j + 1, by omega, by go_num, by rw [HD.out, ← List.append_assoc]; exact HO.out, HB.out⟩
        case measure => simp [intOf]; omega
    · have h4 : j = 4 := by omega
      subst h4
      have HO := hidM hownr
      have HB := hidM hbr
      clear hownr hbr
      go_wp2
      go_ret
      exact ⟨_, rfl, HO.out, HB.out⟩

def strLen : Value → Nat | .string s => s.size | _ => 0

theorem ext_front (t : ByteArray) (k : Nat) : (t.extract 0 k).data.toList = t.data.toList.take k := by simp
theorem ext_back (t : ByteArray) (k : Nat) : (t.extract k t.size).data.toList = t.data.toList.drop k := by
  simp
  apply List.take_of_length_le
  simp

set_option maxHeartbeats 800000 in
theorem base64_any (s : ByteArray) (w : World) (hs : s.size ≤ 1048576) :
    Calls Tryd.prog 22 #[.string s] w fun e w' => e = .returned (.string ⟨(b64 s.data.toList).toArray⟩) ∧ Below w.heap.size w w' := by
  obtain ⟨i0, hi, hz0, hz1, hz2⟩ := info_parts Tryd.info5
  go_enter Tryd.func22, Tryd.ntmps22
  go_wp2_with (at_make; refine wpList_make_own _ rfl _ _ 44 rfl w.heap.size 5 i0 (.int .u8 0) 1 Tryd.underlying44 hi hz0 hz1 .i64 .i64 _ ((s.size + 2) / 3 * 4) rfl rfl ?c0 ?c1 ?c2 ?c3 ?_)
  case c0 => omega
  case c1 => rw [hz2]; omega
  case c2 => unfold maxLen; omega
  case c3 => exact Nat.le_refl _
  intro w1 hown hgrow
  have hbel : Below w.heap.size w w1 := (Below.refl _ _).grown hgrow (Nat.le_refl _) (by intro k hk; cases hk)
  have hown2 : OwnB w1 w.heap.size (.slice (some ⟨w.heap.size, 0, none⟩) 0 ((s.size + 2) / 3 * 4)) [] := hown
  clear hown hgrow
  go_wp2
  go_loopw [0, 3] (fun tv v wr => ∃ (t : ByteArray) (P : List UInt8), tv = .string t ∧ t.size ≤ s.size ∧ P.length + 4 * t.size ≤ 4 * s.size ∧ b64 s.data.toList = P ++ b64 t.data.toList ∧ OwnB wr w.heap.size v P ∧ Below w.heap.size w wr) (fun tv _ _ => strLen tv)
  case atStart => exact ⟨s, [], rfl, Nat.le_refl _, by simp, rfl, hown2, hbel⟩
  case round =>
    obtain ⟨t, P, rfl, ht, hP, hE, hownr, hbr⟩ := hrel
    clear hown2 hbel
    have HE := hidM hE
    have HB := hidM hbr
    have hBr := hbr.size
    clear hE hbr
    by_cases h3 : 3 ≤ t.size
    · go_wp2_with fail
      refine (group_any u3 (t.extract 0 3) P w.heap.size wr (by simp; omega) (by simp; omega) (by omega) hownr hBr).mono ?_
      rintro e w2 ⟨v', rfl, ho, hb⟩
      have HO := hidM ho
      have HB2 : Hid (Below w.heap.size w w2) := HB.out.trans hb
      have HE2 : Hid (b64 s.data.toList = (P ++ g64 (t.extract 0 3).data.toList 4) ++ b64 (t.extract 3 t.size).data.toList) := by
        unfold Hid; rw [HE.out, b64_three _ (by simp; omega), ext_front, ext_back, List.append_assoc]
      have HP2 : Hid ((P ++ g64 (t.extract 0 3).data.toList 4).length + 4 * (t.size - 3) ≤ 4 * s.size) := by unfold Hid; rw [List.length_append, g64_len]; omega
      clear ho hb hownr hBr
      generalize P ++ g64 (t.extract 0 3).data.toList 4 = P2 at *
      go_wp2
      go_roundw
      case rel => exact ⟨_, P2, rfl, by simp; omega, by have := HP2.out; simp; omega, HE2.out, HO.out, HB2.out⟩
      case measure => simp [strLen]; omega
    · by_cases h0 : 0 < t.size
      · go_wp2_with fail
        refine (group_any u3 t P w.heap.size wr (by omega) (by omega) (by omega) hownr hBr).mono ?_
        rintro e w2 ⟨v', rfl, ho, hb⟩
        have HB2 : Hid (Below w.heap.size w w2) := HB.out.trans hb
        have HE2 : Hid (b64 s.data.toList = P ++ g64 t.data.toList 4) := by
          unfold Hid; rw [HE.out, b64_short _ (by simp; omega) (by simp; omega)]
        have hconv := conv_own ho
        clear ho hb hownr hBr
        generalize P ++ g64 t.data.toList 4 = P2 at *
        go_wp2
        go_ret
        exact ⟨by rw [HE2.out]; rfl, HB2.out⟩
      · have HE2 : Hid (b64 s.data.toList = P) := by
          have hz : t.data.toList = [] := List.eq_nil_of_length_eq_zero (by rw [show t.data.toList.length = t.size by simp]; omega)
          unfold Hid; rw [HE.out, hz, b64_nil, List.append_nil]
        have hconv := conv_own hownr
        clear hownr hBr
        go_wp2
        go_ret
        exact ⟨by rw [HE2.out]; rfl, HB.out⟩

/-! ### awake -/
theorem aw_crc : crcW 0 [49, 50, 51, 52, 53, 54, 55, 56, 57] = 3421780262 := by decide +kernel
theorem aw_adler : adSum [87, 105, 107, 105, 112, 101, 100, 105, 97] = 300286872 := by decide +kernel
theorem aw_b64 : b64 [102, 111] = [90, 109, 56, 61] := by decide +kernel

set_option maxHeartbeats 800000 in
theorem awake_any (w : World) (ht : Tab w) :
    Calls Tryd.prog 10 #[] w fun e w' => e = .returned (.bool true) ∧ Below w.heap.size w w' := by
  have HT := hidM ht
  clear ht
  go_enter Tryd.func10, Tryd.ntmps10
  go_wp2_with fail
  refine (crc32_any _ w (by unfold maxLen; decide) HT.out).mono ?_
  rintro e w1 ⟨rfl, hb1⟩
  rw [show (⟨#[49, 50, 51, 52, 53, 54, 55, 56, 57]⟩ : ByteArray).data.toList = [49, 50, 51, 52, 53, 54, 55, 56, 57] from rfl, aw_crc]
  have HB1 := hidM hb1
  clear hb1
  go_wp2_with fail
  refine (adler32_any _ w1 (by unfold maxLen; decide)).mono ?_
  rintro e w2 ⟨rfl, hb2⟩
  rw [show (⟨#[87, 105, 107, 105, 112, 101, 100, 105, 97]⟩ : ByteArray).data.toList = [87, 105, 107, 105, 112, 101, 100, 105, 97] from rfl, aw_adler]
  have HB2 : Hid (Below w.heap.size w w2) := HB1.out.trans (hb2.mono HB1.out.size)
  clear hb2
  go_wp2_with fail
  refine (base64_any _ w2 (by decide)).mono ?_
  rintro e w3 ⟨rfl, hb3⟩
  rw [show (⟨#[102, 111]⟩ : ByteArray).data.toList = [102, 111] from rfl, aw_b64]
  have HB3 : Hid (Below w.heap.size w w3) := HB2.out.trans (hb3.mono HB2.out.size)
  clear hb3
  go_wp2
  go_ret
  exact ⟨rfl, HB3.out⟩
end Go.Proofs.YtbodjopdhciaeaaDoor
