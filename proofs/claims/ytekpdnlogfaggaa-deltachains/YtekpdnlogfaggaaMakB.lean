/-
  appendInserts.
-/
import Derived.Test.YtekpdnlogfaggaaMakA
import Derived.Lib.AppendStr
namespace Go.Proofs.Ytekpdnlogfaggaa
open Go.RowKit

/-- Inserts of a text. -/
def insE (l : List UInt8) : List UInt8 := if _h : l = [] then [] else UInt8.ofNat (min l.length 127) :: (l.take 127 ++ insE (l.drop 127))
termination_by l.length
decreasing_by
  have : 0 < l.length := List.length_pos_iff.2 _h
  rw [List.length_drop]; omega
theorem insE_nil : insE [] = [] := by rw [insE, dif_pos rfl]
theorem insE_some (l : List UInt8) (h : l ≠ []) : insE l = UInt8.ofNat (min l.length 127) :: (l.take 127 ++ insE (l.drop 127)) := by rw [insE, dif_neg h]
theorem ex_list (s : ByteArray) (a b : Nat) : (s.extract a b).data.toList = (s.data.toList.drop a).take (b - a) := by
  simp [ByteArray.data_extract]
theorem insE_step (T : ByteArray) (n : Nat) (h0 : 0 < T.size) (hn : n = min T.size 127) :
    insE T.data.toList = [UInt8.ofNat n] ++ (T.extract 0 n).data.toList ++ insE (T.extract n T.size).data.toList := by
  have hl : T.data.toList.length = T.size := by simp
  have hne : T.data.toList ≠ [] := by intro h; rw [h] at hl; simp at hl; omega
  rw [insE_some _ hne, hl, ex_list, ex_list, ← hn]
  have e1 : (T.data.toList.drop 0).take (n - 0) = T.data.toList.take 127 := by
    rw [List.drop_zero, Nat.sub_zero]
    by_cases h : T.size ≤ 127
    · rw [List.take_of_length_le (by omega), List.take_of_length_le (by omega)]
    · rw [show n = 127 by omega]
  have e2 : (T.data.toList.drop n).take (T.size - n) = T.data.toList.drop 127 := by
    rw [List.take_of_length_le (by rw [List.length_drop]; omega)]
    by_cases h : T.size ≤ 127
    · rw [List.drop_of_length_le (by omega), List.drop_of_length_le (by omega)]
    · rw [show n = 127 by omega]
  rw [e1, e2]
  simp

set_option maxHeartbeats 1000000 in
theorem inserts_any (B : Nat) (v : Value) (l : List UInt8) (t : ByteArray) (w : World) (h : OwnB w B v l) (hB : B ≤ w.heap.size) (hl : l.length ≤ 1000000) (ht : t.size ≤ 1000000) :
    Calls Try.prog 25 #[v, .string t] w fun e w' => PutPost B w (l ++ insE t.data.toList) e w' := by
  obtain ⟨i0, hi, hz0, hz1, hz2⟩ := info_parts Try.info5
  go_enter Try.func25, Try.ntmps25
  go_wp2
  go_loopw [0, 1, 5] (fun x y _ wr => ∃ (T : ByteArray) (l' : List UInt8), T.size ≤ 1000000 ∧ l'.length + 2 * T.size ≤ 3000000 ∧ y = .string T ∧ OwnB wr B x l' ∧ Below B w wr ∧ l ++ insE t.data.toList = l' ++ insE T.data.toList) (fun _ y _ _ => match y with | .string T => T.size | _ => 0)
  case atStart => exact ⟨t, l, ht, by omega, rfl, h, Below.refl _ _, rfl⟩
  case round =>
    obtain ⟨T, l', hT, hl', rfl, hO, hBl, hE⟩ := hrel
    have HO : Hid (wr.ownsRow B 5 1 u0 l'.length (Lib.byteCells l')) := hO
    have HB := hidM hBl
    have HE := hidM hE
    have hsz : B ≤ wr.heap.size := Nat.le_trans hB hBl.size
    clear hO hBl hE h
    by_cases h0 : 0 < T.size
    · have h0' : (0 : Int) < T.size := by omega
      obtain ⟨n, hn⟩ : ∃ n, n = min T.size 127 := ⟨_, rfl⟩
      have hn' : min (T.size : Int) 127 = (n : Int) := by omega
      have n256 : n < 256 := by omega
      have nT : n ≤ T.size := by omega
      have n0 : 0 < n := by omega
      have HE2 := hidM (show l ++ insE t.data.toList = ((l' ++ [UInt8.ofNat n]) ++ (T.extract 0 n).data.toList) ++ insE (T.extract n T.size).data.toList by
        rw [HE.out, insE_step T n h0 hn]; simp)
      clear hn HE
      go_wp2_with (first
        | (at_builtin; go_loud (refine wpList_append_own _ rfl _ _ 49 rfl B 5 i0 (.int .u8 0) 1 1 Try.underlying49 hi hz0 hz1 hz2 rfl (by decide) _ _ _ rfl (World.ownsRow.alloc HO.out _) ⟨wr.heap.size, 0, none⟩ 1 1 [.int .u8 (n : Int)] ?c0 rfl ?c1 ?c2 ?c3 ?c4 ?c5 ?_)))
      try (case c0 => rfl)
      try (case c1 => exact new_byte wr _)
      case c2 => first | rfl | (intro u hu; simp at hu; subst hu; rfl)
      case c3 => unfold maxLen; skip; first | omega | (simp; omega)
      case c4 => skip; first | omega | (simp; omega)
      case c5 => have := hsz; first | omega | (simp; omega)
      intro v' w6 hown hgr _
      have HB6 := hidM ((HB.out.alloc hsz _).grown hgr (by have := hsz; simp; omega) (fun q hq => (World.ownsRow.lt HO.out q hq).1))
      have HO6 := hidM (ownB_push (l := l') (n := n) n256 hown)
      clear hown hgr
      have HO7 : Hid (w6.ownsRow B 5 1 v' (l'.length + 1) (Lib.byteCells (l' ++ [UInt8.ofNat n]))) := by
        have := HO6.out; unfold OwnB at this; rw [List.length_append] at this; exact this
      have hsz6 : B ≤ w6.heap.size := Nat.le_trans hB HB6.out.size
      have hx1 : (T.extract 0 n).size = n := by simp only [ByteArray.size_extract]; omega
      have hx2 : (T.extract n T.size).size = T.size - n := by simp only [ByteArray.size_extract]; omega
      clear HO HB HO6
      go_upto_region 4 with fail
      go_wp2_with (first
        | (at_builtin; go_loud (refine Lib.wpList_append_own_string _ rfl _ _ 49 9 rfl B 5 i0 Try.underlying49 Try.underlying9 hi hz0 hz1 hz2 _ _ _ rfl HO7.out (T.extract 0 n) rfl ?c1 ?c2 ?c3 ?_)))
      case c1 => unfold maxLen; rw [hx1]; omega
      case c2 => rw [hx1]; omega
      case c3 => exact hsz6
      intro v2 w7 hown hgr _
      have HB7 := hidM (HB6.out.grown hgr hsz6 (fun q hq => (World.ownsRow.lt HO7.out q hq).1))
      have HO8 := hidM (ownB_push_str (l := l' ++ [UInt8.ofNat n]) (s := T.extract 0 n) (by rw [List.length_append, hx1]; exact hown))
      clear hown hgr HO7 HB6
      go_wp2
      refine ⟨⟨T.extract n T.size, (l' ++ [UInt8.ofNat n]) ++ (T.extract 0 n).data.toList, by rw [hx2]; omega, ?_, rfl, HO8.out, HB7.out, HE2.out⟩, ?_⟩
      · have : (T.extract 0 n).data.toList.length = n := by rw [← hx1]; simp
        rw [List.length_append, List.length_append, this, hx2]; simp; omega
      · simp only [hx2]; omega
    · have h0' : ¬ (0 : Int) < T.size := by omega
      have HE2 := hidM (show l ++ insE t.data.toList = l' by
        have hT0 : T.data.toList = [] := List.eq_nil_of_length_eq_zero (by rw [show T.data.toList.length = T.size by simp]; omega)
        rw [HE.out, hT0, insE_nil, List.append_nil])
      clear HE
      go_wp2
      go_ret
      exact ⟨_, rfl, by rw [HE2.out]; exact HO.out, HB.out⟩
end Go.Proofs.Ytekpdnlogfaggaa
