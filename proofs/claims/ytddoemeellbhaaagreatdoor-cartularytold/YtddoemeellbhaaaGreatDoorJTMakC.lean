/-
  Taken over from another program: MakB.
  Taken over from another program: MakC.
-/
import Derived.Test.YtddoemeellbhaaaGreatDoorJTMakA
import Derived.Lib.AppendStr
namespace Go.Proofs.YtddoemeellbhaaaGreatDoor.Dlt
open Go.RowKit
/-- Inserts of a text. -/
def insE (l : List UInt8) : List UInt8 := if _h : l = [] then [] else UInt8.ofNat (min l.length 127) :: (l.take 127 ++ insE (l.drop 127))
termination_by l.length
decreasing_by
  have : 0 < l.length := List.length_pos_iff.2 _h
  rw [List.length_drop]; omega
theorem insE_nil : insE [] = [] := by rw [insE, dif_pos rfl]
theorem insE_some (l : List UInt8) (h : l ≠ []) : insE l = UInt8.ofNat (min l.length 127) :: (l.take 127 ++ insE (l.drop 127)) := by rw [insE, dif_neg h]
theorem ex_list (s : ByteArray) (a b : Nat) : (s.extract a b).data.toList = (s.data.toList.drop a).take (b - a) := by
  simp [ByteArray.data_extract]
theorem insE_step (T : ByteArray) (n : Nat) (h0 : 0 < T.size) (hn : n = min T.size 127) :
    insE T.data.toList = [UInt8.ofNat n] ++ (T.extract 0 n).data.toList ++ insE (T.extract n T.size).data.toList := by
  have hl : T.data.toList.length = T.size := by simp
  have hne : T.data.toList ≠ [] := by intro h; rw [h] at hl; simp at hl; omega
  rw [insE_some _ hne, hl, ex_list, ex_list, ← hn]
  have e1 : (T.data.toList.drop 0).take (n - 0) = T.data.toList.take 127 := by
    rw [List.drop_zero, Nat.sub_zero]
    by_cases h : T.size ≤ 127
    · rw [List.take_of_length_le (by omega), List.take_of_length_le (by omega)]
    · rw [show n = 127 by omega]
  have e2 : (T.data.toList.drop n).take (T.size - n) = T.data.toList.drop 127 := by
    rw [List.take_of_length_le (by rw [List.length_drop]; omega)]
    by_cases h : T.size ≤ 127
    · rw [List.drop_of_length_le (by omega), List.drop_of_length_le (by omega)]
    · rw [show n = 127 by omega]
  rw [e1, e2]
  simp
set_option maxHeartbeats 1000000 in
set_option maxRecDepth 100000 in
theorem inserts_any (B : Nat) (v : Value) (l : List UInt8) (t : ByteArray) (w : World) (h : OwnB w B v l) (hB : B ≤ w.heap.size) (hl : l.length ≤ 1000000) (ht : t.size ≤ 1000000) :
    Calls Tryz.prog 65 #[v, .string t] w fun e w' => PutPost B w (l ++ insE t.data.toList) e w' := by
  obtain ⟨i0, hi, hz0, hz1, hz2⟩ := info_parts Tryz.info5
  go_enter Tryz.func65, Tryz.ntmps65
  go_wp2
  go_loopw [0, 1, 5] (fun x y _ wr => ∃ (T : ByteArray) (l' : List UInt8), T.size ≤ 1000000 ∧ l'.length + 2 * T.size ≤ 3000000 ∧ y = .string T ∧ OwnB wr B x l' ∧ Below B w wr ∧ l ++ insE t.data.toList = l' ++ insE T.data.toList) (fun _ y _ _ => match y with | .string T => T.size | _ => 0)
  case atStart => exact ⟨t, l, ht, by omega, rfl, h, Below.refl _ _, rfl⟩
  case round =>
    obtain ⟨T, l', hT, hl', rfl, hO, hBl, hE⟩ := hrel
    have HO : Hid (wr.ownsRow B 5 1 u0 l'.length (Lib.byteCells l')) := hO
    have HB := hidM hBl
    have HE := hidM hE
    have hsz : B ≤ wr.heap.size := Nat.le_trans hB hBl.size
    clear hO hBl hE h
    by_cases h0 : 0 < T.size
    · have h0' : (0 : Int) < T.size := by omega
      obtain ⟨n, hn⟩ : ∃ n, n = min T.size 127 := ⟨_, rfl⟩
      have hn' : min (T.size : Int) 127 = (n : Int) := by omega
      have n256 : n < 256 := by omega
      have nT : n ≤ T.size := by omega
      have n0 : 0 < n := by omega
      have HE2 := hidM (show l ++ insE t.data.toList = ((l' ++ [UInt8.ofNat n]) ++ (T.extract 0 n).data.toList) ++ insE (T.extract n T.size).data.toList by
        rw [HE.out, insE_step T n h0 hn]; simp)
      clear hn HE
      go_wp2_with (first
        | (at_builtin; go_loud (refine wpList_append_own _ rfl _ _ 81 rfl B 5 i0 (.int .u8 0) 1 1 Tryz.underlying81 hi hz0 hz1 hz2 rfl (by decide) _ _ _ rfl (World.ownsRow.alloc HO.out _) ⟨wr.heap.size, 0, none⟩ 1 1 [.int .u8 (n : Int)] ?c0 rfl ?c1 ?c2 ?c3 ?c4 ?c5 ?_)))
      try (case c0 => rfl)
      try (case c1 => exact new_byte wr _)
      case c2 => first | rfl | (intro u hu; simp at hu; subst hu; rfl)
      case c3 => unfold maxLen; skip; first | omega | (simp; omega)
      case c4 => skip; first | omega | (simp; omega)
      case c5 => have := hsz; first | omega | (simp; omega)
      intro v' w6 hown hgr _
      have HB6 := hidM ((HB.out.alloc hsz _).grown hgr (by have := hsz; simp; omega) (fun q hq => (World.ownsRow.lt HO.out q hq).1))
      have HO6 := hidM (ownB_push (l := l') (n := n) n256 hown)
      clear hown hgr
      have HO7 : Hid (w6.ownsRow B 5 1 v' (l'.length + 1) (Lib.byteCells (l' ++ [UInt8.ofNat n]))) := by
        have := HO6.out; unfold OwnB at this; rw [List.length_append] at this; exact this
      have hsz6 : B ≤ w6.heap.size := Nat.le_trans hB HB6.out.size
      have hx1 : (T.extract 0 n).size = n := by simp only [ByteArray.size_extract]; omega
      have hx2 : (T.extract n T.size).size = T.size - n := by simp only [ByteArray.size_extract]; omega
      clear HO HB HO6
      go_upto_region 4 with fail
      go_wp2_with (first
        | (at_builtin; go_loud (refine Lib.wpList_append_own_string _ rfl _ _ 81 9 rfl B 5 i0 Tryz.underlying81 Tryz.underlying9 hi hz0 hz1 hz2 _ _ _ rfl HO7.out (T.extract 0 n) rfl ?c1 ?c2 ?c3 ?_)))
      case c1 => unfold maxLen; rw [hx1]; omega
      case c2 => rw [hx1]; omega
      case c3 => exact hsz6
      intro v2 w7 hown hgr _
      have HB7 := hidM (HB6.out.grown hgr hsz6 (fun q hq => (World.ownsRow.lt HO7.out q hq).1))
      have HO8 := hidM (ownB_push_str (l := l' ++ [UInt8.ofNat n]) (s := T.extract 0 n) (by rw [List.length_append, hx1]; exact hown))
      clear hown hgr HO7 HB6
      go_wp2
      refine ⟨⟨T.extract n T.size, (l' ++ [UInt8.ofNat n]) ++ (T.extract 0 n).data.toList, by rw [hx2]; omega, ?_, rfl, HO8.out, HB7.out, HE2.out⟩, ?_⟩
      · have : (T.extract 0 n).data.toList.length = n := by rw [← hx1]; simp
        rw [List.length_append, List.length_append, this, hx2]; simp; omega
      · simp only [hx2]; omega
    · have h0' : ¬ (0 : Int) < T.size := by omega
      have HE2 := hidM (show l ++ insE t.data.toList = l' by
        have hT0 : T.data.toList = [] := List.eq_nil_of_length_eq_zero (by rw [show T.data.toList.length = T.size by simp]; omega)
        rw [HE.out, hT0, insE_nil, List.append_nil])
      clear HE
      go_wp2
      go_ret
      exact ⟨_, rfl, by rw [HE2.out]; exact HO.out, HB.out⟩
end Go.Proofs.YtddoemeellbhaaaGreatDoor.Dlt
namespace Go.Proofs.YtddoemeellbhaaaGreatDoor.Dlt
open Go.RowKit
/-- Byte i of a number. -/
def byI (x i : Nat) : Nat := x / 2 ^ (8 * i) % 256
/-- Those of the first bytes that aren't 0. -/
def eb (x : Nat) : Nat → List UInt8
  | 0 => []
  | i + 1 => eb x i ++ (if byI x i = 0 then [] else [UInt8.ofNat (byI x i)])
/-- Which ones they are. -/
def em (x : Nat) : Nat → Nat
  | 0 => 0
  | i + 1 => em x i + (if byI x i = 0 then 0 else 2 ^ i)
theorem byI_lt (x i : Nat) : byI x i < 256 := Nat.mod_lt _ (by decide)
theorem em_lt (x : Nat) : ∀ i, em x i < 2 ^ i
  | 0 => Nat.one_pos
  | i + 1 => by
    have := em_lt x i
    rw [em, Nat.pow_succ]
    split <;> omega
theorem eb_len (x : Nat) : ∀ i, (eb x i).length ≤ i
  | 0 => Nat.le_refl _
  | i + 1 => by
    have := eb_len x i
    rw [eb, List.length_append]
    split <;> simp <;> omega
def NumPost (B : Nat) (w : World) (l : List UInt8) (m : Nat) (e : Ending) (w' : World) : Prop := ∃ v, e = .returned (.tuple #[v, .int .u8 (m : Int)]) ∧ OwnB w' B v l ∧ Below B w w'
theorem u8_or_bit (m k : Nat) (hk : k ≤ 3) (hm : m < 2 ^ k) : bits .or .u8 (m : Int) ((2 : Int) ^ k % 256) = ((m + 2 ^ k : Nat) : Int) := by
  have h8 : 2 ^ k ≤ 2 ^ 3 := Nat.pow_le_pow_right (by decide) hk
  have h8' : 2 ^ k ≤ 8 := h8
  have e : ((2 : Int) ^ k % 256) = ((2 ^ k : Nat) : Int) := by
    rw [show ((2 : Int) ^ k) = ((2 ^ k : Nat) : Int) by simp]
    omega
  rw [e, u8_or_nat m (2 ^ k) (by omega) (by omega)]
  have := or_add m 1 k hm
  rw [Nat.one_mul, Nat.mul_one] at this
  rw [this]
set_option maxHeartbeats 1600000 in
set_option maxRecDepth 20000 in
theorem number2_any (B : Nat) (v : Value) (l : List UInt8) (x n : Nat) (w : World) (h : OwnB w B v l) (hB : B ≤ w.heap.size) (hl : l.length ≤ 1000000) (_hx : x ≤ 1000000) (hn : n ≤ 4) :
    Calls Tryz.prog 155 #[v, .int .i64 (x : Int), .int .i64 (n : Int)] w fun e w' => NumPost B w (l ++ eb x n) (em x n) e w' := by
  obtain ⟨i0, hi, hz0, hz1, hz2⟩ := info_parts Tryz.info5
  go_enter Tryz.func155, Tryz.ntmps155
  go_wp2
  go_loopw [0, 8, 12] (fun d m i wr => ∃ (k : Nat) , k ≤ n ∧ i = .int .i64 (k : Int) ∧ m = .int .u8 (em x k : Nat) ∧ OwnB wr B d (l ++ eb x k) ∧ Below B w wr) (fun _ _ i _ => n - (intOf i).toNat)
  case atStart => exact ⟨0, Nat.zero_le _, rfl, rfl, by rw [eb, List.append_nil]; exact h, Below.refl _ _⟩
  case round =>
    obtain ⟨k, hk, rfl, rfl, hO, hBl⟩ := hrel
    obtain ⟨L, hL⟩ : ∃ L, L = l ++ eb x k := ⟨_, rfl⟩
    rw [← hL] at hO
    have hLl : L.length ≤ 1000004 := by rw [hL, List.length_append]; have := eb_len x k; omega
    have HL := hidM hL
    have HO : Hid (wr.ownsRow B 5 1 u0 L.length (Lib.byteCells L)) := hO
    have HB := hidM hBl
    have hsz : B ≤ wr.heap.size := Nat.le_trans hB hBl.size
    have hem := em_lt x k
    obtain ⟨M, hM⟩ : ∃ M, M = em x k := ⟨_, rfl⟩
    rw [← hM] at hem
    rw [← hM]
    have HM := hidM hM
    clear hO hBl h hL hM
    by_cases hkn : k < n
    · have hkn' : (k : Int) < n := by omega
      obtain ⟨c, hc⟩ : ∃ c, c = byI x k := ⟨_, rfl⟩
      have c256 : c < 256 := by rw [hc]; exact byI_lt x k
      have hc' : (x : Int) / 2 ^ (8 * k) % 256 = (c : Int) := by rw [hc]; unfold byI; simp
      have HC := hidM hc
      have OR := hidM (u8_or_bit M k (by omega) hem)
      clear hc hem
      by_cases hz : c = 0
      · subst hz
        go_wp2
        refine ⟨⟨k + 1, by omega, by go_num, ?_, ?_, HB.out⟩, ?_⟩
        · rw [em, ← HC.out, if_pos rfl, ← HM.out, Nat.add_zero]
        · rw [eb, ← HC.out, if_pos rfl, List.append_nil, ← HL.out]; exact HO.out
        · simp [intOf]; omega
      · have hz' : ¬ (c : Int) = 0 := by omega
        go_wp2_with (first
          | (at_builtin; go_loud (refine wpList_append_own _ rfl _ _ 81 rfl B 5 i0 (.int .u8 0) 1 1 Tryz.underlying81 hi hz0 hz1 hz2 rfl (by decide) _ _ _ rfl (World.ownsRow.alloc HO.out _) ⟨wr.heap.size, 0, none⟩ 1 1 [.int .u8 (c : Int)] ?c0 rfl ?c1 ?c2 ?c3 ?c4 ?c5 ?_)))
        try (case c0 => rfl)
        try (case c1 => exact new_byte wr _)
        case c2 => first | rfl | (intro u hu; simp at hu; subst hu; rfl)
        case c3 => unfold maxLen; skip; first | omega | (simp; omega)
        case c4 => skip; first | omega | (simp; omega)
        case c5 => have := hsz; first | omega | (simp; omega)
        intro v' w6 hown hgr _
        have HB6 := hidM ((HB.out.alloc hsz _).grown hgr (by have := hsz; simp; omega) (fun q hq => (World.ownsRow.lt HO.out q hq).1))
        have HO6 := hidM (ownB_push (l := L) (n := c) c256 hown)
        clear hown hgr
        clear HO HB
        go_wp2
        refine ⟨⟨k + 1, by omega, by go_num, ?_, ?_, HB6.out⟩, ?_⟩
        · rw [em, ← HC.out, if_neg hz, ← HM.out]; exact val_int OR.out
        · rw [eb, ← HC.out, if_neg hz, ← List.append_assoc, ← HL.out]; exact HO6.out
        · simp [intOf]; omega
    · have hkn' : ¬ (k : Int) < n := by omega
      have hke : n = k := by omega
      subst hke
      go_wp2
      go_ret2
      exact ⟨_, by rw [← HM.out]; rfl, by rw [← HL.out]; exact HO.out, HB.out⟩
theorem OwnB.shape {w : World} {B : Nat} {v : Value} {l : List UInt8} (h : OwnB w B v l) : ∃ a cap, v = .slice a l.length cap := by
  rcases h.2 with ⟨rfl, hn⟩ | ⟨g, cap, cur, rfl, _⟩
  · exact ⟨none, 0, by rw [hn]⟩
  · exact ⟨_,_, rfl⟩
theorem OwnB.shape1 {w : World} {B : Nat} {v : Value} {l : List UInt8} (h : OwnB w B v l) (h0 : 0 < l.length) : ∃ g cap, v = .slice (some ⟨g, 0, none⟩) l.length cap ∧ B ≤ g := by
  rcases h.2 with ⟨rfl, hn⟩ | ⟨g, cap, cur, rfl, hg, _⟩
  · omega
  · exact ⟨_,_, rfl, hg⟩
theorem OwnB.put {w : World} {B g n cap i : Nat} {l r : List UInt8} {a : UInt8} (c : Nat) (hc : c < 256) (h : OwnB w B (.slice (some ⟨g, 0, none⟩) n cap) (l ++ a :: r)) (hi : l.length = i) :
    w.cell? ⟨g, i, none⟩ = some (.int .u8 (a.toNat : Int)) ∧ w.frozen? ⟨g, i, none⟩ = false ∧ OwnB (w.setCell ⟨g, i, none⟩ (.int .u8 (c : Int))) B (.slice (some ⟨g, 0, none⟩) n cap) (l ++ UInt8.ofNat c :: r) := by
  subst hi
  have h0 := World.ownsRow.cells (g := g) h rfl l.length (.int .u8 (a.toNat : Int)) (by simp [Lib.byteCells])
  rw [Addr.add_lit, Nat.zero_add] at h0
  have hh := h
  unfold OwnB at hh
  rcases hh.2 with ⟨hv, _⟩ | ⟨g', cap', cur, hv, hb, hg, hnc, hcm, hcs, htake⟩
  · simp at hv
  · simp only [Value.slice.injEq, Option.some.injEq, Addr.mk.injEq, and_true] at hv
    obtain ⟨rfl, hn, rfl⟩ := hv
    refine ⟨h0, frozen_of_row w g _ _ 5 hg, ?_⟩
    have hle : (l ++ UInt8.ofNat c :: r).length = (l ++ a :: r).length := by simp
    unfold OwnB
    rw [hle]
    refine ⟨by rw [Lib.byteCells_length, hle, Nat.mul_one], .inr ⟨g, cap, _, by rw [hn], hb, heap_setCell_same w g l.length cur 5 _ hg, hnc, hcm, by simpa using hcs, ?_⟩⟩
    rw [Array.toList_setIfInBounds, List.take_set, htake]
    have hl : (Lib.byteCells l).length = l.length := Lib.byteCells_length l
    simp only [Lib.byteCells, List.map_append, List.map_cons] at hl ⊢
    rw [List.set_append_right _ _ (by omega), hl, Nat.sub_self, List.set_cons_zero, byte_nat c hc]
/-- A copy of n bytes from place p. -/
def cpE (p n : Nat) : List UInt8 := UInt8.ofNat (128 + em p 4 + 16 * em n 3) :: (eb p 4 ++ eb n 3)
theorem cpE_len (p n : Nat) : (cpE p n).length ≤ 8 := by
  have h1 := eb_len p 4
  have h2 := eb_len n 3
  unfold cpE
  rw [List.length_cons, List.length_append]
  omega
set_option maxHeartbeats 1600000 in
set_option maxRecDepth 20000 in
theorem copy_any (B : Nat) (v : Value) (l : List UInt8) (p n : Nat) (w : World) (h : OwnB w B v l) (hB : B ≤ w.heap.size) (hl : l.length ≤ 900000) (hp : p ≤ 1000000) (hn : n < 65536) :
    Calls Tryz.prog 111 #[v, .int .i64 (p : Int), .int .i64 (n : Int)] w fun e w' => PutPost B w (l ++ cpE p n) e w' := by
  obtain ⟨i0, hi, hz0, hz1, hz2⟩ := info_parts Tryz.info5
  have HO : Hid (w.ownsRow B 5 1 v l.length (Lib.byteCells l)) := h
  have HB := hidM (Below.refl B w)
  obtain ⟨a, cap, rfl⟩ := h.shape
  obtain ⟨L, hL⟩ : ∃ L, L = l.length := ⟨_, rfl⟩
  rw [← hL]
  rw [← hL] at hl HO
  have HL := hidM hL
  have hnm : (n : Int).tmod 65536 = (n : Int) := by rw [Int.tmod_eq_emod_of_nonneg (by omega)]; omega
  clear h hL
  go_enter Tryz.func111, Tryz.ntmps111
  go_wp2_with (first
    | (at_builtin; go_loud (refine wpList_append_own _ rfl _ _ 81 rfl B 5 i0 (.int .u8 0) 1 1 Tryz.underlying81 hi hz0 hz1 hz2 rfl (by decide) _ _ _ rfl (World.ownsRow.alloc HO.out _) ⟨w.heap.size, 0, none⟩ 1 1 [.int .u8 (128 : Int)] ?c0 rfl ?c1 ?c2 ?c3 ?c4 ?c5 ?_)))
  try (case c0 => rfl)
  try (case c1 => exact new_byte w _)
  case c2 => first | rfl | (intro u hu; simp at hu; subst hu; rfl)
  case c3 => unfold maxLen; skip; first | omega | (simp; omega)
  case c4 => skip; first | omega | (simp; omega)
  case c5 => have := hB; first | omega | (simp; omega)
  intro v1 w1 hown hgr _
  have HB6 := hidM ((HB.out.alloc hB _).grown hgr (by have := hB; simp; omega) (fun q hq => (World.ownsRow.lt HO.out q hq).1))
  have HO6 := hidM (ownB_push (l := l) (n := 128) (by decide) (by rw [← HL.out]; exact hown))
  clear hown hgr
  clear HO HB
  have hsz1 : B ≤ w1.heap.size := Nat.le_trans hB HB6.out.size
  have hl1 : (l ++ [UInt8.ofNat 128]).length ≤ 1000000 := by rw [List.length_append, ← HL.out]; simp; omega
  go_wp2_with fail
  refine (number2_any B v1 _ p 4 w1 HO6.out hsz1 hl1 hp (by decide)).mono ?_
  rintro e w2 ⟨v2, rfl, hO2, hB2⟩
  have HB2 := hidM (HB6.out.trans hB2)
  have HO2 := hidM hO2
  have hsz2 : B ≤ w2.heap.size := Nat.le_trans hsz1 hB2.size
  have hl2 : (l ++ [UInt8.ofNat 128] ++ eb p 4).length ≤ 1000000 := by rw [List.length_append, List.length_append, ← HL.out]; have := eb_len p 4; simp; omega
  clear HO6 HB6 hO2 hB2 hl1
  go_wp2_with fail
  refine (number2_any B v2 _ n 3 w2 HO2.out hsz2 hl2 (by omega) (by decide)).mono ?_
  rintro e w3 ⟨v3, rfl, hO3, hB3⟩
  have HB3 := hidM (HB2.out.trans hB3)
  have HM := hidM (And.intro (em_lt p 4) (em_lt n 3))
  have e3 : l ++ [UInt8.ofNat 128] ++ eb p 4 ++ eb n 3 = l ++ UInt8.ofNat 128 :: (eb p 4 ++ eb n 3) := by simp
  rw [e3] at hO3
  obtain ⟨g, cap3, rfl, hg⟩ := hO3.shape1 (by simp; omega)
  obtain ⟨N, hN⟩ : ∃ N, N = (l ++ UInt8.ofNat 128 :: (eb p 4 ++ eb n 3)).length := ⟨_, rfl⟩
  rw [← hN] at hO3
  rw [← hN]
  have hLN : L < N := by rw [hN, HL.out]; simp
  have hcp : cpE p n = UInt8.ofNat (128 + em p 4 + 16 * em n 3) :: (eb p 4 ++ eb n 3) := rfl
  obtain ⟨c, hc⟩ : ∃ c, c = 128 + em p 4 + 16 * em n 3 := ⟨_, rfl⟩
  have m1 := HM.out.1
  have m2 := HM.out.2
  obtain ⟨x, hx⟩ : ∃ x, x = em p 4 := ⟨_, rfl⟩
  obtain ⟨y, hy⟩ : ∃ y, y = em n 3 := ⟨_, rfl⟩
  rw [← hx] at m1 hc
  rw [← hy] at m2 hc
  rw [← hx, ← hy, ← hc] at hcp
  rw [← hx, ← hy]
  have m1' : x < 16 := m1
  have m2' : y < 8 := m2
  have c256 : c < 256 := by omega
  obtain ⟨k1, k2, k3⟩ := hO3.put c c256 HL.out.symm
  have K3 := hidM k3
  have HCP := hidM hcp
  have k1 : w3.cell? { block := g, off := L } = some (.int .u8 128) := k1
  have HCC := hidM hc
  clear hO3 hB3 HO2 HB2 hN e3 hc hx hy hcp m1 m2 k3 HM hl2
  go_wp2
  go_ret
  have ec : (128 : Int) + (x + y * 16) = (c : Int) := by have := HCC.out; omega
  rw [ec]
  exact ⟨_, rfl, by rw [HCP.out]; exact K3.out, HB3.out.setCell (p := ⟨g, L, none⟩) hg _⟩
set_option maxHeartbeats 1600000 in
set_option maxRecDepth 100000 in
theorem copies_any (B : Nat) (v : Value) (l : List UInt8) (p n : Nat) (w : World) (h : OwnB w B v l) (hB : B ≤ w.heap.size) (hl : l.length ≤ 900000) (hp : p ≤ 1000000) (hn : n < 65536) (hn0 : 0 < n) :
    Calls Tryz.prog 66 #[v, .int .i64 (p : Int), .int .i64 (n : Int)] w fun e w' => PutPost B w (l ++ cpE p n) e w' := by
  go_enter Tryz.func66, Tryz.ntmps66
  go_wp2
  go_loopw [0, 1, 2] (fun d x y wr => ∃ (q m : Nat), x = .int .i64 (q : Int) ∧ y = .int .i64 (m : Int) ∧ ((m = n ∧ q = p ∧ OwnB wr B d l ∧ Below B w wr) ∨ (m = 0 ∧ OwnB wr B d (l ++ cpE p n) ∧ Below B w wr))) (fun _ _ y _ => (intOf y).toNat)
  case atStart => exact ⟨p, n, rfl, rfl, .inl ⟨rfl, rfl, h, Below.refl _ _⟩⟩
  case round =>
    obtain ⟨q, m, rfl, rfl, hr⟩ := hrel
    rcases hr with ⟨rfl, rfl, hO, hBl⟩ | ⟨rfl, hO, hBl⟩
    · have h0' : (0 : Int) < m := by omega
      have hmin : min (m : Int) 65536 = (m : Int) := by omega
      have HB := hidM hBl
      have hsz : B ≤ wr.heap.size := Nat.le_trans hB hBl.size
      clear hBl
      go_wp2_with fail
      refine (copy_any B _ l q m wr hO hsz hl hp hn).mono ?_
      rintro e w1 ⟨v1, rfl, hO1, hB1⟩
      have HO1 := hidM hO1
      have HB1 := hidM (HB.out.trans hB1)
      clear hO1 hB1 hO HB
      go_wp2
      refine ⟨⟨q + m, 0, by go_num, rfl, .inr ⟨rfl, HO1.out, HB1.out⟩⟩, ?_⟩
      simp [intOf]; omega
    · have HO := hidM hO
      have HB := hidM hBl
      clear hO hBl
      go_wp2
      go_ret
      exact ⟨_, rfl, HO.out, HB.out⟩
end Go.Proofs.YtddoemeellbhaaaGreatDoor.Dlt
