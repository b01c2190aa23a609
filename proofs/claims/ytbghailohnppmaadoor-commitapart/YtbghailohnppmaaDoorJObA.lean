/-
  Decimals: the number of a text of digits, and back.
  Taken over: kinds, decimals, cuts.
-/
import Derived.Lib.ItoaNum
import Derived.BigQuiet
import Derived.BigRegion
import Derived.Deep.QuietTactic
import Derived.Deep.RegionHeld3
import Derived.Laws.IdiomStrings
import Derived.Laws.ResultCell
import Derived.Lib.ItoaLen
import Derived.Lib.ItoaMem
import Derived.OwnWalk
import Derived.WalkKit
import Derived.WalkLawsBesides
import Derived.WalkSmall
import Derived.WalkSpells
import Derived.Deep.DeepCutAuto
import Derived.Deep.MidRow
import Derived.OpenShut
import Derived.Test.YtbghailohnppmaaDoorShelf
import Derived.Test.YtbghailohnppmaaDoorShelW
namespace Go.Proofs.YtbghailohnppmaaDoor

def isDig (c : UInt8) : Prop := 48 ≤ c.toNat ∧ c.toNat ≤ 57
instance (c : UInt8) : Decidable (isDig c) := by unfold isDig; infer_instance
def stepN (n : Nat) (c : UInt8) : Nat := 10 * n + (c.toNat - 48)
def valL (l : List UInt8) : Nat := l.foldl stepN 0
theorem valL_snoc (l : List UInt8) (c : UInt8) : valL (l ++ [c]) = 10 * valL l + (c.toNat - 48) := by simp [valL, List.foldl_append, stepN]
theorem dig_byte (d : Nat) (h : d < 10) : (UInt8.ofNat (48 + d)).toNat = 48 + d := by
  rw [UInt8.toNat_ofNat']; omega
theorem dd_small {u : Nat} (h : u < 10) : Lib.decDigits u = [UInt8.ofNat (48 + u)] := Lib.decDigits_one h
theorem dd_big {u : Nat} (h : 10 ≤ u) : Lib.decDigits u = Lib.decDigits (u / 10) ++ [UInt8.ofNat (48 + u % 10)] := by
  rw [Lib.decDigits, dif_neg (by omega)]
theorem dd_val (u : Nat) : valL (Lib.decDigits u) = u := by
  induction u using Nat.strongRecOn with
  | ind u ih =>
    by_cases h : u < 10
    · rw [dd_small h]
      show 10 * 0 + ((UInt8.ofNat (48 + u)).toNat - 48) = u
      rw [dig_byte u h]; omega
    · rw [dd_big (by omega), valL_snoc, ih (u / 10) (by omega), dig_byte (u % 10) (Nat.mod_lt _ (by decide))]; omega
theorem dd_digs (u : Nat) : ∀ c ∈ Lib.decDigits u, isDig c := by
  induction u using Nat.strongRecOn with
  | ind u ih =>
    by_cases h : u < 10
    · rw [dd_small h]
      intro c hc
      rw [List.mem_singleton] at hc
      subst hc
      unfold isDig; rw [dig_byte u h]; omega
    · rw [dd_big (by omega)]
      intro c hc
      rcases List.mem_append.1 hc with hc | hc
      · exact ih _ (by omega) c hc
      · rw [List.mem_singleton] at hc
        subst hc
        have := Nat.mod_lt u (show 0 < 10 by decide)
        unfold isDig; rw [dig_byte _ this]; omega
theorem dd_ne (u : Nat) : Lib.decDigits u ≠ [] := by
  intro h
  have := Lib.decDigits_length u
  have h1 := Lib.nDigits_pos u
  rw [h] at this; simp at this; omega
end Go.Proofs.YtbghailohnppmaaDoor
namespace Go.Proofs.YtbghailohnppmaaDoor
open Go.RowKit

theorem sl_len (s : ByteArray) : s.data.toList.length = s.size := by simp
theorem hidM {p : Prop} (h : p) : Hid p := h
def h0 : List Nat := [1732584193, 4023233417, 2562383102, 271733878, 3285377520]
def h2 : List Nat := [1779033703, 3144134277, 1013904242, 2773480762, 1359893119, 2600822924, 528734635, 1541459225]
def nm : Nat → List UInt8
  | 1 => [99, 111, 109, 109, 105, 116]
  | 2 => [116, 114, 101, 101]
  | 3 => [98, 108, 111, 98]
  | 4 => [116, 97, 103]
  | _ => []
def nameL (k : Int) : List UInt8 := if 0 ≤ k then nm k.toNat else []
def NamesAt (w : World) : Prop := 0 < w.heap.size ∧ ∀ i, i < 5 → w.cell? ⟨0, i, none⟩ = some (.string ⟨(nm i).toArray⟩)
theorem nm_big (i : Nat) (h : 5 ≤ i) : nm i = [] := by
  unfold nm; split <;> first | omega | rfl
theorem nameL_neg (k : Int) (h : k < 0) : nameL k = [] := by unfold nameL; rw [if_neg (by omega)]
theorem nameL_big (k : Int) (h : 5 ≤ k) : nameL k = [] := by unfold nameL; rw [if_pos (by omega), nm_big _ (by omega)]
theorem name_any (k : Int) (w : World) (hN : NamesAt w) :
    Calls Tryd.prog 43 #[.int .i64 k] w fun e w' => e = .returned (.string ⟨(nameL k).toArray⟩) ∧ w' = w := by
  by_cases h0 : k < 0
  · have hn := hidM (nameL_neg k h0)
    go_enter Tryd.func43, Tryd.ntmps43
    go_wp2
    go_ret
    exact ⟨by rw [hn.out]; rfl, rfl⟩
  by_cases h5 : 5 ≤ k
  · have hn := hidM (nameL_big k h5)
    go_enter Tryd.func43, Tryd.ntmps43
    go_wp2
    go_ret
    exact ⟨by rw [hn.out]; rfl, rfl⟩
  obtain ⟨i, hi, rfl⟩ : ∃ i : Nat, i < 5 ∧ k = (i : Int) := ⟨k.toNat, by omega, by omega⟩
  have hc := hN.2 i hi
  have hn : Hid (nameL (i : Int) = nm i) := by unfold Hid nameL; rw [if_pos (by omega), Int.toNat_natCast]
  clear hN
  go_enter Tryd.func43, Tryd.ntmps43
  go_wp2
  go_ret
  exact ⟨by rw [hn.out]; rfl, rfl⟩
theorem NamesAt.below {w w' : World} (h : NamesAt w) (hb : Below w.heap.size w w') : NamesAt w' :=
  ⟨Nat.lt_of_lt_of_le h.1 hb.size, fun i hi => (hb.cell (p := ⟨0, i, none⟩) h.1).trans (h.2 i hi)⟩
/-- what the rows list, as far as the walks read it -/
structure LaidAt (w : World) : Prop where
  two : 2 < w.heap.size
  pow : Lib.TabIs Tryd.prog w "internal/strconv.uint64pow10" .u64 Lib.pow10Tab
theorem gPow : Tryd.prog.globalNamed "internal/strconv.uint64pow10" = some 2 := by kernel_rfl
theorem LaidAt.below {w w' : World} (h : LaidAt w) (hb : Below w.heap.size w w') : LaidAt w' := by
  refine ⟨Nat.lt_of_lt_of_le h.two hb.size, ?_⟩
  have h1 := h.pow
  unfold Lib.TabIs World.var? at h1 ⊢
  rw [gPow] at h1 ⊢
  simp only [Option.bind_some] at h1 ⊢
  rw [hb.block 2 h.two]
  exact h1
theorem LaidAt.drewN {w : World} (h : LaidAt w) (m : Nat) : LaidAt (w.drewN m) := h.below (below_drewN (Below.refl _ _) m)
theorem itoa_any (n : Int) (h0 : -9223372036854775808 ≤ n) (h1 : n ≤ 9223372036854775807) (w : World) (h : LaidAt w) :
    Calls Tryd.prog 51 #[.int .i64 n] w fun e w' => e = .returned (.string ⟨(Lib.itoa n).toArray⟩) ∧ Below w.heap.size w w' := by
  refine (Tryd.strconv_Itoa n h0 h1 w h.pow).mono ?_
  rintro e w' ⟨he, k, os, rfl⟩
  refine ⟨he, ⟨rfl, rfl, rfl, by simp [Sort.grow], fun k hk => ?_⟩⟩
  show (w.heap ++ os)[k]? = w.heap[k]?
  rw [Array.getElem?_append_left hk]
/-- V is w but for draws -/
def DrewOf (w V : World) : Prop := Below w.heap.size w V ∧ V.heap = w.heap
theorem DrewOf.drew {w V : World} (h : DrewOf w V) : DrewOf w V.drew := ⟨h.1.trans ⟨rfl, rfl, rfl, Nat.le_refl _, fun _ _ => rfl⟩, h.2⟩
theorem DrewOf.drewN {w V : World} (h : DrewOf w V) (m : Nat) : DrewOf w (V.drewN m) := ⟨below_drewN h.1 m, h.2⟩
theorem DrewOf.below {w V w' : World} (h : DrewOf w V) (hb : Below V.heap.size V w') : Below w.heap.size w w' := by
  have := hb
  rw [h.2] at this
  exact h.1.trans this
def splitC (c : UInt8) : List UInt8 → Option (List UInt8 × List UInt8)
  | [] => none
  | b :: l => if b = c then some ([], l) else (splitC c l).map fun x => (b :: x.1, x.2)
theorem split_none {c : UInt8} {l : List UInt8} (h : splitC c l = none) : Lib.indexByte l c = -1 ∧ c ∉ l := by
  induction l with
  | nil => exact ⟨rfl, by simp⟩
  | cons b l ih =>
    unfold splitC at h
    by_cases hb : b = c
    · rw [if_pos hb] at h; cases h
    · rw [if_neg hb, Option.map_eq_none_iff] at h
      have := ih h
      refine ⟨?_, by simp [this.2, Ne.symm hb]⟩
      unfold Lib.indexByte
      rw [if_neg (by simpa using hb), this.1]
      rfl
theorem split_some {c : UInt8} {l p q : List UInt8} (h : splitC c l = some (p, q)) : Lib.indexByte l c = (p.length : Int) ∧ l = p ++ c :: q ∧ c ∉ p := by
  induction l generalizing p with
  | nil => cases h
  | cons b l ih =>
    unfold splitC at h
    by_cases hb : b = c
    · rw [if_pos hb] at h
      obtain ⟨rfl, rfl⟩ := Prod.mk.inj (Option.some.inj h)
      refine ⟨?_, by rw [hb]; rfl, by simp⟩
      unfold Lib.indexByte
      rw [if_pos (by simpa using hb)]; rfl
    · rw [if_neg hb, Option.map_eq_some_iff] at h
      obtain ⟨⟨p', q'⟩, hx, he⟩ := h
      obtain ⟨rfl, rfl⟩ := Prod.mk.inj he
      obtain ⟨h1, h2, h3⟩ := ih hx
      refine ⟨?_, by rw [h2]; rfl, by simp [h3, Ne.symm hb]⟩
      unfold Lib.indexByte
      rw [if_neg (by simpa using hb), h1, if_neg (by simp)]
      simp
/-- what Cut answers at one byte -/
def cutR (c : UInt8) (l : List UInt8) : List UInt8 × List UInt8 × Bool :=
  match splitC c l with
  | none => (l, [], false)
  | some (p, q) => (p, q, true)
theorem ext_head (s : ByteArray) (k : Nat) : (s.extract 0 k).data.toList = s.data.toList.take k := by simp
theorem ext_tail (s : ByteArray) (k : Nat) : (s.extract k s.size).data.toList = s.data.toList.drop k := by
  rw [ByteArray.data_extract, Array.toList_extract, List.extract_eq_take_drop]
  rw [List.take_of_length_le]
  rw [List.length_drop]; simp
theorem ba_of {s : ByteArray} {l : List UInt8} (h : s.data.toList = l) : s = ⟨l.toArray⟩ := by
  subst h; rfl
set_option maxHeartbeats 1600000 in
theorem cut_in (s : ByteArray) (c : UInt8) (w : World) (hs : s.size ≤ 9223372036854775807) :
    Calls Tryd.prog 78 #[.string s, .string ⟨#[c]⟩] w fun e w' => e = .returned (.tuple #[.string ⟨(cutR c s.data.toList).1.toArray⟩, .string ⟨(cutR c s.data.toList).2.1.toArray⟩, .bool (cutR c s.data.toList).2.2]) ∧ ∃ m, w' = w.drewN m := by
  cases h : splitC c s.data.toList with
  | none =>
    have h1 := (split_none h).1
    have HR : Hid (cutR c s.data.toList = (s.data.toList, [], false)) := by unfold Hid cutR; rw [h]
    have HI : Hid (Calls Tryd.prog 66 #[.string s, .string ⟨#[c]⟩] w fun e w' => e = .returned (.int .i64 (-1)) ∧ w' = w) := by
      have := Tryd.stringslite_Index_one s c w
      rw [h1] at this
      exact this
    clear h h1
    go_enter Tryd.func78, Tryd.ntmps78
    go_wp2_with (go_at_call 66; with_reducible refine HI.out.mono ?_; rintro e w' ⟨rfl, rfl⟩)
    go_ret3
    exact ⟨by rw [HR.out]; rfl, 0, rfl⟩
  | some x =>
    obtain ⟨p, q⟩ := x
    obtain ⟨h1, h2, h3⟩ := split_some h
    have HR : Hid (cutR c s.data.toList = (p, q, true)) := by unfold Hid cutR; rw [h]
    have HI : Hid (Calls Tryd.prog 66 #[.string s, .string ⟨#[c]⟩] w fun e w' => e = .returned (.int .i64 (p.length : Int)) ∧ w' = w) := by
      have := Tryd.stringslite_Index_one s c w
      rw [h1] at this
      exact this
    have hl : p.length + 1 ≤ s.size := by
      have : s.data.toList.length = s.size := by simp
      rw [h2] at this; simp at this; omega
    have HP : Hid (s.extract 0 p.length = ⟨p.toArray⟩) := ba_of (by rw [ext_head, h2, List.take_left])
    have HQ : Hid (s.extract (p.length + 1) s.size = ⟨q.toArray⟩) := ba_of (by rw [ext_tail, h2, List.drop_append, List.drop_of_length_le (by omega)]; simp)
    clear h h1 h2 h3
    generalize p.length = n at *
    have c1 : (0 : Int) ≤ (n : Int) := by omega
    have c2 : (n : Int) ≤ (s.size : Int) := by omega
    have c4 : (n : Int) + 1 ≤ (s.size : Int) := by omega
    have c5 : (0 : Int) ≤ (n : Int) + 1 := by omega
    go_enter Tryd.func78, Tryd.ntmps78
    go_wp2_with (go_at_call 66; with_reducible refine HI.out.mono ?_; rintro e w' ⟨rfl, rfl⟩)
    go_quiet (fail)
    go_wp2
    go_ret3
    exact ⟨by rw [HR.out, ← HP.out, ← HQ.out]; rfl, nq, rfl⟩
theorem cut_any (s : ByteArray) (c : UInt8) (w : World) (hs : s.size ≤ 9223372036854775807) :
    Calls Tryd.prog 67 #[.string s, .string ⟨#[c]⟩] w fun e w' => e = .returned (.tuple #[.string ⟨(cutR c s.data.toList).1.toArray⟩, .string ⟨(cutR c s.data.toList).2.1.toArray⟩, .bool (cutR c s.data.toList).2.2]) ∧ ∃ m, w' = w.drewN m := by
  have HC := hidM (cut_in s c w hs)
  generalize (cutR c s.data.toList).1.toArray = A at *
  generalize (cutR c s.data.toList).2.1.toArray = B at *
  generalize (cutR c s.data.toList).2.2 = D at *
  go_enter Tryd.func67, Tryd.ntmps67
  go_wp2_with fail
  refine HC.out.mono ?_
  rintro _ w1 ⟨rfl, m, rfl⟩
  go_wp2
  go_ret3
  exact ⟨rfl, m, rfl⟩
end Go.Proofs.YtbghailohnppmaaDoor
