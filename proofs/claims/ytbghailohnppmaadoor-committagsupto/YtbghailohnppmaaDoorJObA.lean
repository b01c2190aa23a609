/-
  Decimals: the number of a text of digits, and back.
  Taken over: kinds, decimals, cuts.
-/
import Derived.Lib.ItoaNum
import Derived.BigQuiet
import Derived.BigRegion
import Derived.Deep.QuietTactic
import Derived.Deep.RegionHeld3
import Derived.Laws.IdiomStrings
import Derived.Laws.ResultCell
import Derived.Lib.ItoaLen
import Derived.Lib.ItoaMem
import Derived.OwnWalk
import Derived.WalkKit
import Derived.WalkLawsBesides
import Derived.WalkSmall
import Derived.WalkSpells
import Derived.Deep.DeepCutAuto
import Derived.Deep.MidRow
import Derived.OpenShut
import Derived.Test.YtbghailohnppmaaDoorShelf
import Derived.Test.YtbghailohnppmaaDoorShelW
namespace Go.Proofs.YtbghailohnppmaaDoor

theorem snocInd {α : Type} {motive : List α → Prop} (nil : motive []) (append_singleton : ∀ l a, motive l → motive (l ++ [a])) : ∀ l, motive l := by
  intro l
  have : ∀ k : List α, motive k.reverse := by
    intro k
    induction k with
    | nil => exact nil
    | cons a k ih => rw [List.reverse_cons]; exact append_singleton _ _ ih
  have h := this l.reverse
  rwa [List.reverse_reverse] at h
def isDig (c : UInt8) : Prop := 48 ≤ c.toNat ∧ c.toNat ≤ 57
instance (c : UInt8) : Decidable (isDig c) := by unfold isDig; infer_instance
def stepN (n : Nat) (c : UInt8) : Nat := 10 * n + (c.toNat - 48)
def valL (l : List UInt8) : Nat := l.foldl stepN 0
theorem valL_snoc (l : List UInt8) (c : UInt8) : valL (l ++ [c]) = 10 * valL l + (c.toNat - 48) := by simp [valL, List.foldl_append, stepN]
theorem dig_byte (d : Nat) (h : d < 10) : (UInt8.ofNat (48 + d)).toNat = 48 + d := by
  rw [UInt8.toNat_ofNat']; omega
theorem dd_small {u : Nat} (h : u < 10) : Lib.decDigits u = [UInt8.ofNat (48 + u)] := Lib.decDigits_one h
theorem dd_big {u : Nat} (h : 10 ≤ u) : Lib.decDigits u = Lib.decDigits (u / 10) ++ [UInt8.ofNat (48 + u % 10)] := by
  rw [Lib.decDigits, dif_neg (by omega)]
theorem dd_val (u : Nat) : valL (Lib.decDigits u) = u := by
  induction u using Nat.strongRecOn with
  | ind u ih =>
    by_cases h : u < 10
    · rw [dd_small h]
      show 10 * 0 + ((UInt8.ofNat (48 + u)).toNat - 48) = u
      rw [dig_byte u h]; omega
    · rw [dd_big (by omega), valL_snoc, ih (u / 10) (by omega), dig_byte (u % 10) (Nat.mod_lt _ (by decide))]; omega
theorem dd_digs (u : Nat) : ∀ c ∈ Lib.decDigits u, isDig c := by
  induction u using Nat.strongRecOn with
  | ind u ih =>
    by_cases h : u < 10
    · rw [dd_small h]
      intro c hc
      rw [List.mem_singleton] at hc
      subst hc
      unfold isDig; rw [dig_byte u h]; omega
    · rw [dd_big (by omega)]
      intro c hc
      rcases List.mem_append.1 hc with hc | hc
      · exact ih _ (by omega) c hc
      · rw [List.mem_singleton] at hc
        subst hc
        have := Nat.mod_lt u (show 0 < 10 by decide)
        unfold isDig; rw [dig_byte _ this]; omega
theorem dd_ne (u : Nat) : Lib.decDigits u ≠ [] := by
  intro h
  have := Lib.decDigits_length u
  have h1 := Lib.nDigits_pos u
  rw [h] at this; simp at this; omega
end Go.Proofs.YtbghailohnppmaaDoor
namespace Go.Proofs.YtbghailohnppmaaDoor
open Go.RowKit

theorem sl_len (s : ByteArray) : s.data.toList.length = s.size := by simp
theorem take_one (s : ByteArray) (k : Nat) (h : k < s.size) : s.data.toList.take (k + 1) = s.data.toList.take k ++ [s[k]] := by
  rw [List.take_succ_eq_append_getElem (by simpa using h)]; rfl
theorem hidM {p : Prop} (h : p) : Hid p := h
def digS10 : ByteArray := { data := #[48, 49, 50, 51, 52, 53, 54, 55, 56, 57] }
theorem dig10 : ∀ n, n < 10 → digS10.extract n (n + 1) = ⟨#[UInt8.ofNat (48 + n)]⟩ := by decide
theorem app_one (P : List UInt8) (a : UInt8) : (⟨P.toArray⟩ : ByteArray) ++ ⟨#[a]⟩ = ⟨(P ++ [a]).toArray⟩ := by
  apply ByteArray.ext
  simp [ByteArray.data_append]
set_option maxHeartbeats 1600000 in
theorem digits_pos (k : Nat) : ∀ (n : Nat) (w : World), n < k → n ≤ 9223372036854775807 →
    Calls Tryd.prog 48 #[.int .i64 (n : Int)] w fun e w' => e = .returned (.string ⟨(Lib.decDigits n).toArray⟩) ∧ ∃ m, w' = w.drewN m := by
  induction k with
  | zero => intro n w h; omega
  | succ k ih =>
    intro n w hk hn
    have g1 : ¬ (n : Int) < 0 := by omega
    by_cases h10 : n < 10
    · have g2 : (n : Int) < 10 := by omega
      have hcut := dig10 n h10
      have hdd := hidM (dd_small h10)
      unfold digS10 at hcut
      generalize UInt8.ofNat (48 + n) = d at *
      go_enter Tryd.func48, Tryd.ntmps48
      go_wp2_with fail
      go_ret
      exact ⟨by rw [hdd.out]; rfl, 0, rfl⟩
    · have g2 : ¬ (n : Int) < 10 := by omega
      obtain ⟨q, hq⟩ : ∃ q, q = n / 10 := ⟨_, rfl⟩
      obtain ⟨r, hr⟩ : ∃ r, r = n % 10 := ⟨_, rfl⟩
      have hr10 : r < 10 := by omega
      have r1 : (n : Int) / 10 = (q : Int) := by omega
      have r2 : (n : Int) % 10 = (r : Int) := by omega
      have hcut := dig10 r hr10
      unfold digS10 at hcut
      have hdd := hidM (dd_big (u := n) (by omega))
      rw [← hq, ← hr] at hdd
      have IH : Hid (∀ w, Calls Tryd.prog 48 #[.int .i64 (q : Int)] w fun e w' => e = .returned (.string ⟨(Lib.decDigits q).toArray⟩) ∧ ∃ m, w' = w.drewN m) := fun w => ih q w (by omega) (by omega)
      clear ih hq hr
      have hlen : (⟨(Lib.decDigits q).toArray⟩ : ByteArray).size ≤ 100 := by
        show (Lib.decDigits q).toArray.size ≤ 100
        rw [List.size_toArray, Lib.decDigits_length]
        have := Lib.nDigits_le20 q (by omega)
        omega
      generalize UInt8.ofNat (48 + r) = d at *
      have HAP := hidM (app_one (Lib.decDigits q) d)
      generalize (⟨(Lib.decDigits q).toArray⟩ : ByteArray) = Q at *
      go_enter Tryd.func48, Tryd.ntmps48
      go_wp2_with fail
      go_quiet ((go_at_call 48; with_reducible exact Calls.quiet_of (IH.out _)))
      go_wp2
      go_ret
      exact ⟨by rw [hdd.out, ← HAP.out]; rfl, nq, rfl⟩
set_option maxHeartbeats 1600000 in
theorem digits_neg (k : Nat) : ∀ (n : Nat) (w : World), n < k → 1 ≤ n → n ≤ 9223372036854775808 →
    Calls Tryd.prog 48 #[.int .i64 (-(n : Int))] w fun e w' => e = .returned (.string ⟨(45 :: Lib.decDigits n).toArray⟩) ∧ ∃ m, w' = w.drewN m := by
  induction k with
  | zero => intro n w h; omega
  | succ k ih =>
    intro n w hk h1 hn
    have g1 : -(n : Int) < 0 := by omega
    by_cases h10 : n < 10
    · have g2 : (-10 : Int) < -(n : Int) := by omega
      have IH : Hid (∀ w, Calls Tryd.prog 48 #[.int .i64 (n : Int)] w fun e w' => e = .returned (.string ⟨(Lib.decDigits n).toArray⟩) ∧ ∃ m, w' = w.drewN m) := fun w => digits_pos (n + 1) n w (by omega) (by omega)
      have HAP : Hid ((⟨#[45]⟩ : ByteArray) ++ ⟨(Lib.decDigits n).toArray⟩ = ⟨(45 :: Lib.decDigits n).toArray⟩) := by
        unfold Hid; apply ByteArray.ext; simp [ByteArray.data_append]
      have hlen : (⟨(Lib.decDigits n).toArray⟩ : ByteArray).size ≤ 100 := by
        show (Lib.decDigits n).toArray.size ≤ 100
        rw [List.size_toArray, Lib.decDigits_length]
        have := Lib.nDigits_le20 n (by omega)
        omega
      generalize (⟨(Lib.decDigits n).toArray⟩ : ByteArray) = Q at *
      clear ih
      go_enter Tryd.func48, Tryd.ntmps48
      go_wp2_with fail
      refine (IH.out w).mono ?_
      rintro _ w1 ⟨rfl, m, rfl⟩
      go_wp2_with fail
      go_ret
      exact ⟨by rw [← HAP.out]; rfl, m, rfl⟩
    · have g2 : ¬ (-10 : Int) < -(n : Int) := by omega
      obtain ⟨q, hq⟩ : ∃ q, q = n / 10 := ⟨_, rfl⟩
      obtain ⟨r, hr⟩ : ∃ r, r = n % 10 := ⟨_, rfl⟩
      have hr10 : r < 10 := by omega
      have r1 : (n : Int) / 10 = (q : Int) := by omega
      have r2 : (n : Int) % 10 = (r : Int) := by omega
      have r3 : (n : Int).tmod 10 = (r : Int) := by rw [Int.tmod_eq_emod_of_nonneg (by omega)]; exact r2
      have hdd := hidM (dd_big (u := n) (by omega))
      rw [← hq, ← hr, ← dd_small hr10] at hdd
      have IH : Hid (∀ w, Calls Tryd.prog 48 #[.int .i64 (-(q : Int))] w fun e w' => e = .returned (.string ⟨(45 :: Lib.decDigits q).toArray⟩) ∧ ∃ m, w' = w.drewN m) := fun w => ih q w (by omega) (by omega) (by omega)
      have IP : Hid (∀ w, Calls Tryd.prog 48 #[.int .i64 (r : Int)] w fun e w' => e = .returned (.string ⟨(Lib.decDigits r).toArray⟩) ∧ ∃ m, w' = w.drewN m) := fun w => digits_pos (r + 1) r w (by omega) (by omega)
      have HAP : Hid ((⟨(45 :: Lib.decDigits q).toArray⟩ : ByteArray) ++ ⟨(Lib.decDigits r).toArray⟩ = ⟨(45 :: (Lib.decDigits q ++ Lib.decDigits r)).toArray⟩) := by
        unfold Hid; apply ByteArray.ext; simp [ByteArray.data_append]
      have hl1 : (⟨(45 :: Lib.decDigits q).toArray⟩ : ByteArray).size ≤ 100 := by
        show (45 :: Lib.decDigits q).toArray.size ≤ 100
        rw [List.size_toArray, List.length_cons, Lib.decDigits_length]
        have := Lib.nDigits_le20 q (by omega)
        omega
      have hl2 : (⟨(Lib.decDigits r).toArray⟩ : ByteArray).size ≤ 100 := by
        show (Lib.decDigits r).toArray.size ≤ 100
        rw [List.size_toArray, Lib.decDigits_length]
        have := Lib.nDigits_le20 r (by omega)
        omega
      clear ih hq hr
      generalize (⟨(45 :: Lib.decDigits q).toArray⟩ : ByteArray) = Q at *
      generalize (⟨(Lib.decDigits r).toArray⟩ : ByteArray) = R at *
      go_enter Tryd.func48, Tryd.ntmps48
      go_wp2_with fail
      refine (IH.out w).mono ?_
      rintro _ w1 ⟨rfl, m, rfl⟩
      go_wp2_with fail
      refine (IP.out _).mono ?_
      rintro _ w1 ⟨rfl, m2, rfl⟩
      go_wp2_with fail
      go_ret
      exact ⟨by rw [hdd.out, ← HAP.out]; rfl, m + m2, rfl⟩
theorem digits_any (n : Int) (w : World) (h0 : -9223372036854775808 ≤ n) (h1 : n ≤ 9223372036854775807) :
    Calls Tryd.prog 48 #[.int .i64 n] w fun e w' => e = .returned (.string ⟨(Lib.itoa n).toArray⟩) ∧ ∃ m, w' = w.drewN m := by
  by_cases h : n < 0
  · obtain ⟨u, rfl⟩ : ∃ u : Nat, n = -(u : Int) := ⟨n.natAbs, by omega⟩
    rw [Lib.itoa_neg u (by omega)]
    exact digits_neg (u + 1) u w (by omega) (by omega) (by omega)
  · obtain ⟨u, rfl⟩ : ∃ u : Nat, n = (u : Int) := ⟨n.toNat, by omega⟩
    rw [Lib.itoa_nonneg]
    exact digits_pos (u + 1) u w (by omega) (by omega)
def h0 : List Nat := [1732584193, 4023233417, 2562383102, 271733878, 3285377520]
def h2 : List Nat := [1779033703, 3144134277, 1013904242, 2773480762, 1359893119, 2600822924, 528734635, 1541459225]
def nm : Nat → List UInt8
  | 1 => [99, 111, 109, 109, 105, 116]
  | 2 => [116, 114, 101, 101]
  | 3 => [98, 108, 111, 98]
  | 4 => [116, 97, 103]
  | _ => []
def nameL (k : Int) : List UInt8 := if 0 ≤ k then nm k.toNat else []
def NamesAt (w : World) : Prop := 0 < w.heap.size ∧ ∀ i, i < 5 → w.cell? ⟨0, i, none⟩ = some (.string ⟨(nm i).toArray⟩)
theorem nm_big (i : Nat) (h : 5 ≤ i) : nm i = [] := by
  unfold nm; split <;> first | omega | rfl
theorem nameL_neg (k : Int) (h : k < 0) : nameL k = [] := by unfold nameL; rw [if_neg (by omega)]
theorem nameL_big (k : Int) (h : 5 ≤ k) : nameL k = [] := by unfold nameL; rw [if_pos (by omega), nm_big _ (by omega)]
theorem name_any (k : Int) (w : World) (hN : NamesAt w) :
    Calls Tryd.prog 43 #[.int .i64 k] w fun e w' => e = .returned (.string ⟨(nameL k).toArray⟩) ∧ w' = w := by
  by_cases h0 : k < 0
  · have hn := hidM (nameL_neg k h0)
    go_enter Tryd.func43, Tryd.ntmps43
    go_wp2
    go_ret
    exact ⟨by rw [hn.out]; rfl, rfl⟩
  by_cases h5 : 5 ≤ k
  · have hn := hidM (nameL_big k h5)
    go_enter Tryd.func43, Tryd.ntmps43
    go_wp2
    go_ret
    exact ⟨by rw [hn.out]; rfl, rfl⟩
  obtain ⟨i, hi, rfl⟩ : ∃ i : Nat, i < 5 ∧ k = (i : Int) := ⟨k.toNat, by omega, by omega⟩
  have hc := hN.2 i hi
  have hn : Hid (nameL (i : Int) = nm i) := by unfold Hid nameL; rw [if_pos (by omega), Int.toNat_natCast]
  clear hN
  go_enter Tryd.func43, Tryd.ntmps43
  go_wp2
  go_ret
  exact ⟨by rw [hn.out]; rfl, rfl⟩
theorem NamesAt.below {w w' : World} (h : NamesAt w) (hb : Below w.heap.size w w') : NamesAt w' :=
  ⟨Nat.lt_of_lt_of_le h.1 hb.size, fun i hi => (hb.cell (p := ⟨0, i, none⟩) h.1).trans (h.2 i hi)⟩
/-- what the rows list, as far as the walks read it -/
structure LaidAt (w : World) : Prop where
  two : 2 < w.heap.size
  pow : Lib.TabIs Tryd.prog w "internal/strconv.uint64pow10" .u64 Lib.pow10Tab
theorem gPow : Tryd.prog.globalNamed "internal/strconv.uint64pow10" = some 2 := by kernel_rfl
theorem LaidAt.below {w w' : World} (h : LaidAt w) (hb : Below w.heap.size w w') : LaidAt w' := by
  refine ⟨Nat.lt_of_lt_of_le h.two hb.size, ?_⟩
  have h1 := h.pow
  unfold Lib.TabIs World.var? at h1 ⊢
  rw [gPow] at h1 ⊢
  simp only [Option.bind_some] at h1 ⊢
  rw [hb.block 2 h.two]
  exact h1
theorem LaidAt.drewN {w : World} (h : LaidAt w) (m : Nat) : LaidAt (w.drewN m) := h.below (below_drewN (Below.refl _ _) m)
theorem itoa_any (n : Int) (h0 : -9223372036854775808 ≤ n) (h1 : n ≤ 9223372036854775807) (w : World) (h : LaidAt w) :
    Calls Tryd.prog 51 #[.int .i64 n] w fun e w' => e = .returned (.string ⟨(Lib.itoa n).toArray⟩) ∧ Below w.heap.size w w' := by
  refine (Tryd.strconv_Itoa n h0 h1 w h.pow).mono ?_
  rintro e w' ⟨he, k, os, rfl⟩
  refine ⟨he, ⟨rfl, rfl, rfl, by simp [Sort.grow], fun k hk => ?_⟩⟩
  show (w.heap ++ os)[k]? = w.heap[k]?
  rw [Array.getElem?_append_left hk]
/-- V is w but for draws -/
def DrewOf (w V : World) : Prop := Below w.heap.size w V ∧ V.heap = w.heap
theorem DrewOf.drew {w V : World} (h : DrewOf w V) : DrewOf w V.drew := ⟨h.1.trans ⟨rfl, rfl, rfl, Nat.le_refl _, fun _ _ => rfl⟩, h.2⟩
theorem DrewOf.drewN {w V : World} (h : DrewOf w V) (m : Nat) : DrewOf w (V.drewN m) := ⟨below_drewN h.1 m, h.2⟩
theorem DrewOf.below {w V w' : World} (h : DrewOf w V) (hb : Below V.heap.size V w') : Below w.heap.size w w' := by
  have := hb
  rw [h.2] at this
  exact h.1.trans this
theorem two_le {a b c : World} {B : Nat} (h : Below B a b) (hb : Below b.heap.size b c) (hB : B ≤ b.heap.size) : Below B a c := h.trans (hb.mono hB)
def splitC (c : UInt8) : List UInt8 → Option (List UInt8 × List UInt8)
  | [] => none
  | b :: l => if b = c then some ([], l) else (splitC c l).map fun x => (b :: x.1, x.2)
theorem split_none {c : UInt8} {l : List UInt8} (h : splitC c l = none) : Lib.indexByte l c = -1 ∧ c ∉ l := by
  induction l with
  | nil => exact ⟨rfl, by simp⟩
  | cons b l ih =>
    unfold splitC at h
    by_cases hb : b = c
    · rw [if_pos hb] at h; cases h
    · rw [if_neg hb, Option.map_eq_none_iff] at h
      have := ih h
      refine ⟨?_, by simp [this.2, Ne.symm hb]⟩
      unfold Lib.indexByte
      rw [if_neg (by simpa using hb), this.1]
      rfl
theorem split_some {c : UInt8} {l p q : List UInt8} (h : splitC c l = some (p, q)) : Lib.indexByte l c = (p.length : Int) ∧ l = p ++ c :: q ∧ c ∉ p := by
  induction l generalizing p with
  | nil => cases h
  | cons b l ih =>
    unfold splitC at h
    by_cases hb : b = c
    · rw [if_pos hb] at h
      obtain ⟨rfl, rfl⟩ := Prod.mk.inj (Option.some.inj h)
      refine ⟨?_, by rw [hb]; rfl, by simp⟩
      unfold Lib.indexByte
      rw [if_pos (by simpa using hb)]; rfl
    · rw [if_neg hb, Option.map_eq_some_iff] at h
      obtain ⟨⟨p', q'⟩, hx, he⟩ := h
      obtain ⟨rfl, rfl⟩ := Prod.mk.inj he
      obtain ⟨h1, h2, h3⟩ := ih hx
      refine ⟨?_, by rw [h2]; rfl, by simp [h3, Ne.symm hb]⟩
      unfold Lib.indexByte
      rw [if_neg (by simpa using hb), h1, if_neg (by simp)]
      simp
/-- what Cut answers at one byte -/
def cutR (c : UInt8) (l : List UInt8) : List UInt8 × List UInt8 × Bool :=
  match splitC c l with
  | none => (l, [], false)
  | some (p, q) => (p, q, true)
theorem ext_head (s : ByteArray) (k : Nat) : (s.extract 0 k).data.toList = s.data.toList.take k := by simp
theorem ext_tail (s : ByteArray) (k : Nat) : (s.extract k s.size).data.toList = s.data.toList.drop k := by
  rw [ByteArray.data_extract, Array.toList_extract, List.extract_eq_take_drop]
  rw [List.take_of_length_le]
  rw [List.length_drop]; simp
theorem ba_of {s : ByteArray} {l : List UInt8} (h : s.data.toList = l) : s = ⟨l.toArray⟩ := by
  subst h; rfl
set_option maxHeartbeats 1600000 in
theorem cut_in (s : ByteArray) (c : UInt8) (w : World) (hs : s.size ≤ 9223372036854775807) :
    Calls Tryd.prog 78 #[.string s, .string ⟨#[c]⟩] w fun e w' => e = .returned (.tuple #[.string ⟨(cutR c s.data.toList).1.toArray⟩, .string ⟨(cutR c s.data.toList).2.1.toArray⟩, .bool (cutR c s.data.toList).2.2]) ∧ ∃ m, w' = w.drewN m := by
  cases h : splitC c s.data.toList with
  | none =>
    have h1 := (split_none h).1
    have HR : Hid (cutR c s.data.toList = (s.data.toList, [], false)) := by unfold Hid cutR; rw [h]
    have HI : Hid (Calls Tryd.prog 66 #[.string s, .string ⟨#[c]⟩] w fun e w' => e = .returned (.int .i64 (-1)) ∧ w' = w) := by
      have := Tryd.stringslite_Index_one s c w
      rw [h1] at this
      exact this
    clear h h1
    go_enter Tryd.func78, Tryd.ntmps78
    go_wp2_with (go_at_call 66; with_reducible refine HI.out.mono ?_; rintro e w' ⟨rfl, rfl⟩)
    go_ret3
    exact ⟨by rw [HR.out]; rfl, 0, rfl⟩
  | some x =>
    obtain ⟨p, q⟩ := x
    obtain ⟨h1, h2, h3⟩ := split_some h
    have HR : Hid (cutR c s.data.toList = (p, q, true)) := by unfold Hid cutR; rw [h]
    have HI : Hid (Calls Tryd.prog 66 #[.string s, .string ⟨#[c]⟩] w fun e w' => e = .returned (.int .i64 (p.length : Int)) ∧ w' = w) := by
      have := Tryd.stringslite_Index_one s c w
      rw [h1] at this
      exact this
    have hl : p.length + 1 ≤ s.size := by
      have : s.data.toList.length = s.size := by simp
      rw [h2] at this; simp at this; omega
    have HP : Hid (s.extract 0 p.length = ⟨p.toArray⟩) := ba_of (by rw [ext_head, h2, List.take_left])
    have HQ : Hid (s.extract (p.length + 1) s.size = ⟨q.toArray⟩) := ba_of (by rw [ext_tail, h2, List.drop_append, List.drop_of_length_le (by omega)]; simp)
    clear h h1 h2 h3
    generalize p.length = n at *
    have c1 : (0 : Int) ≤ (n : Int) := by omega
    have c2 : (n : Int) ≤ (s.size : Int) := by omega
    have c4 : (n : Int) + 1 ≤ (s.size : Int) := by omega
    have c5 : (0 : Int) ≤ (n : Int) + 1 := by omega
    go_enter Tryd.func78, Tryd.ntmps78
    go_wp2_with (go_at_call 66; with_reducible refine HI.out.mono ?_; rintro e w' ⟨rfl, rfl⟩)
    go_quiet (fail)
    go_wp2
    go_ret3
    exact ⟨by rw [HR.out, ← HP.out, ← HQ.out]; rfl, nq, rfl⟩
theorem cut_any (s : ByteArray) (c : UInt8) (w : World) (hs : s.size ≤ 9223372036854775807) :
    Calls Tryd.prog 67 #[.string s, .string ⟨#[c]⟩] w fun e w' => e = .returned (.tuple #[.string ⟨(cutR c s.data.toList).1.toArray⟩, .string ⟨(cutR c s.data.toList).2.1.toArray⟩, .bool (cutR c s.data.toList).2.2]) ∧ ∃ m, w' = w.drewN m := by
  have HC := hidM (cut_in s c w hs)
  generalize (cutR c s.data.toList).1.toArray = A at *
  generalize (cutR c s.data.toList).2.1.toArray = B at *
  generalize (cutR c s.data.toList).2.2 = D at *
  go_enter Tryd.func67, Tryd.ntmps67
  go_wp2_with fail
  refine HC.out.mono ?_
  rintro _ w1 ⟨rfl, m, rfl⟩
  go_wp2
  go_ret3
  exact ⟨rfl, m, rfl⟩
def kindL (l : List UInt8) : Nat := if l = nm 1 then 1 else if l = nm 2 then 2 else if l = nm 3 then 3 else if l = nm 4 then 4 else 0
theorem kindL_at (k : Nat) (h : k < 5) (l : List UInt8) (he : nm k = l) : kindL l = k := by
  subst he
  have : ∀ k, k < 5 → kindL (nm k) = k := by decide
  exact this k h
theorem kindL_no (l : List UInt8) (h : ∀ j, j < 5 → nm j ≠ l) : kindL l = 0 := by
  unfold kindL
  rw [if_neg (Ne.symm (h 1 (by decide))), if_neg (Ne.symm (h 2 (by decide))), if_neg (Ne.symm (h 3 (by decide))), if_neg (Ne.symm (h 4 (by decide)))]
set_option maxHeartbeats 1600000 in
theorem kind_any (s : ByteArray) (w : World) (hN : NamesAt w) :
    Calls Tryd.prog 62 #[.string s] w fun e w' => e = .returned (.int .i64 (kindL s.data.toList : Nat)) ∧ w' = w := by
  have HN := hidM hN
  clear hN
  go_enter Tryd.func62, Tryd.ntmps62
  go_wp2
  go_loopw [3, 4] (fun _ i wr => ∃ (k : Nat), k ≤ 5 ∧ i = .int .i64 k ∧ (∀ j, j < k → nm j ≠ s.data.toList) ∧ wr = w) (fun _ i _ => 5 - (intOf i).toNat)
  case atStart => exact ⟨0, by decide, rfl, fun j hj => by omega, rfl⟩
  case round =>
    obtain ⟨k, hk, rfl, hd, rfl⟩ := hrel
    have HD := hidM hd
    clear hd
    by_cases hlt : k < 5
    · have kk : (k : Int) < 5 := by omega
      have hc := HN.out.2 k hlt
      have k0 : (0 : Int) ≤ (k : Int) := by omega
      by_cases he : nm k = s.data.toList
      · have HK := hidM (kindL_at k hlt _ he)
        have e1 : (⟨(nm k).toArray⟩ : ByteArray) = s := by rw [he]
        rw [e1] at hc
        clear e1 he
        go_wp2
        go_ret
        exact ⟨by rw [HK.out]; rfl, rfl⟩
      · have e1 : ((⟨(nm k).toArray⟩ : ByteArray).toList == s.toList) = false := by
          rw [ByteArray.toList_eq, ByteArray.toList_eq]; exact beq_false_of_ne he
        have HX : Hid (∀ j, j < k + 1 → nm j ≠ s.data.toList) := fun j hj => by
          by_cases h : j < k
          · exact HD.out j h
          · have : j = k := by omega
            rw [this]; exact he
        clear he
        generalize (⟨(nm k).toArray⟩ : ByteArray) = X at *
        go_wp2
        go_roundw
        case rel => exact ⟨k + 1, by omega, by go_num, HX.out, trivial⟩
        case measure => (show 5 - ((k : Int) + 1).toNat < 5 - ((k : Int)).toNat); omega
    · obtain rfl : k = 5 := by omega
      have HK := hidM (kindL_no _ HD.out)
      go_wp2
      go_ret
      exact ⟨by rw [HK.out]; rfl, rfl⟩
theorem nameL_small (k : Int) (h : k < 1) : nameL k = [] := by
  unfold nameL
  split
  · obtain rfl : k = 0 := by omega
    rfl
  · rfl
set_option maxHeartbeats 1600000 in
theorem rname_any (k : Int) (w : World) :
    Calls Tryd.prog 44 #[.int .i64 k] w fun e w' => e = .returned (.string ⟨(nameL k).toArray⟩) ∧ Below w.heap.size w w' := by
  by_cases h0 : k < 1
  · have hn := hidM (nameL_small k h0)
    go_enter Tryd.func44, Tryd.ntmps44
    go_wp2
    go_ret
    exact ⟨by rw [hn.out]; rfl, Below.refl _ _⟩
  by_cases h5 : 4 < k
  · have hn := hidM (nameL_big k (by omega))
    go_enter Tryd.func44, Tryd.ntmps44
    go_wp2
    go_ret
    exact ⟨by rw [hn.out]; rfl, Below.refl _ _⟩
  obtain rfl | rfl | rfl | rfl : k = 1 ∨ k = 2 ∨ k = 3 ∨ k = 4 := by omega
  all_goals
    go_enter Tryd.func44, Tryd.ntmps44
    go_wp2
    go_ret
    exact ⟨rfl, (Below.refl _ _).alloc (Nat.le_refl _) _⟩
theorem index_app (c : UInt8) (p q : List UInt8) (h : c ∉ p) : Lib.indexByte (p ++ c :: q) c = (p.length : Int) := by
  induction p with
  | nil => unfold Lib.indexByte; simp
  | cons b p ih =>
    have h1 : b ≠ c := fun e => h (by simp [e])
    have h2 := ih (fun hc => h (by simp [hc]))
    show Lib.indexByte (b :: (p ++ c :: q)) c = _
    unfold Lib.indexByte
    rw [if_neg (by simpa using h1), h2, if_neg (by simp)]
    simp
theorem index_none (c : UInt8) (l : List UInt8) (h : c ∉ l) : Lib.indexByte l c = -1 := by
  induction l with
  | nil => rfl
  | cons b l ih =>
    have h1 : b ≠ c := fun e => h (by simp [e])
    unfold Lib.indexByte
    rw [if_neg (by simpa using h1), ih (fun hc => h (by simp [hc]))]
    rfl
theorem split_at (s : ByteArray) (k : Nat) (h : k < s.size) : s.data.toList = s.data.toList.take k ++ s[k] :: s.data.toList.drop (k + 1) := by
  have h1 : k < s.data.toList.length := by simpa using h
  rw [show s[k] = s.data.toList[k] from rfl, ← List.drop_eq_getElem_cons h1, List.take_append_drop]
set_option maxHeartbeats 1600000 in
theorem find_any (s : ByteArray) (c : UInt8) (w : World) (hs : s.size ≤ 9223372036854775807) :
    Calls Tryd.prog 35 #[.string s, .int .u8 (c.toNat : Int)] w fun e w' => e = .returned (.int .i64 (Lib.indexByte s.data.toList c)) ∧ w' = w := by
  go_enter Tryd.func35, Tryd.ntmps35
  go_wp2
  go_loopw [5] (fun i wr => ∃ (k : Nat), k ≤ s.size ∧ i = .int .i64 k ∧ c ∉ s.data.toList.take k ∧ wr = w) (fun i _ => s.size - (intOf i).toNat)
  case atStart => exact ⟨0, Nat.zero_le _, rfl, by simp, rfl⟩
  case round =>
    obtain ⟨k, hk, rfl, hd, rfl⟩ := hrel
    have HD := hidM hd
    clear hd
    by_cases hlt : k < s.size
    · have kk : (k : Int) < (s.size : Int) := by omega
      by_cases he : s[k] = c
      · have HI : Hid (Lib.indexByte s.data.toList c = (k : Int)) := by
          unfold Hid
          have h := index_app c (s.data.toList.take k) (s.data.toList.drop (k + 1)) HD.out
          rw [← he] at h
          rw [← split_at s k hlt, he] at h
          rw [h, List.length_take]
          have : s.data.toList.length = s.size := by simp
          rw [Nat.min_eq_left (by omega)]
        have e1 : (s[k].toNat : Int) = (c.toNat : Int) := by rw [he]
        clear he
        go_wp2
        go_ret
        exact ⟨by rw [HI.out]; rfl, rfl⟩
      · have HX : Hid (c ∉ s.data.toList.take (k + 1)) := by
          unfold Hid
          rw [take_one s k hlt]
          intro h
          rcases List.mem_append.1 h with h | h
          · exact HD.out h
          · rw [List.mem_singleton] at h; exact he h.symm
        have e1 : ¬ (s[k].toNat : Int) = (c.toNat : Int) := fun h => he (by rw [← UInt8.toNat_inj]; omega)
        have e2 : ((s[k].toNat : Int) == (c.toNat : Int)) = false := beq_false_of_ne e1
        clear he
        go_wp2
        go_roundw
        case rel => exact ⟨k + 1, by omega, by go_num, HX.out, trivial⟩
        case measure => (show s.size - ((k : Int) + 1).toNat < s.size - ((k : Int)).toNat); omega
    · obtain rfl : k = s.size := by omega
      have HI : Hid (Lib.indexByte s.data.toList c = -1) := index_none c _ (by
        have := HD.out
        rwa [List.take_of_length_le (by rw [sl_len]; omega)] at this)
      go_wp2
      go_ret
      exact ⟨by rw [HI.out]; rfl, rfl⟩
set_option maxHeartbeats 1600000 in
theorem rkind_any (s : ByteArray) (w : World) :
    Calls Tryd.prog 47 #[.string s] w fun e w' => e = .returned (.int .i64 (kindL s.data.toList : Nat)) ∧ Below w.heap.size w w' := by
  go_enter Tryd.func47, Tryd.ntmps47
  go_wp2
  go_loopw [3] (fun i wr => ∃ (k : Nat), 1 ≤ k ∧ k ≤ 5 ∧ i = .int .i64 k ∧ (∀ j, 1 ≤ j → j < k → nm j ≠ s.data.toList) ∧ Below w.heap.size w wr) (fun i _ => 5 - (intOf i).toNat)
  case atStart => exact ⟨1, by decide, by decide, rfl, fun j hj => by omega, Below.refl _ _⟩
  case round =>
    obtain ⟨k, hk1, hk, rfl, hd, hb⟩ := hrel
    have HD := hidM hd
    have HB := hidM hb
    clear hd hb
    by_cases hlt : k < 5
    · have kk : (k : Int) ≤ 4 := by omega
      have HC : Hid (∀ V, Calls Tryd.prog 44 #[.int .i64 (k : Int)] V fun e w' => e = .returned (.string ⟨(nm k).toArray⟩) ∧ Below V.heap.size V w') := fun V => by
        have h := rname_any (k : Int) V
        unfold nameL at h
        rw [if_pos (by omega), Int.toNat_natCast] at h
        exact h
      by_cases he : nm k = s.data.toList
      · have HK := hidM (kindL_at k hlt _ he)
        have e1 : (⟨(nm k).toArray⟩ : ByteArray) = s := by rw [he]
        rw [e1] at HC
        clear e1 he
        go_wp2_with fail
        refine (HC.out _).mono ?_
        rintro _ w2 ⟨rfl, hb2⟩
        have HB2 := hidM (two_le HB.out hb2 HB.out.size)
        go_wp2_with fail
        go_ret
        exact ⟨by rw [HK.out]; rfl, HB2.out⟩
      · have e1 : ((⟨(nm k).toArray⟩ : ByteArray).toList == s.toList) = false := by
          rw [ByteArray.toList_eq, ByteArray.toList_eq]; exact beq_false_of_ne he
        have HX : Hid (∀ j, 1 ≤ j → j < k + 1 → nm j ≠ s.data.toList) := fun j hj1 hj => by
          by_cases h : j < k
          · exact HD.out j hj1 h
          · have : j = k := by omega
            rw [this]; exact he
        clear he
        generalize (⟨(nm k).toArray⟩ : ByteArray) = X at *
        go_wp2_with fail
        refine (HC.out _).mono ?_
        rintro _ w2 ⟨rfl, hb2⟩
        have HB2 := hidM (two_le HB.out hb2 HB.out.size)
        clear hb2
        go_wp2_with fail
        go_roundw
        case rel => exact ⟨k + 1, by omega, by omega, by go_num, HX.out, HB2.out⟩
        case measure => (show 5 - ((k : Int) + 1).toNat < 5 - ((k : Int)).toNat); omega
    · obtain rfl : k = 5 := by omega
      have HK : Hid (kindL s.data.toList = 0) := by
        unfold Hid kindL
        rw [if_neg (Ne.symm (HD.out 1 (by decide) (by decide))), if_neg (Ne.symm (HD.out 2 (by decide) (by decide))), if_neg (Ne.symm (HD.out 3 (by decide) (by decide))), if_neg (Ne.symm (HD.out 4 (by decide) (by decide)))]
      go_wp2_with fail
      go_ret
      exact ⟨by rw [HK.out]; rfl, HB.out⟩
end Go.Proofs.YtbghailohnppmaaDoor
