/-
  Walks of semver's order: cmp.Compare, cmp.Or, byNumber, byWord.
-/
import Derived.Test.YtmhjdahmmdfbcaaGreatDoorSemB
namespace Go.Proofs.YtmhjdahmmdfbcaaGreatDoor
open Go.RowKit
def cmpI (a b : Int) : Int := if a < b then -1 else if b < a then 1 else 0
def orL : List Int → Int
  | [] => 0
  | a :: l => if a = 0 then orL l else a
set_option maxRecDepth 100000 in
theorem nan_any (a : Int) (w : World) : Calls Tryz.prog 99 #[.int .i64 a] w fun e w' => e = .returned (.bool false) ∧ w' = w := by
  go_enter Tryz.func99, Tryz.ntmps99
  go_wp2
  go_ret
  exact ⟨rfl, rfl⟩
set_option maxRecDepth 100000 in
theorem cmpI_any (a b : Int) (w : World) : Calls Tryz.prog 69 #[.int .i64 a, .int .i64 b] w fun e w' => e = .returned (.int .i64 (cmpI a b)) ∧ w' = w := by
  have HA := hidM (nan_any a w)
  have HB := hidM (nan_any b w)
  unfold cmpI
  by_cases h1 : a < b
  · rw [if_pos h1]
    have b1 : decide (a < b) = true := by simpa using h1
    go_enter Tryz.func69, Tryz.ntmps69
    go_wp2_with fail
    refine HA.out.mono ?_
    rintro _ w1 ⟨rfl, h⟩
    rw [h]
    go_wp2_with fail
    refine HB.out.mono ?_
    rintro _ w2 ⟨rfl, h⟩
    rw [h]
    go_wp2
    go_ret
    exact ⟨rfl, rfl⟩
  · rw [if_neg h1]
    have b1 : decide (a < b) = false := by simpa using h1
    by_cases h2 : b < a
    · rw [if_pos h2]
      have b2 : decide (b < a) = true := by simpa using h2
      go_enter Tryz.func69, Tryz.ntmps69
      go_wp2_with fail
      refine HA.out.mono ?_
      rintro _ w1 ⟨rfl, h⟩
      rw [h]
      go_wp2_with fail
      refine HB.out.mono ?_
      rintro _ w2 ⟨rfl, h⟩
      rw [h]
      go_wp2
      go_ret
      exact ⟨rfl, rfl⟩
    · rw [if_neg h2]
      have b2 : decide (b < a) = false := by simpa using h2
      go_enter Tryz.func69, Tryz.ntmps69
      go_wp2_with fail
      refine HA.out.mono ?_
      rintro _ w1 ⟨rfl, h⟩
      rw [h]
      go_wp2_with fail
      refine HB.out.mono ?_
      rintro _ w2 ⟨rfl, h⟩
      rw [h]
      go_wp2
      go_ret
      exact ⟨rfl, rfl⟩
theorem or_hit : ∀ (L : List Int) (k : Nat) (h : k < L.length), (∀ j (hj : j < L.length), j < k → L[j] = 0) → L[k] ≠ 0 → orL L = L[k]
  | [], k, h, _, _ => absurd h (by simp)
  | a :: l, 0, _, _, hn => by
    have hn' : a ≠ 0 := hn
    show (if a = 0 then orL l else a) = a
    rw [if_neg hn']
  | a :: l, k + 1, h, hz, hn => by
    have h0 : a = 0 := hz 0 (by simp) (by omega)
    have hk : k < l.length := by simpa using h
    show (if a = 0 then orL l else a) = l[k]
    rw [if_pos h0]
    exact or_hit l k hk (fun j hj hjk => hz (j + 1) (by simp; omega) (by omega)) hn
theorem or_zero : ∀ (L : List Int), (∀ j (hj : j < L.length), L[j] = 0) → orL L = 0
  | [], _ => rfl
  | a :: l, hz => by
    have h0 : a = 0 := hz 0 (by simp)
    show (if a = 0 then orL l else a) = 0
    rw [if_pos h0]
    exact or_zero l fun j hj => hz (j + 1) (by simp; omega)
set_option maxHeartbeats 1000000 in
set_option maxRecDepth 100000 in
theorem or_any (g : Nat) (L : List Int) (w : World) (hl : L.length ≤ 4) (hr : w.heap[g]? = some (.cells (L.map fun x => Value.int .i64 x).toArray 3)) :
    Calls Tryz.prog 41 #[.slice (some ⟨g, 0, none⟩) L.length L.length] w fun e w' => e = .returned (.int .i64 (orL L)) ∧ w' = w := by
  have HC : Hid (∀ k, (h : k < L.length) → w.cell? ⟨g, k, none⟩ = some (.int .i64 L[k])) := fun k h => by
    rw [cell_of_row _ _ _ _ 3 (0, 0) hr]
    simp [h]
  clear hr
  go_enter Tryz.func41, Tryz.ntmps41
  go_wp2
  go_loopw [5, 8] (fun _ iv wr => ∃ k : Nat, k ≤ L.length ∧ iv = .int .i64 (k : Int) ∧ (∀ j (hj : j < L.length), j < k → L[j] = 0) ∧ w = wr) (fun _ i _ => L.length - (intOf i).toNat)
  case atStart => exact ⟨0, Nat.zero_le _, rfl, fun j _ hj => by omega, rfl⟩
  case round =>
    obtain ⟨k, hk, rfl, hno, hwr⟩ := hrel
    subst hwr
    have HNO := hidM hno
    clear hno
    by_cases hlt : k < L.length
    · have gk : (k : Int) < (L.length : Int) := by omega
      have ck := HC.out k hlt
      by_cases h0 : L[k] = 0
      · have HNX : Hid (∀ j (hj : j < L.length), j < k + 1 → L[j] = 0) := fun j hj hjk => by
          rcases Nat.lt_or_ge j k with h | h
          · exact HNO.out j hj h
          · obtain rfl : j = k := by omega
            exact h0
        rw [h0] at ck
        clear h0
        go_wp2
        go_roundw
        case rel => exact ⟨k + 1, by omega, by go_num, HNX.out, by first | rfl | trivial⟩
        case measure => simp [intOf]; omega
      · have HR : Hid (orL L = L[k]) := or_hit L k hlt HNO.out h0
        have b0 : (L[k] == 0) = false := by simpa using h0
        rw [← HR.out] at ck b0
        clear h0
        generalize hv : orL L = v at *
        have HV := hidM hv
        clear hv
        have b1 : (v != 0) = true := by simpa using b0
        go_wp2
        go_ret
        exact ⟨by rw [HV.out]; rfl, rfl⟩
    · have gk : ¬ (k : Int) < (L.length : Int) := by omega
      have HR : Hid (orL L = 0) := or_zero L fun j hj => HNO.out j hj (by omega)
      go_wp2
      go_ret
      exact ⟨by rw [HR.out]; rfl, rfl⟩
def numC (a b : ByteArray) : Int := orL [cmpI (a.size : Int) (b.size : Int), Lib.compareBytes a.data.toList b.data.toList]
set_option maxHeartbeats 1000000 in
set_option maxRecDepth 100000 in
theorem byNumber_any (a b : ByteArray) (w : World) : Calls Tryz.prog 42 #[.string a, .string b] w fun e w' => e = .returned (.int .i64 (numC a b)) ∧ Below w.heap.size w w' := by
  have H1 := hidM (cmpI_any (a.size : Int) (b.size : Int) w)
  have H2 := hidM (Tryz.strings_Compare a b w)
  unfold numC
  generalize cmpI (a.size : Int) (b.size : Int) = x at *
  generalize Lib.compareBytes a.data.toList b.data.toList = y at *
  have HO := hidM (or_any w.heap.size [x, y] (w.alloc (.cells #[.int .i64 x, .int .i64 y] 3)) (by simp) (_root_.Go.heap_alloc_new _ _))
  have HB : Hid (Below w.heap.size w (w.alloc (.cells #[.int .i64 x, .int .i64 y] 3))) := (Below.refl _ _).alloc (Nat.le_refl _) _
  go_enter Tryz.func42, Tryz.ntmps42
  go_wp2_with fail
  refine H1.out.mono ?_
  rintro _ w1 ⟨rfl, h⟩
  rw [h]
  go_wp2_with fail
  refine H2.out.mono ?_
  rintro _ w2 ⟨rfl, h⟩
  rw [h]
  go_wp2_with fail
  refine HO.out.mono ?_
  rintro _ w3 ⟨rfl, h⟩
  rw [h]
  go_wp2
  go_ret
  exact ⟨rfl, HB.out⟩
def wordCmp (a b : ByteArray) : Int := if digL a.data.toList && digL b.data.toList then numC a b else if digL a.data.toList then -1 else if digL b.data.toList then 1 else Lib.compareBytes a.data.toList b.data.toList
set_option maxHeartbeats 1000000 in
set_option maxRecDepth 100000 in
theorem byWord_any (a b : ByteArray) (w : World) (ha : a.size ≤ 9223372036854775807) (hb : b.size ≤ 9223372036854775807) : Calls Tryz.prog 72 #[.string a, .string b] w fun e w' => e = .returned (.int .i64 (wordCmp a b)) ∧ Below w.heap.size w w' := by
  have H1 := hidM (digits_any a w ha)
  have H2 := hidM (digits_any b w hb)
  have H3 := hidM (byNumber_any a b w)
  have H4 := hidM (Tryz.strings_Compare a b w)
  unfold wordCmp
  generalize digL a.data.toList = p at *
  generalize digL b.data.toList = q at *
  generalize numC a b = x at *
  generalize Lib.compareBytes a.data.toList b.data.toList = y at *
  cases p with
  | true =>
    cases q with
    | true =>
      go_enter Tryz.func72, Tryz.ntmps72
      go_wp2_with fail
      refine H1.out.mono ?_
      rintro _ w1 ⟨rfl, h⟩
      rw [h]
      go_wp2_with fail
      refine H2.out.mono ?_
      rintro _ w2 ⟨rfl, h⟩
      rw [h]
      go_wp2_with fail
      refine H3.out.mono ?_
      rintro _ w3 ⟨rfl, hb3⟩
      have HB3 := hidM hb3
      clear hb3
      go_wp2
      go_ret
      exact ⟨rfl, HB3.out⟩
    | false =>
      go_enter Tryz.func72, Tryz.ntmps72
      go_wp2_with fail
      refine H1.out.mono ?_
      rintro _ w1 ⟨rfl, h⟩
      rw [h]
      go_wp2_with fail
      refine H2.out.mono ?_
      rintro _ w2 ⟨rfl, h⟩
      rw [h]
      go_wp2
      go_ret
      exact ⟨rfl, Below.refl _ _⟩
  | false =>
    cases q with
    | true =>
      go_enter Tryz.func72, Tryz.ntmps72
      go_wp2_with fail
      refine H1.out.mono ?_
      rintro _ w1 ⟨rfl, h⟩
      rw [h]
      go_wp2_with fail
      refine H2.out.mono ?_
      rintro _ w2 ⟨rfl, h⟩
      rw [h]
      go_wp2
      go_ret
      exact ⟨rfl, Below.refl _ _⟩
    | false =>
      go_enter Tryz.func72, Tryz.ntmps72
      go_wp2_with fail
      refine H1.out.mono ?_
      rintro _ w1 ⟨rfl, h⟩
      rw [h]
      go_wp2_with fail
      refine H2.out.mono ?_
      rintro _ w2 ⟨rfl, h⟩
      rw [h]
      go_wp2_with fail
      refine H4.out.mono ?_
      rintro _ w3 ⟨rfl, h⟩
      rw [h]
      go_wp2
      go_ret
      exact ⟨rfl, Below.refl _ _⟩
end Go.Proofs.YtmhjdahmmdfbcaaGreatDoor
