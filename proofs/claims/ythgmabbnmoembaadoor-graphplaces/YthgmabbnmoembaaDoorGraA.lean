/-
  Rows of numbers in the heap; looking for a number.
-/
import Derived.BigQuiet
import Derived.BigRegion
import Derived.Deep.QuietTactic
import Derived.Deep.RegionHeld3
import Derived.Laws.IdiomStrings
import Derived.Laws.ResultCell
import Derived.OwnWalk
import Derived.WalkKit
import Derived.WalkLawsBesides
import Derived.WalkSmall
import Derived.WalkSpells
import Derived.Deep.DeepCutAuto
import Derived.Deep.MidRow
import Derived.OpenShut
import Derived.Laws.OwnMore
import Derived.Laws.ComplexArith
import Derived.Test.YthgmabbnmoembaaDoorProg
import Derived.Test.YthgmabbnmoembaaDoorGraM
namespace Go.Proofs.YthgmabbnmoembaaDoor
open Go.RowKit

theorem hidM {p : Prop} (h : p) : Hid p := h
theorem ret_int {k : IntKind} {a b : Int} (h : a = b) : Ending.returned (.int k a) = .returned (.int k b) := by rw [h]
def IntsAt (w : World) (g o : Nat) (l : List Int) : Prop := ∀ j (h : j < l.length), w.cell? ⟨g, o + j, none⟩ = some (.int .i64 l[j])
theorem IntsAt.below {w w' : World} {g o B : Nat} {l : List Int} (h : IntsAt w g o l) (hb : Below B w w') (hB : g < B) : IntsAt w' g o l := fun j hj =>
  (hb.cell (p := ⟨g, o + j, none⟩) hB).trans (h j hj)
/-- the list of numbers that a value is -/
def IntsV (w : World) (v : Value) (l : List Int) : Prop := ∃ a c, v = .slice a l.length c ∧ l.length ≤ c ∧ (a = none → c = 0) ∧ (l ≠ [] → ∃ g o, a = some ⟨g, o, none⟩ ∧ g < w.heap.size ∧ IntsAt w g o l)
theorem IntsV.below {w w' : World} {v : Value} {l : List Int} (h : IntsV w v l) (hb : Below w.heap.size w w') : IntsV w' v l := by
  obtain ⟨a, c, hv, hc, h0, hs⟩ := h
  exact ⟨a, c, hv, hc, h0, fun hne => by obtain ⟨g, o, h1, h2, h3⟩ := hs hne; exact ⟨g, o, h1, Nat.lt_of_lt_of_le h2 hb.size, h3.below hb h2⟩⟩
/-- the list of lists of numbers that a value is -/
def RowsAt (w : World) (g o : Nat) (L : List (List Int)) : Prop := ∀ j (h : j < L.length), ∃ u, w.cell? ⟨g, o + j, none⟩ = some u ∧ IntsV w u L[j]
def RowsV (w : World) (v : Value) (L : List (List Int)) : Prop := ∃ a c, v = .slice a L.length c ∧ L.length ≤ c ∧ (L ≠ [] → ∃ g o, a = some ⟨g, o, none⟩ ∧ g < w.heap.size ∧ RowsAt w g o L)
theorem RowsAt.below {w w' : World} {g o : Nat} {L : List (List Int)} (h : RowsAt w g o L) (hb : Below w.heap.size w w') (hg : g < w.heap.size) : RowsAt w' g o L := fun j hj => by
  obtain ⟨u, h1, h2⟩ := h j hj
  exact ⟨u, (hb.cell (p := ⟨g, o + j, none⟩) hg).trans h1, h2.below hb⟩
theorem RowsV.below {w w' : World} {v : Value} {L : List (List Int)} (h : RowsV w v L) (hb : Below w.heap.size w w') : RowsV w' v L := by
  obtain ⟨a, c, hv, hc, hs⟩ := h
  exact ⟨a, c, hv, hc, fun hne => by obtain ⟨g, o, h1, h2, h3⟩ := hs hne; exact ⟨g, o, h1, Nat.lt_of_lt_of_le h2 hb.size, h3.below hb h2⟩⟩
theorem drew_below (w : World) : Below w.heap.size w w.drew := (Below.refl _ w).trans ⟨rfl, rfl, rfl, Nat.le_refl _, fun _ _ => rfl⟩
theorem drewN_below (w : World) (n : Nat) : Below w.heap.size w (w.drewN n) := below_drewN (Below.refl _ _) n

def posZ (c : Int) (l : List Int) : Int := if pos c l < l.length then (pos c l : Int) else -1
theorem posZ_eq (c : Int) (l : List Int) (k : Nat) (hk : k < l.length) (h : l[k] = c) (hf : ∀ j (hj : j < l.length), j < k → l[j] ≠ c) : posZ c l = (k : Int) := by
  unfold posZ; rw [pos_eq c l k hk h hf, if_pos hk]
theorem posZ_none (c : Int) (l : List Int) (hf : ∀ j (hj : j < l.length), l[j] ≠ c) : posZ c l = -1 := by
  unfold posZ; rw [pos_none c l hf, if_neg (by omega)]
theorem posZ_ge {c : Int} {l : List Int} (h : c ∈ l) : 0 ≤ posZ c l := by
  unfold posZ; rw [if_pos (pos_mem.1 h)]; omega
theorem posZ_lt {c : Int} {l : List Int} (h : c ∉ l) : posZ c l < 0 := by
  unfold posZ; rw [if_neg (fun h1 => h (pos_mem.2 h1))]; omega

set_option maxHeartbeats 1000000 in
theorem index_any (v : Value) (l : List Int) (c : Int) (w : World) (hv : IntsV w v l) (hl : l.length ≤ 1000000) :
    Calls Tryd.prog 40 #[v, .int .i64 c] w fun e w' => e = .returned (.int .i64 (posZ c l)) ∧ w' = w := by
  obtain ⟨a, cp, rfl, _, _, hst⟩ := hv
  have HST := hidM hst
  clear hst
  go_enter Tryd.func40, Tryd.ntmps40
  go_wp2
  go_loop [8] (fun i => ∃ (k : Nat), k ≤ l.length ∧ i = .int .i64 k ∧ Hid (∀ j (h : j < l.length), j < k → l[j] ≠ c)) (fun i => l.length - (intOf i).toNat)
  case atStart => exact ⟨0, Nat.zero_le _, rfl, fun j _ h => by omega⟩
  case round =>
    obtain ⟨k, hk, rfl, hd⟩ := hrel
    by_cases hlt : k < l.length
    · have kk : (k : Int) < (l.length : Int) := by omega
      obtain ⟨g, o, rfl, hg, hat⟩ := HST.out (fun h => by rw [h] at hlt; simp at hlt)
      have ck := hat k hlt
      clear hat
      by_cases he : l[k] = c
      · have HR : Hid (posZ c l = (k : Int)) := posZ_eq c l k hlt he hd.out
        rw [he] at ck
        clear he
        go_wp2
        go_ret
        exact ⟨ret_int HR.out.symm, rfl⟩
      · have HN : Hid (∀ j (h : j < l.length), j < k + 1 → l[j] ≠ c) := fun j h hj => by
          by_cases h5 : j < k
          · exact hd.out j h h5
          · have : j = k := by omega
            subst this; exact he
        have e1 : (c == l[k]) = false := by simp; omega
        generalize l[k] = y at *
        clear he
        go_wp2
        go_round
        case rel => exact ⟨k + 1, by omega, by go_num, HN⟩
        case measure => (show l.length - ((k : Int) + 1).toNat < l.length - ((k : Int)).toNat); omega
    · have HR : Hid (posZ c l = -1) := posZ_none c l fun j hj => hd.out j hj (by omega)
      have kk : ¬ (k : Int) < (l.length : Int) := by omega
      go_wp2
      go_ret
      exact ⟨ret_int HR.out.symm, rfl⟩

set_option maxHeartbeats 1000000 in
theorem indexL_any (v : Value) (l : List Int) (c : Int) (w : World) (hv : IntsV w v l) (hl : l.length ≤ 1000000) :
    Calls Tryd.prog 29 #[v, .int .i64 c] w fun e w' => e = .returned (.int .i64 (posZ c l)) ∧ w' = w := by
  obtain ⟨a, cp, rfl, _, _, hst⟩ := hv
  have HST := hidM hst
  clear hst
  go_enter Tryd.func29, Tryd.ntmps29
  go_wp2
  go_loop [8] (fun i => ∃ (k : Nat), k ≤ l.length ∧ i = .int .i64 k ∧ Hid (∀ j (h : j < l.length), j < k → l[j] ≠ c)) (fun i => l.length - (intOf i).toNat)
  case atStart => exact ⟨0, Nat.zero_le _, rfl, fun j _ h => by omega⟩
  case round =>
    obtain ⟨k, hk, rfl, hd⟩ := hrel
    by_cases hlt : k < l.length
    · have kk : (k : Int) < (l.length : Int) := by omega
      obtain ⟨g, o, rfl, hg, hat⟩ := HST.out (fun h => by rw [h] at hlt; simp at hlt)
      have ck := hat k hlt
      clear hat
      by_cases he : l[k] = c
      · have HR : Hid (posZ c l = (k : Int)) := posZ_eq c l k hlt he hd.out
        rw [he] at ck
        clear he
        go_wp2
        go_ret
        exact ⟨ret_int HR.out.symm, rfl⟩
      · have HN : Hid (∀ j (h : j < l.length), j < k + 1 → l[j] ≠ c) := fun j h hj => by
          by_cases h5 : j < k
          · exact hd.out j h h5
          · have : j = k := by omega
            subst this; exact he
        have e1 : (c == l[k]) = false := by simp; omega
        generalize l[k] = y at *
        clear he
        go_wp2
        go_round
        case rel => exact ⟨k + 1, by omega, by go_num, HN⟩
        case measure => (show l.length - ((k : Int) + 1).toNat < l.length - ((k : Int)).toNat); omega
    · have HR : Hid (posZ c l = -1) := posZ_none c l fun j hj => hd.out j hj (by omega)
      have kk : ¬ (k : Int) < (l.length : Int) := by omega
      go_wp2
      go_ret
      exact ⟨ret_int HR.out.symm, rfl⟩

set_option maxHeartbeats 1000000 in
theorem find_any (v : Value) (l : List Int) (c : Int) (w : World) (hv : IntsV w v l) (hl : l.length ≤ 1000000) :
    Calls Tryd.prog 20 #[v, .int .i64 c] w fun e w' => e = .returned (.int .i64 (posZ c l)) ∧ w' = w := by
  obtain ⟨a, cp, rfl, _, _, hst⟩ := hv
  have HST := hidM hst
  clear hst
  go_enter Tryd.func20, Tryd.ntmps20
  go_wp2
  go_loop [9] (fun i => ∃ (k : Nat), k ≤ l.length ∧ i = .int .i64 k ∧ Hid (∀ j (h : j < l.length), j < k → l[j] ≠ c)) (fun i => l.length - (intOf i).toNat)
  case atStart => exact ⟨0, Nat.zero_le _, rfl, fun j _ h => by omega⟩
  case round =>
    obtain ⟨k, hk, rfl, hd⟩ := hrel
    by_cases hlt : k < l.length
    · have kk : (k : Int) < (l.length : Int) := by omega
      obtain ⟨g, o, rfl, hg, hat⟩ := HST.out (fun h => by rw [h] at hlt; simp at hlt)
      have ck := hat k hlt
      clear hat
      by_cases he : l[k] = c
      · have HR : Hid (posZ c l = (k : Int)) := posZ_eq c l k hlt he hd.out
        rw [he] at ck
        clear he
        go_wp2
        go_ret
        exact ⟨ret_int HR.out.symm, rfl⟩
      · have HN : Hid (∀ j (h : j < l.length), j < k + 1 → l[j] ≠ c) := fun j h hj => by
          by_cases h5 : j < k
          · exact hd.out j h h5
          · have : j = k := by omega
            subst this; exact he
        have e1 : (l[k] == c) = false := by simp; omega
        generalize l[k] = y at *
        clear he
        go_wp2
        go_round
        case rel => exact ⟨k + 1, by omega, by go_num, HN⟩
        case measure => (show l.length - ((k : Int) + 1).toNat < l.length - ((k : Int)).toNat); omega
    · have HR : Hid (posZ c l = -1) := posZ_none c l fun j hj => hd.out j hj (by omega)
      have kk : ¬ (k : Int) < (l.length : Int) := by omega
      go_wp2
      go_ret
      exact ⟨ret_int HR.out.symm, rfl⟩

set_option maxHeartbeats 1000000 in
theorem contains_any (v : Value) (l : List Int) (c : Int) (w : World) (hv : IntsV w v l) (hl : l.length ≤ 1000000) :
    Calls Tryd.prog 28 #[v, .int .i64 c] w fun e w' => e = .returned (.bool (decide (c ∈ l))) ∧ w' = w := by
  have HI := hidM (index_any v l c w hv hl)
  clear hv
  by_cases hm : c ∈ l
  · have HR : Hid (decide (c ∈ l) = true) := by unfold Hid; simpa using hm
    have HP := posZ_ge hm
    generalize posZ c l = z at *
    have HD : decide ((0 : Int) ≤ z) = true := by simpa using HP
    clear hm
    go_enter Tryd.func28, Tryd.ntmps28
    go_wp2_with (go_at_call 40; refine HI.out.mono ?_; rintro _ _ ⟨rfl, rfl⟩)
    go_ret
    exact ⟨by rw [HR.out]; rfl, rfl⟩
  · have HR : Hid (decide (c ∈ l) = false) := by unfold Hid; simpa using hm
    have HP := posZ_lt hm
    generalize posZ c l = z at *
    have HD : decide ((0 : Int) ≤ z) = false := by simp; omega
    clear hm
    go_enter Tryd.func28, Tryd.ntmps28
    go_wp2_with (go_at_call 40; refine HI.out.mono ?_; rintro _ _ ⟨rfl, rfl⟩)
    go_ret
    exact ⟨by rw [HR.out]; rfl, rfl⟩

set_option maxHeartbeats 1000000 in
theorem containsL_any (v : Value) (l : List Int) (c : Int) (w : World) (hv : IntsV w v l) (hl : l.length ≤ 1000000) :
    Calls Tryd.prog 25 #[v, .int .i64 c] w fun e w' => e = .returned (.bool (decide (c ∈ l))) ∧ w' = w := by
  have HI := hidM (indexL_any v l c w hv hl)
  clear hv
  by_cases hm : c ∈ l
  · have HR : Hid (decide (c ∈ l) = true) := by unfold Hid; simpa using hm
    have HP := posZ_ge hm
    generalize posZ c l = z at *
    have HD : decide ((0 : Int) ≤ z) = true := by simpa using HP
    clear hm
    go_enter Tryd.func25, Tryd.ntmps25
    go_wp2_with (go_at_call 29; refine HI.out.mono ?_; rintro _ _ ⟨rfl, rfl⟩)
    go_ret
    exact ⟨by rw [HR.out]; rfl, rfl⟩
  · have HR : Hid (decide (c ∈ l) = false) := by unfold Hid; simpa using hm
    have HP := posZ_lt hm
    generalize posZ c l = z at *
    have HD : decide ((0 : Int) ≤ z) = false := by simp; omega
    clear hm
    go_enter Tryd.func25, Tryd.ntmps25
    go_wp2_with (go_at_call 29; refine HI.out.mono ?_; rintro _ _ ⟨rfl, rfl⟩)
    go_ret
    exact ⟨by rw [HR.out]; rfl, rfl⟩
end Go.Proofs.YthgmabbnmoembaaDoor
