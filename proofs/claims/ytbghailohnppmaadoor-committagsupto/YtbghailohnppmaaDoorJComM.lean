/-
  Taken over: names in hexadecimal.
  Rows of bytes, as texts.
  Two lists of texts, the same?
  Commits and tags as texts, over lists of bytes: what is written, and what is read.
-/
import Derived.BigQuiet
import Derived.BigRegion
import Derived.Deep.QuietTactic
import Derived.Deep.RegionHeld3
import Derived.Laws.IdiomStrings
import Derived.Laws.ResultCell
import Derived.Lib.ItoaLen
import Derived.Lib.ItoaMem
import Derived.OwnWalk
import Derived.WalkKit
import Derived.WalkLawsBesides
import Derived.WalkSmall
import Derived.WalkSpells
import Derived.Deep.DeepCutAuto
import Derived.Deep.MidRow
import Derived.OpenShut
import Derived.Deep.RegionLaw
import Derived.Laws.BitsAllLaws
import Derived.Test.YtbghailohnppmaaDoorJObA
import Derived.Laws.OwnMore
import Derived.Lib.AtoiAllCases
import Derived.Lib.Strings
namespace Go.Proofs.YtbghailohnppmaaDoor
open Go.RowKit

set_option maxRecDepth 100000 in
theorem byte_lt (c : UInt8) : c.toNat < 256 := UInt8.toNat_lt c
def isDigB (c : UInt8) : Bool := (decide (48 ≤ c.toNat) && decide (c.toNat ≤ 57)) || (decide (97 ≤ c.toNat) && decide (c.toNat ≤ 102))
def hexV (c : UInt8) : Nat := if 48 ≤ c.toNat ∧ c.toNat ≤ 57 then c.toNat - 48 else if 97 ≤ c.toNat ∧ c.toNat ≤ 102 then c.toNat - 87 else 0
def hexed (l : List UInt8) : Bool := l.all isDigB && decide (l.length % 2 = 0)
/-- All places below n hold digits. -/
def DigTo (l : List UInt8) (n : Nat) : Prop := ∀ i, i < n → isDigB (l.getD i 0) = true
set_option maxRecDepth 100000 in
theorem digTo_all (l : List UInt8) (h : DigTo l l.length) : l.all isDigB = true := by
  rw [List.all_eq_true]
  intro c hc
  obtain ⟨i, hi, rfl⟩ := List.getElem_of_mem hc
  have := h i hi
  rwa [List.getD_eq_getElem?_getD, List.getElem?_eq_getElem hi] at this
set_option maxRecDepth 100000 in
theorem not_all (l : List UInt8) (i : Nat) (hi : i < l.length) (h : isDigB (l.getD i 0) = false) : l.all isDigB = false := by
  rw [List.all_eq_false]
  refine ⟨l[i], List.getElem_mem hi, ?_⟩
  rw [List.getD_eq_getElem?_getD, List.getElem?_eq_getElem hi] at h
  simpa using h
set_option maxRecDepth 100000 in
theorem getD_at (s : ByteArray) (k : Nat) (h : k < s.size) : s.data.toList.getD k 0 = s[k] := by
  rw [List.getD_eq_getElem?_getD, List.getElem?_eq_getElem (by simpa using h)]
  rfl
set_option maxRecDepth 100000 in
theorem len_size (s : ByteArray) : s.data.toList.length = s.size := by simp
set_option maxRecDepth 100000 in
theorem ret_pair {a b : Int} {k : IntKind} {p q : Bool} (h : a = b) (g : p = q) : Ending.returned (.tuple #[.int k a, .bool p]) = .returned (.tuple #[.int k b, .bool q]) := by rw [h, g]
set_option maxHeartbeats 400000 in
set_option maxRecDepth 100000 in
theorem hexValue_any (c : UInt8) (w : World) :
    Calls Tryd.prog 54 #[.int .u8 (c.toNat : Int)] w fun e w' => e = .returned (.tuple #[.int .u8 (hexV c : Nat), .bool (isDigB c)]) ∧ w' = w := by
  have hc := byte_lt c
  by_cases h1 : 48 ≤ c.toNat ∧ c.toNat ≤ 57
  · have HV : Hid (hexV c = c.toNat - 48) := by unfold Hid hexV; rw [if_pos h1]
    have HD : Hid (isDigB c = true) := by unfold Hid isDigB; simp [h1]
    obtain ⟨a1, a2⟩ := h1
    generalize c.toNat = n at *
    go_enter Tryd.func54, Tryd.ntmps54
    go_wp2
    go_ret2
    exact ⟨ret_pair (by rw [HV.out]; omega) HD.out.symm, rfl⟩
  · by_cases h2 : 97 ≤ c.toNat ∧ c.toNat ≤ 102
    · have HV : Hid (hexV c = c.toNat - 87) := by unfold Hid hexV; rw [if_neg h1, if_pos h2]
      have HD : Hid (isDigB c = true) := by unfold Hid isDigB; simp [h2]
      obtain ⟨a1, a2⟩ := h2
      clear h1
      generalize c.toNat = n at *
      have g1 : ¬ n ≤ 57 := by omega
      go_enter Tryd.func54, Tryd.ntmps54
      go_wp2
      go_ret2
      exact ⟨ret_pair (by rw [HV.out]; omega) HD.out.symm, rfl⟩
    · have HV : Hid (hexV c = 0) := by unfold Hid hexV; rw [if_neg h1, if_neg h2]
      have HD : Hid (isDigB c = false) := by unfold Hid isDigB; simp; omega
      have hcases : c.toNat < 48 ∨ (57 < c.toNat ∧ c.toNat < 97) ∨ 102 < c.toNat := by omega
      clear h1 h2
      generalize c.toNat = n at *
      rcases hcases with g | ⟨g1, g2⟩ | g
      · have g3 : n < 97 := by omega
        go_enter Tryd.func54, Tryd.ntmps54
        go_wp2
        go_ret2
        exact ⟨ret_pair (by rw [HV.out]; rfl) HD.out.symm, rfl⟩
      · go_enter Tryd.func54, Tryd.ntmps54
        go_wp2
        go_ret2
        exact ⟨ret_pair (by rw [HV.out]; rfl) HD.out.symm, rfl⟩
      · go_enter Tryd.func54, Tryd.ntmps54
        go_wp2
        go_ret2
        exact ⟨ret_pair (by rw [HV.out]; rfl) HD.out.symm, rfl⟩
set_option maxRecDepth 100000 in
theorem ret_bool {p q : Bool} (h : p = q) : Ending.returned (.bool p) = .returned (.bool q) := by rw [h]
def idB (l : List UInt8) : Bool := l.all isDigB && decide (l.length = 40)
set_option maxRecDepth 100000 in
theorem idB_no (l : List UInt8) (i : Nat) (hi : i < l.length) (h : isDigB (l.getD i 0) = false) : idB l = false := by
  unfold idB; rw [not_all l i hi h]; rfl
set_option maxRecDepth 100000 in
theorem idB_yes (l : List UInt8) (hd : DigTo l l.length) (h : l.length = 40) : idB l = true := by
  unfold idB; rw [digTo_all l hd, h]; rfl
set_option maxRecDepth 100000 in
theorem idB_len (l : List UInt8) (h : ¬ l.length = 40) : idB l = false := by
  unfold idB; simp [h]
set_option maxHeartbeats 400000 in
set_option maxRecDepth 100000 in
theorem id_any (s : ByteArray) (w : World) (hs : s.size ≤ maxLen) :
    Calls Tryd.prog 32 #[.string s] w fun e w' => e = .returned (.bool (idB s.data.toList)) ∧ w' = w := by
  unfold maxLen at hs
  by_cases h40 : s.size = 40
  · have H40 := hidM h40
    have g1 : ((s.size : Int) != 40) = false := by rw [h40]; rfl
    have i1 : s.size ≤ 40 := by omega
    have i2 : 40 ≤ s.size := by omega
    clear h40
    go_enter Tryd.func32, Tryd.ntmps32
    go_wp2
    go_loop [3, 4, 5] (fun i _ _ => ∃ k : Nat, k ≤ s.size ∧ i = .int .i64 k ∧ DigTo s.data.toList k) (fun i _ _ => s.size - (intOf i).toNat)
    case atStart => exact ⟨0, Nat.zero_le _, rfl, fun i hi => by omega⟩
    case round =>
      obtain ⟨k, hk, rfl, hd⟩ := hrel
      have HD := hidM hd
      clear hd
      by_cases hlt : k < s.size
      · obtain ⟨c, hc⟩ : ∃ c, c = s[k] := ⟨_, rfl⟩
        have HC : Hid (s.data.toList.getD k 0 = c) := by unfold Hid; rw [getD_at s k hlt, hc]
        have hcc : (s[k].toNat : Int) = (c.toNat : Int) := by rw [hc]
        clear hc
        cases hdg : isDigB c
        · have HB := hidM hdg
          go_wp2_with fail
          refine (hexValue_any c w).mono ?_
          rintro e w1 ⟨rfl, rfl⟩
          clear hcc
          go_wp2
          go_ret
          exact ⟨ret_bool (idB_no s.data.toList k (by simpa using hlt) (by rw [HC.out]; exact HB.out)).symm, rfl⟩
        · have HB := hidM hdg
          go_wp2_with fail
          refine (hexValue_any c w).mono ?_
          rintro e w1 ⟨rfl, rfl⟩
          clear hcc
          go_wp2
          go_round
          case rel =>
            refine ⟨k + 1, by omega, by go_num, fun i hi => ?_⟩
            by_cases e : i = k
            · subst e; rw [HC.out]; exact HB.out
            · exact HD.out i (by omega)
          case measure => simp [intOf]; omega
      · go_wp2
        go_ret
        exact ⟨ret_bool (idB_yes s.data.toList (by intro i hi; rw [len_size] at hi; exact HD.out i (by omega)) (by rw [len_size]; exact H40.out)).symm, rfl⟩
  · have g1 : ((s.size : Int) != 40) = true := by simp; omega
    have H40 := hidM h40
    clear h40
    go_enter Tryd.func32, Tryd.ntmps32
    go_wp2
    go_ret
    exact ⟨ret_bool (idB_len s.data.toList (by rw [len_size]; exact H40.out)).symm, rfl⟩
set_option maxRecDepth 100000 in
theorem hexed_no (l : List UInt8) (i : Nat) (hi : i < l.length) (h : isDigB (l.getD i 0) = false) : hexed l = false := by
  unfold hexed; rw [not_all l i hi h]; rfl
set_option maxRecDepth 100000 in
theorem hexed_yes (l : List UInt8) (hd : DigTo l l.length) : hexed l = decide (l.length % 2 = 0) := by
  unfold hexed; rw [digTo_all l hd]; rfl
set_option maxHeartbeats 800000 in
set_option maxRecDepth 100000 in
theorem hexed_any (s : ByteArray) (w : World) (hs : s.size ≤ maxLen) :
    Calls Tryd.prog 53 #[.string s] w fun e w' => e = .returned (.bool (hexed s.data.toList)) ∧ w' = w := by
  unfold maxLen at hs
  go_enter Tryd.func53, Tryd.ntmps53
  go_wp2
  go_loop [3] (fun i => ∃ k : Nat, k ≤ s.size ∧ i = .int .i64 k ∧ DigTo s.data.toList k) (fun i => s.size - (intOf i).toNat)
  case atStart => exact ⟨0, Nat.zero_le _, rfl, fun i hi => by omega⟩
  case round =>
    obtain ⟨k, hk, rfl, hd⟩ := hrel
    have HD := hidM hd
    clear hd
    by_cases hlt : k < s.size
    · have HC : Hid (s.data.toList.getD k 0 = s[k]) := getD_at s k hlt
      have hdg : isDigB s[k] = true ∨ isDigB s[k] = false := by cases isDigB s[k] <;> simp
      have yes : Hid (isDigB s[k] = true → DigTo s.data.toList (k + 1)) := by
        intro h i hi
        by_cases e : i = k
        · subst e; rw [HC.out]; exact h
        · exact HD.out i (by omega)
      have no : Hid (isDigB s[k] = false → hexed s.data.toList = false) := fun h => hexed_no s.data.toList k (by simpa using hlt) (by rw [HC.out]; exact h)
      have HI : Hid (isDigB s[k] = ((decide (48 ≤ s[k].toNat) && decide (s[k].toNat ≤ 57)) || (decide (97 ≤ s[k].toNat) && decide (s[k].toNat ≤ 102)))) := rfl
      clear hdg HC
      by_cases a1 : 48 ≤ s[k].toNat
      · by_cases a2 : s[k].toNat ≤ 57
        · have HY : Hid (DigTo s.data.toList (k + 1)) := yes.out (by rw [HI.out]; simp [a1, a2])
          clear yes no HI
          have d48 : decide ((48 : Int) ≤ (s[k].toNat : Int)) = true := by simp; omega
          have d57 : decide ((s[k].toNat : Int) ≤ (57 : Int)) = true := by simp; omega
          go_wp2
          go_round
          case rel => exact ⟨k + 1, by omega, by go_num, HY.out⟩
          case measure => simp [intOf]; omega
        · by_cases a3 : 97 ≤ s[k].toNat
          · by_cases a4 : s[k].toNat ≤ 102
            · have HY : Hid (DigTo s.data.toList (k + 1)) := yes.out (by rw [HI.out]; simp [a3, a4])
              clear yes no HI
              have d48 : decide ((48 : Int) ≤ (s[k].toNat : Int)) = true := by simp; omega
              have d57 : decide ((s[k].toNat : Int) ≤ (57 : Int)) = false := by simp; omega
              have d97 : decide ((97 : Int) ≤ (s[k].toNat : Int)) = true := by simp; omega
              have d102 : decide ((s[k].toNat : Int) ≤ (102 : Int)) = true := by simp; omega
              go_wp2
              go_round
              case rel => exact ⟨k + 1, by omega, by go_num, HY.out⟩
              case measure => simp [intOf]; omega
            · have HN : Hid (hexed s.data.toList = false) := no.out (by rw [HI.out]; simp; omega)
              clear yes no HI
              have d48 : decide ((48 : Int) ≤ (s[k].toNat : Int)) = true := by simp; omega
              have d57 : decide ((s[k].toNat : Int) ≤ (57 : Int)) = false := by simp; omega
              have d97 : decide ((97 : Int) ≤ (s[k].toNat : Int)) = true := by simp; omega
              have d102 : decide ((s[k].toNat : Int) ≤ (102 : Int)) = false := by simp; omega
              go_wp2
              go_ret
              exact ⟨ret_bool HN.out.symm, rfl⟩
          · have HN : Hid (hexed s.data.toList = false) := no.out (by rw [HI.out]; simp; omega)
            clear yes no HI
            have d48 : decide ((48 : Int) ≤ (s[k].toNat : Int)) = true := by simp; omega
            have d57 : decide ((s[k].toNat : Int) ≤ (57 : Int)) = false := by simp; omega
            have d97 : decide ((97 : Int) ≤ (s[k].toNat : Int)) = false := by simp; omega
            go_wp2
            go_ret
            exact ⟨ret_bool HN.out.symm, rfl⟩
      · have a3 : ¬ 97 ≤ s[k].toNat := by omega
        have HN : Hid (hexed s.data.toList = false) := no.out (by rw [HI.out]; simp; omega)
        clear yes no HI
        have d48 : decide ((48 : Int) ≤ (s[k].toNat : Int)) = false := by simp; omega
        have d97 : decide ((97 : Int) ≤ (s[k].toNat : Int)) = false := by simp; omega
        go_wp2
        go_ret
        exact ⟨ret_bool HN.out.symm, rfl⟩
    · have HF : Hid (hexed s.data.toList = decide (s.size % 2 = 0)) := by
        unfold Hid
        rw [hexed_yes s.data.toList (by intro i hi; rw [len_size] at hi; exact HD.out i (by omega)), len_size]
      go_wp2
      go_ret
      refine ⟨ret_bool ?_, rfl⟩
      rw [HF.out]
      by_cases h : s.size % 2 = 0
      · have : ((s.size : Int) % 2 == 0) = true := by simp; omega
        rw [this]; simp [h]
      · have : ((s.size : Int) % 2 == 0) = false := by simp; omega
        rw [this]; simp [h]
theorem rid_any (s : ByteArray) (w : World) : Calls Tryd.prog 31 #[.string s] w fun e w' => e = .returned (.bool (idB s.data.toList)) ∧ w' = w := by
  have hl := len_size s
  by_cases h : s.size = 40
  · have b1 : ((s.size : Int) == 40) = true := by rw [h]; decide
    have HP := hidM (hexed_any s w (by unfold maxLen; omega))
    have HR : Hid (idB s.data.toList = hexed s.data.toList) := by unfold Hid idB hexed; rw [hl, h]; rfl
    clear h hl
    generalize hexed s.data.toList = q at *
    go_enter Tryd.func31, Tryd.ntmps31
    go_wp2_with fail
    refine HP.out.mono ?_
    rintro _ w1 ⟨rfl, hb1⟩
    rw [hb1]
    go_wp2
    go_ret
    exact ⟨by rw [HR.out]; rfl, rfl⟩
  · have b1 : ((s.size : Int) == 40) = false := by simp only [beq_eq_false_iff_ne, ne_eq]; omega
    have HR : Hid (idB s.data.toList = false) := by unfold Hid idB; rw [hl, decide_eq_false h, Bool.and_false]
    clear h hl
    go_enter Tryd.func31, Tryd.ntmps31
    go_wp2
    go_ret
    exact ⟨by rw [HR.out]; rfl, rfl⟩
end Go.Proofs.YtbghailohnppmaaDoor
namespace Go.Proofs.YtbghailohnppmaaDoor
open Go.RowKit

/-- bytes in a row -/
def bytesV (l : List UInt8) : List Value := l.map fun (c : UInt8) => .int .u8 (c.toNat : Int)
theorem bytesV_at (l : List UInt8) (j : Nat) (h : j < l.length) : (bytesV l)[j]? = some (.int .u8 (l[j].toNat : Int)) := by unfold bytesV; simp [h]
/-- The value v owns just the bytes l, in memory from 'base' on. -/
def OwnB (w : World) (base : Nat) (v : Value) (l : List UInt8) : Prop := w.ownsRow base 5 1 v l.length (bytesV l)
set_option maxRecDepth 100000 in
theorem conv_own {w : World} {base : Nat} {v : Value} {l : List UInt8} (h : OwnB w base v l) :
    (convert 57 9 v).run Tryd.prog w = .ok (.string ⟨l.toArray⟩) w := by
  rcases h.2 with ⟨rfl, hn⟩ | ⟨g, cap, cur, rfl, hb, hg, hnc, hcm, hcs, htake⟩
  · have : l = [] := List.eq_nil_of_length_eq_zero hn
    subst this
    rw [run_convert_bytes_string w 57 9 5 none 0 0 Tryd.underlying57 Tryd.underlying5 Tryd.underlying9]
    rfl
  · refine run_convert_bytes_back w 57 9 5 _ cap l Tryd.underlying57 Tryd.underlying5 Tryd.underlying9 ?_
    intro j hj
    have := World.ownsRow.cells (g := g) h rfl j _ (bytesV_at l j hj)
    exact this
end Go.Proofs.YtbghailohnppmaaDoor
namespace Go.Proofs.YtbghailohnppmaaDoor
open Go.RowKit

theorem ba_eq {a b : ByteArray} (h : a.data.toList = b.data.toList) : a = b := by
  cases a; cases b; simp at h; rw [h]
def StrsAt (w : World) (g : Nat) (l : List ByteArray) : Prop := ∀ j (h : j < l.length), w.cell? ⟨g, j, none⟩ = some (.string l[j])
theorem StrsAt.below {w w' : World} {g B : Nat} {l : List ByteArray} (h : StrsAt w g l) (hb : Below B w w') (hB : g < B) : StrsAt w' g l := fun j hj =>
  (hb.cell (p := ⟨g, j, none⟩) hB).trans (h j hj)
/-- the list of texts that a value is -/
def StrsV (w : World) (v : Value) (l : List ByteArray) : Prop := ∃ a c, v = .slice a l.length c ∧ (l ≠ [] → ∃ g, a = some ⟨g, 0, none⟩ ∧ g < w.heap.size ∧ StrsAt w g l)
theorem StrsV.below {w w' : World} {v : Value} {l : List ByteArray} (h : StrsV w v l) (hb : Below w.heap.size w w') : StrsV w' v l := by
  obtain ⟨a, c, hv, hs⟩ := h
  exact ⟨a, c, hv, fun hne => by obtain ⟨g, h1, h2, h3⟩ := hs hne; exact ⟨g, h1, Nat.lt_of_lt_of_le h2 hb.size, h3.below hb h2⟩⟩
end Go.Proofs.YtbghailohnppmaaDoor
namespace Go.Proofs.YtbghailohnppmaaDoor

/-! ### cuts -/
def cut1 (c : UInt8) : List UInt8 → Option (List UInt8 × List UInt8)
  | [] => none
  | b :: l => if b = c then some ([], l) else (cut1 c l).map fun x => (b :: x.1, x.2)
theorem cut1_some {c : UInt8} : ∀ {l p q : List UInt8}, cut1 c l = some (p, q) → l = p ++ c :: q ∧ c ∉ p
  | [], _,_, h => by cases h
  | b :: l, p, q, h => by
    unfold cut1 at h
    split at h
    · rename_i hb
      injection h with h
      injection h with h1 h2
      subst h1 h2 hb
      simp
    · rename_i hb
      cases e : cut1 c l with
      | none => rw [e] at h; cases h
      | some x =>
        obtain ⟨x, y⟩ := x
        rw [e] at h
        simp only [Option.map_some, Option.some.injEq, Prod.mk.injEq] at h
        obtain ⟨rfl, rfl⟩ := h
        obtain ⟨h1, h2⟩ := cut1_some e
        subst h1
        simp only [List.cons_append, List.mem_cons, not_or, true_and]
        exact ⟨fun e => hb e.symm, h2⟩
theorem cut1_app {c : UInt8} : ∀ {p q : List UInt8}, c ∉ p → cut1 c (p ++ c :: q) = some (p, q)
  | [], q, _ => by simp [cut1]
  | b :: p, q, h => by
    have h1 : ¬ b = c := fun e => h (by rw [e]; exact List.mem_cons_self)
    rw [List.cons_append, cut1, if_neg h1, cut1_app (fun e => h (List.mem_cons_of_mem _ e))]
    rfl
def last1 (c : UInt8) : List UInt8 → Option (List UInt8 × List UInt8)
  | [] => none
  | b :: l => match last1 c l with
    | some (p, q) => some (b :: p, q)
    | none => if b = c then some ([], l) else none
theorem last1_none {c : UInt8} : ∀ {l : List UInt8}, last1 c l = none → c ∉ l
  | [], _ => by simp
  | b :: l, h => by
    unfold last1 at h
    cases e : last1 c l with
    | some x => rw [e] at h; cases h
    | none =>
      rw [e] at h
      simp only at h
      split at h
      · cases h
      · rename_i hb
        have := last1_none e
        simp [this]
        exact fun e => hb e.symm
theorem last1_no {c : UInt8} : ∀ {l : List UInt8}, c ∉ l → last1 c l = none
  | [], _ => rfl
  | b :: l, h => by
    have h1 : ¬ b = c := fun e => h (by rw [e]; exact List.mem_cons_self)
    rw [last1, last1_no (fun e => h (List.mem_cons_of_mem _ e))]
    simp [h1]
theorem last1_app {c : UInt8} : ∀ {p q : List UInt8}, c ∉ q → last1 c (p ++ c :: q) = some (p, q)
  | [], q, h => by rw [List.nil_append, last1, last1_no h]; simp
  | b :: p, q, h => by rw [List.cons_append, last1, last1_app h]
theorem last1_some {c : UInt8} : ∀ {l p q : List UInt8}, last1 c l = some (p, q) → l = p ++ c :: q ∧ c ∉ q
  | [], _,_, h => by cases h
  | b :: l, p, q, h => by
    unfold last1 at h
    cases e : last1 c l with
    | some x =>
      obtain ⟨x, y⟩ := x
      rw [e] at h
      simp only [Option.some.injEq, Prod.mk.injEq] at h
      obtain ⟨rfl, rfl⟩ := h
      obtain ⟨h1, h2⟩ := last1_some e
      subst h1
      exact ⟨rfl, h2⟩
    | none =>
      rw [e] at h
      simp only at h
      split at h
      · rename_i hb
        injection h with h
        injection h with h1 h2
        subst h1 h2 hb
        exact ⟨rfl, last1_none e⟩
      · cases h

/-! ### the words -/
def wTree : List UInt8 := [116, 114, 101, 101, 32]
def wParent : List UInt8 := [112, 97, 114, 101, 110, 116, 32]
def wAuthor : List UInt8 := [97, 117, 116, 104, 111, 114, 32]
def wCommitter : List UInt8 := [99, 111, 109, 109, 105, 116, 116, 101, 114, 32]
def wObject : List UInt8 := [111, 98, 106, 101, 99, 116, 32]
def wType : List UInt8 := [116, 121, 112, 101, 32]
def wTag : List UInt8 := [116, 97, 103, 32]
def wTagger : List UInt8 := [116, 97, 103, 103, 101, 114, 32]

/-- what stands behind a word in the first line, and what stands behind that line -/
def lineP (word l : List UInt8) : Option (List UInt8 × List UInt8) :=
  match cut1 10 l with
  | none => none
  | some (p, q) => if Lib.hasPrefix p word then some (p.drop word.length, q) else none
theorem pref_app {w p : List UInt8} (h : Lib.hasPrefix p w = true) : p = w ++ p.drop w.length := by
  unfold Lib.hasPrefix at h
  obtain ⟨t, rfl⟩ := List.isPrefixOf_iff_prefix.1 h
  simp
theorem pref_mk (w t : List UInt8) : Lib.hasPrefix (w ++ t) w = true := by
  unfold Lib.hasPrefix
  exact List.isPrefixOf_iff_prefix.2 ⟨t, rfl⟩
theorem lineP_some {w l x r : List UInt8} (h : lineP w l = some (x, r)) : l = w ++ x ++ 10 :: r ∧ (10 : UInt8) ∉ x := by
  unfold lineP at h
  cases e : cut1 10 l with
  | none => rw [e] at h; cases h
  | some pq =>
    obtain ⟨p, q⟩ := pq
    rw [e] at h
    simp only at h
    split at h
    · rename_i hw
      injection h with h
      injection h with h1 h2
      obtain ⟨e1, e2⟩ := cut1_some e
      have := pref_app hw
      rw [h1] at this
      subst h2
      rw [e1, this]
      refine ⟨rfl, fun hx => e2 ?_⟩
      rw [this]
      exact List.mem_append_right _ hx
    · cases h
theorem lineP_mk {w x r : List UInt8} (hw : (10 : UInt8) ∉ w) (hx : (10 : UInt8) ∉ x) : lineP w (w ++ x ++ 10 :: r) = some (x, r) := by
  unfold lineP
  rw [cut1_app (by simp [hw, hx])]
  simp only
  rw [if_pos (pref_mk w x)]
  simp
theorem lineP_len {w l x r : List UInt8} (h : lineP w l = some (x, r)) : r.length + w.length + x.length + 1 = l.length := by
  rw [(lineP_some h).1]; simp; omega

/-! ### who and when -/
structure Sg where
  who : List UInt8
  time : Int
  zone : Int
  deriving DecidableEq
def twoL (n : Nat) : List UInt8 := [UInt8.ofNat (48 + n / 10), UInt8.ofNat (48 + n % 10)]
def zoneL (z : Int) : List UInt8 := (if z < 0 then 45 else 43) :: (twoL (z.natAbs / 60) ++ twoL (z.natAbs % 60))
def sgL (s : Sg) : List UInt8 := s.who ++ 32 :: (Lib.itoa s.time ++ 32 :: zoneL s.zone)
def timeP (t : List UInt8) : Option Int := match Lib.atoiAll t with
  | .ok n => if Lib.itoa n = t then some n else none
  | _ => none
def minOf (n : Int) : Int := n.tdiv 100 * 60 + n.tmod 100
def minP (t : List UInt8) : Option Int := match Lib.atoiAll t with
  | .ok n => if zoneL (minOf n) = t then some (minOf n) else none
  | _ => none
def signP (l : List UInt8) : Option Sg := match last1 32 l with
  | none => none
  | some (a, o) => match last1 32 a with
    | none => none
    | some (w, s) => match timeP s with
      | none => none
      | some t => match minP o with
        | none => none
        | some z => some ⟨w, t, z⟩
def signLn (word l : List UInt8) : Option (Sg × List UInt8) := match lineP word l with
  | none => none
  | some (x, r) => match signP x with
    | none => none
    | some s => some (s, r)
theorem timeP_some {t : List UInt8} {n : Int} (h : timeP t = some n) : Lib.itoa n = t ∧ -9223372036854775808 ≤ n ∧ n ≤ 9223372036854775807 := by
  unfold timeP at h
  cases e : Lib.atoiAll t with
  | «syntax» => rw [e] at h; cases h
  | range => rw [e] at h; cases h
  | ok v =>
    rw [e] at h
    simp only at h
    split at h
    · rename_i h1
      injection h with h
      subst h
      exact ⟨h1, Lib.atoiAll_bounds e⟩
    · cases h
theorem minP_some {t : List UInt8} {z : Int} (h : minP t = some z) : zoneL z = t := by
  unfold minP at h
  cases e : Lib.atoiAll t with
  | «syntax» => rw [e] at h; cases h
  | range => rw [e] at h; cases h
  | ok v =>
    rw [e] at h
    simp only at h
    split at h
    · rename_i h1
      injection h with h
      subst h
      exact h1
    · cases h
theorem signP_some {l : List UInt8} {s : Sg} (h : signP l = some s) : l = sgL s ∧ -9223372036854775808 ≤ s.time ∧ s.time ≤ 9223372036854775807 := by
  unfold signP at h
  cases e1 : last1 32 l with
  | none => rw [e1] at h; cases h
  | some ao =>
    obtain ⟨a, o⟩ := ao
    rw [e1] at h
    simp only at h
    cases e2 : last1 32 a with
    | none => rw [e2] at h; cases h
    | some ws =>
      obtain ⟨w, sc⟩ := ws
      rw [e2] at h
      simp only at h
      cases e3 : timeP sc with
      | none => rw [e3] at h; cases h
      | some t =>
        rw [e3] at h
        simp only at h
        cases e4 : minP o with
        | none => rw [e4] at h; cases h
        | some z =>
          rw [e4] at h
          injection h with h
          subst h
          obtain ⟨h1, h2, h3⟩ := timeP_some e3
          refine ⟨?_, h2, h3⟩
          rw [(last1_some e1).1, (last1_some e2).1, ← h1, ← minP_some e4]
          simp [sgL]

/-! ### numbers that are written are read -/
theorem dig_val (d : Nat) (h : d < 10) : (UInt8.ofNat (48 + d)).toNat = 48 + d := dig_byte d h
theorem parse_dig (l : List UInt8) : ∀ acc : Nat, (∀ c ∈ l, isDig c) → l.foldl stepN acc < 18446744073709551616 → Lib.parseUint10 acc l = .ok (l.foldl stepN acc) := by
  induction l with
  | nil => intro acc _ _; rfl
  | cons c r ih =>
    intro acc hd hlt
    have hc := hd c (by simp)
    have hmono : ∀ (r : List UInt8) (a : Nat), a ≤ r.foldl stepN a := by
      intro r
      induction r with
      | nil => intro a; exact Nat.le_refl _
      | cons d r ih => intro a; refine Nat.le_trans ?_ (ih _); unfold stepN; omega
    have h1 := hmono r (stepN acc c)
    have h2 : (c :: r).foldl stepN acc = r.foldl stepN (stepN acc c) := rfl
    rw [h2] at hlt ⊢
    have hx : stepN acc c < 18446744073709551616 := Nat.lt_of_le_of_lt h1 hlt
    have h3 : stepN acc c = acc * 10 + (c.toNat - 48) := by unfold stepN; omega
    rw [Lib.parseUint10, if_pos (by unfold isDig at hc; exact hc), if_neg (by omega), if_neg (by omega), ← h3]
    exact ih _ (fun x hx => hd x (by simp [hx])) hlt
theorem mag_dd (u : Nat) (h : u < 18446744073709551616) : Lib.parseMag (Lib.decDigits u) = .ok u := by
  unfold Lib.parseMag
  rw [if_neg (dd_ne u)]
  have hv : (Lib.decDigits u).foldl stepN 0 = u := dd_val u
  have := parse_dig (Lib.decDigits u) 0 (dd_digs u) (by rw [hv]; exact h)
  rw [hv] at this
  exact this
theorem dd_first (u : Nat) : ∃ c r, Lib.decDigits u = c :: r ∧ isDig c := by
  cases e : Lib.decDigits u with
  | nil => exact absurd e (dd_ne u)
  | cons c r => exact ⟨c, r, rfl, dd_digs u c (by rw [e]; simp)⟩
theorem atoi_itoa (n : Int) (h0 : -9223372036854775808 ≤ n) (h1 : n ≤ 9223372036854775807) : Lib.atoiAll (Lib.itoa n) = .ok n := by
  unfold Lib.itoa
  by_cases hn : n < 0
  · rw [if_pos hn, Lib.atoiAll_minus, mag_dd _ (by omega)]
    unfold Lib.signed
    simp only
    rw [if_neg (by omega)]
    congr 1
    omega
  · rw [if_neg hn]
    obtain ⟨c, r, e, hc⟩ := dd_first n.toNat
    have hm := mag_dd n.toNat (by omega)
    rw [e] at hm ⊢
    unfold isDig at hc
    rw [Lib.atoiAll_plain c r (by omega) (by omega), hm]
    unfold Lib.signless
    simp only
    rw [if_neg (by omega)]
    congr 1
    omega
theorem time_itoa (n : Int) (h0 : -9223372036854775808 ≤ n) (h1 : n ≤ 9223372036854775807) : timeP (Lib.itoa n) = some n := by
  unfold timeP
  rw [atoi_itoa n h0 h1]
  simp
theorem itoa_no32 (n : Int) : (32 : UInt8) ∉ Lib.itoa n := by
  unfold Lib.itoa
  have h : ∀ u, (32 : UInt8) ∉ Lib.decDigits u := fun u hu => by
    have := dd_digs u 32 hu
    unfold isDig at this
    simp at this
  split
  · simp only [List.mem_cons, not_or]
    exact ⟨by decide, h _⟩
  · exact h _
theorem two_no (n : Nat) (h : n < 100) : ∀ c ∈ twoL n, isDig c := by
  intro c hc
  unfold twoL at hc
  simp only [List.mem_cons, List.not_mem_nil, or_false] at hc
  unfold isDig
  rcases hc with rfl | rfl
  · rw [dig_val _ (by omega)]; omega
  · rw [dig_val _ (by omega)]; omega
theorem zone_no {z : Int} (h : z.natAbs < 6000) {c : UInt8} (hc : c = 32 ∨ c = 10) : c ∉ zoneL z := by
  unfold zoneL
  intro hm
  have hd : ¬ isDig c := by rcases hc with rfl | rfl <;> decide
  rcases List.mem_cons.1 hm with e | e
  · rcases hc with rfl | rfl <;> (split at e <;> exact absurd e (by decide))
  · rcases List.mem_append.1 e with e | e
    · exact hd (two_no _ (by omega) _ e)
    · exact hd (two_no _ (by omega) _ e)
theorem two_fold (n acc : Nat) (h : n < 100) : (twoL n).foldl stepN acc = 100 * acc + n := by
  unfold twoL
  simp only [List.foldl_cons, List.foldl_nil, stepN, dig_val _ (show n / 10 < 10 by omega), dig_val _ (show n % 10 < 10 by omega)]
  omega
theorem tdiv_nat (n : Nat) : ((n : Int)).tdiv 100 = ((n / 100 : Nat) : Int) := rfl
theorem tmod_nat (n : Nat) : ((n : Int)).tmod 100 = ((n % 100 : Nat) : Int) := rfl
theorem min_zone (z : Int) (h : z.natAbs < 6000) : minP (zoneL z) = some z := by
  have hm : Lib.parseMag (twoL (z.natAbs / 60) ++ twoL (z.natAbs % 60)) = .ok (100 * (z.natAbs / 60) + z.natAbs % 60) := by
    unfold Lib.parseMag
    rw [if_neg (by simp [twoL])]
    have hv : (twoL (z.natAbs / 60) ++ twoL (z.natAbs % 60)).foldl stepN 0 = 100 * (z.natAbs / 60) + z.natAbs % 60 := by
      rw [List.foldl_append, two_fold _ _ (by omega), two_fold _ _ (by omega)]
      omega
    have := parse_dig (twoL (z.natAbs / 60) ++ twoL (z.natAbs % 60)) 0 (fun c hc => by
      rcases List.mem_append.1 hc with e | e
      · exact two_no _ (by omega) _ e
      · exact two_no _ (by omega) _ e) (by rw [hv]; omega)
    rw [hv] at this
    exact this
  have ha : ∃ n : Int, Lib.atoiAll (zoneL z) = .ok n ∧ minOf n = z := by
    unfold zoneL
    by_cases hz : z < 0
    · rw [if_pos hz, Lib.atoiAll_minus, hm]
      unfold Lib.signed
      simp only
      rw [if_neg (by omega)]
      refine ⟨_, rfl, ?_⟩
      unfold minOf
      rw [Int.neg_tdiv, Int.neg_tmod, tdiv_nat, tmod_nat]
      omega
    · rw [if_neg hz, Lib.atoiAll_plus, hm]
      unfold Lib.signless
      simp only
      rw [if_neg (by omega)]
      refine ⟨_, rfl, ?_⟩
      unfold minOf
      rw [tdiv_nat, tmod_nat]
      omega
  obtain ⟨n, h1, h2⟩ := ha
  unfold minP
  rw [h1]
  simp only
  rw [h2, if_pos rfl]
/-- who and when, in form -/
def SgOk (s : Sg) : Prop := (10 : UInt8) ∉ s.who ∧ -9223372036854775808 ≤ s.time ∧ s.time ≤ 9223372036854775807 ∧ s.zone.natAbs < 6000
theorem signP_mk {s : Sg} (h : SgOk s) : signP (sgL s) = some s := by
  obtain ⟨h1, h2, h3, h4⟩ := h
  unfold signP sgL
  rw [show s.who ++ 32 :: (Lib.itoa s.time ++ 32 :: zoneL s.zone) = (s.who ++ 32 :: Lib.itoa s.time) ++ 32 :: zoneL s.zone by simp, last1_app (zone_no h4 (.inl rfl))]
  simp only
  rw [last1_app (itoa_no32 _)]
  simp only
  rw [time_itoa _ h2 h3]
  simp only
  rw [min_zone _ h4]
theorem itoa_no10 (n : Int) : (10 : UInt8) ∉ Lib.itoa n := by
  unfold Lib.itoa
  have h : ∀ u, (10 : UInt8) ∉ Lib.decDigits u := fun u hu => by
    have := dd_digs u 10 hu
    unfold isDig at this
    simp at this
  split
  · simp only [List.mem_cons, not_or]
    exact ⟨by decide, h _⟩
  · exact h _
theorem sgL_no {s : Sg} (h : SgOk s) : (10 : UInt8) ∉ sgL s := by
  unfold sgL
  simp only [List.mem_append, List.mem_cons, not_or]
  exact ⟨h.1, by decide, itoa_no10 _, by decide, zone_no h.2.2.2 (.inr rfl)⟩
theorem signLn_mk {w : List UInt8} {s : Sg} (h : SgOk s) (hw : (10 : UInt8) ∉ w) (r : List UInt8) : signLn w (w ++ sgL s ++ 10 :: r) = some (s, r) := by
  unfold signLn
  rw [lineP_mk hw (sgL_no h)]
  simp only
  rw [signP_mk h]
theorem signLn_some {w l r : List UInt8} {s : Sg} (h : signLn w l = some (s, r)) : l = w ++ sgL s ++ 10 :: r ∧ -9223372036854775808 ≤ s.time ∧ s.time ≤ 9223372036854775807 := by
  unfold signLn at h
  cases e : lineP w l with
  | none => rw [e] at h; cases h
  | some xr =>
    obtain ⟨x, r'⟩ := xr
    rw [e] at h
    simp only at h
    cases e2 : signP x with
    | none => rw [e2] at h; cases h
    | some s' =>
      rw [e2] at h
      injection h with h
      injection h with h1 h2
      subst h1 h2
      obtain ⟨a1, a2, a3⟩ := signP_some e2
      exact ⟨by rw [(lineP_some e).1, a1], a2, a3⟩

/-! ### commits -/
structure Cm where
  tree : List UInt8
  parents : List (List UInt8)
  author : Sg
  committer : Sg
  message : List UInt8
  deriving DecidableEq
def parsP : Nat → List UInt8 → Option (List (List UInt8) × List UInt8)
  | 0, l => some ([], l)
  | n + 1, l => if Lib.hasPrefix l wParent then (match lineP wParent l with
    | none => none
    | some (x, r) => match parsP n r with
      | none => none
      | some (xs, q) => some (x :: xs, q)) else some ([], l)
def parsL (l : List UInt8) : Option (List (List UInt8) × List UInt8) := parsP (l.length + 1) l
theorem parsP_fuel : ∀ (n m : Nat) (l : List UInt8), l.length < n → l.length < m → parsP n l = parsP m l
  | 0, _,_, h, _ => by omega
  | _, 0, _,_, h => by omega
  | n + 1, m + 1, l, hn, hm => by
    unfold parsP
    split
    · cases e : lineP wParent l with
      | none => rfl
      | some xr =>
        obtain ⟨x, r⟩ := xr
        have := lineP_len e
        have : wParent.length = 7 := rfl
        simp only
        rw [parsP_fuel n m r (by omega) (by omega)]
    · rfl
theorem parsL_eq (l : List UInt8) : parsL l = if Lib.hasPrefix l wParent then (match lineP wParent l with
    | none => none
    | some (x, r) => match parsL r with
      | none => none
      | some (xs, q) => some (x :: xs, q)) else some ([], l) := by
  unfold parsL
  rw [parsP]
  split
  · cases e : lineP wParent l with
    | none => rfl
    | some xr =>
      obtain ⟨x, r⟩ := xr
      have := lineP_len e
      have : wParent.length = 7 := rfl
      simp only
      rw [parsP_fuel l.length (r.length + 1) r (by omega) (by omega)]
  · rfl
def parsT (ps : List (List UInt8)) : List UInt8 := ps.flatMap fun p => wParent ++ p ++ [10]
theorem parsL_some : ∀ (n : Nat) {l r : List UInt8} {ps : List (List UInt8)}, l.length ≤ n → parsL l = some (ps, r) → l = parsT ps ++ r ∧ (∀ p ∈ ps, (10 : UInt8) ∉ p) ∧ Lib.hasPrefix r wParent = false := by
  intro n
  induction n with
  | zero =>
    intro l r ps hl h
    obtain rfl : l = [] := List.eq_nil_of_length_eq_zero (by omega)
    rw [parsL_eq, if_neg (by decide)] at h
    injection h with h
    injection h with h1 h2
    subst h1 h2
    exact ⟨rfl, by simp, by decide⟩
  | succ n ih =>
    intro l r ps hl h
    rw [parsL_eq] at h
    split at h
    · cases e : lineP wParent l with
      | none => rw [e] at h; cases h
      | some xr =>
        obtain ⟨x, q⟩ := xr
        rw [e] at h
        simp only at h
        have hlen := lineP_len e
        have h7 : wParent.length = 7 := rfl
        cases e2 : parsL q with
        | none => rw [e2] at h; cases h
        | some yq =>
          obtain ⟨xs, q'⟩ := yq
          rw [e2] at h
          injection h with h
          injection h with h1 h2
          subst h1 h2
          obtain ⟨a1, a2, a3⟩ := ih (by omega) e2
          obtain ⟨b1, b2⟩ := lineP_some e
          refine ⟨?_, ?_, a3⟩
          · rw [b1, a1]; simp [parsT]
          · intro p hp
            rcases List.mem_cons.1 hp with rfl | hp
            · exact b2
            · exact a2 p hp
    · rename_i hf
      injection h with h
      injection h with h1 h2
      subst h1 h2
      exact ⟨rfl, by simp, by simpa using hf⟩
theorem parsL_mk : ∀ (ps : List (List UInt8)) (r : List UInt8), (∀ p ∈ ps, (10 : UInt8) ∉ p) → Lib.hasPrefix r wParent = false → parsL (parsT ps ++ r) = some (ps, r)
  | [], r, _, hr => by
    rw [parsL_eq]
    show (if Lib.hasPrefix r wParent = true then _ else _) = _
    rw [hr]; rfl
  | p :: ps, r, hp, hr => by
    have e : parsT (p :: ps) ++ r = wParent ++ p ++ 10 :: (parsT ps ++ r) := by simp [parsT]
    rw [e, parsL_eq, if_pos (by rw [List.append_assoc]; exact pref_mk _ _), lineP_mk (by decide) (hp p (by simp))]
    simp only
    rw [parsL_mk ps r (fun q hq => hp q (by simp [hq])) hr]
def changeP (l : List UInt8) : Option Cm := match lineP wTree l with
  | none => none
  | some (t, r) => match parsL r with
    | none => none
    | some (ps, r) => match signLn wAuthor r with
      | none => none
      | some (a, r) => match signLn wCommitter r with
        | none => none
        | some (c, r) => match r with
          | 10 :: m => some ⟨t, ps, a, c, m⟩
          | _ => none
def textL (c : Cm) : List UInt8 := wTree ++ c.tree ++ 10 :: (parsT c.parents ++ (wAuthor ++ sgL c.author ++ 10 :: (wCommitter ++ sgL c.committer ++ 10 :: 10 :: c.message)))
theorem changeP_some {l : List UInt8} {c : Cm} (h : changeP l = some c) : l = textL c := by
  unfold changeP at h
  cases e1 : lineP wTree l with
  | none => rw [e1] at h; cases h
  | some x1 =>
    obtain ⟨t, r1⟩ := x1
    rw [e1] at h; simp only at h
    cases e2 : parsL r1 with
    | none => rw [e2] at h; cases h
    | some x2 =>
      obtain ⟨ps, r2⟩ := x2
      rw [e2] at h; simp only at h
      cases e3 : signLn wAuthor r2 with
      | none => rw [e3] at h; cases h
      | some x3 =>
        obtain ⟨a, r3⟩ := x3
        rw [e3] at h; simp only at h
        cases e4 : signLn wCommitter r3 with
        | none => rw [e4] at h; cases h
        | some x4 =>
          obtain ⟨k, r4⟩ := x4
          rw [e4] at h; simp only at h
          split at h
          · injection h with h
            subst h
            rw [(lineP_some e1).1, (parsL_some _ (Nat.le_refl _) e2).1, (signLn_some e3).1, (signLn_some e4).1]
            simp [textL]
          · cases h
structure CmOk (c : Cm) : Prop where
  tree : (10 : UInt8) ∉ c.tree
  parents : ∀ p ∈ c.parents, (10 : UInt8) ∉ p
  author : SgOk c.author
  committer : SgOk c.committer
theorem author_no (x : List UInt8) : Lib.hasPrefix (wAuthor ++ x) wParent = false := by
  simp [Lib.hasPrefix, wAuthor, wParent, List.isPrefixOf]
theorem changeP_mk {c : Cm} (h : CmOk c) : changeP (textL c) = some c := by
  unfold changeP textL
  rw [lineP_mk (by decide) h.tree]
  simp only
  rw [parsL_mk _ _ h.parents (by rw [List.append_assoc]; exact author_no _)]
  simp only
  rw [signLn_mk h.author (by decide)]
  simp only
  rw [signLn_mk h.committer (by decide)]
  rfl

/-! ### tags -/
structure Lb where
  object : List UInt8
  kind : List UInt8
  name : List UInt8
  tagger : Sg
  message : List UInt8
  deriving DecidableEq
def labelP (l : List UInt8) : Option Lb := match lineP wObject l with
  | none => none
  | some (o, r) => match lineP wType r with
    | none => none
    | some (k, r) => match lineP wTag r with
      | none => none
      | some (n, r) => match signLn wTagger r with
        | none => none
        | some (t, r) => match r with
          | 10 :: m => some ⟨o, k, n, t, m⟩
          | _ => none
def tagL (t : Lb) : List UInt8 := wObject ++ t.object ++ 10 :: (wType ++ t.kind ++ 10 :: (wTag ++ t.name ++ 10 :: (wTagger ++ sgL t.tagger ++ 10 :: 10 :: t.message)))
theorem labelP_some {l : List UInt8} {c : Lb} (h : labelP l = some c) : l = tagL c := by
  unfold labelP at h
  cases e1 : lineP wObject l with
  | none => rw [e1] at h; cases h
  | some x1 =>
    obtain ⟨t, r1⟩ := x1
    rw [e1] at h; simp only at h
    cases e2 : lineP wType r1 with
    | none => rw [e2] at h; cases h
    | some x2 =>
      obtain ⟨ps, r2⟩ := x2
      rw [e2] at h; simp only at h
      cases e3 : lineP wTag r2 with
      | none => rw [e3] at h; cases h
      | some x3 =>
        obtain ⟨a, r3⟩ := x3
        rw [e3] at h; simp only at h
        cases e4 : signLn wTagger r3 with
        | none => rw [e4] at h; cases h
        | some x4 =>
          obtain ⟨k, r4⟩ := x4
          rw [e4] at h; simp only at h
          split at h
          · injection h with h
            subst h
            rw [(lineP_some e1).1, (lineP_some e2).1, (lineP_some e3).1, (signLn_some e4).1]
            simp [tagL]
          · cases h
structure LbOk (c : Lb) : Prop where
  object : (10 : UInt8) ∉ c.object
  kind : (10 : UInt8) ∉ c.kind
  name : (10 : UInt8) ∉ c.name
  tagger : SgOk c.tagger
theorem labelP_mk {c : Lb} (h : LbOk c) : labelP (tagL c) = some c := by
  unfold labelP tagL
  rw [lineP_mk (by decide) h.object]
  simp only
  rw [lineP_mk (by decide) h.kind]
  simp only
  rw [lineP_mk (by decide) h.name]
  simp only
  rw [signLn_mk h.tagger (by decide)]
  rfl
end Go.Proofs.YtbghailohnppmaaDoor
