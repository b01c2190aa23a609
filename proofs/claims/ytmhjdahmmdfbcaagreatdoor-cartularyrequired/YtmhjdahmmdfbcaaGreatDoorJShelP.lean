/-
  Walks of semver's order: cmp.Compare, cmp.Or, byNumber, byWord.
  Walks of semver's order: slices.CompareFunc over words, byPre.
  The order of versions: a total preorder.
  Walks of semver: Parse of any text, Compare.
  Walks of semver: Canonical; the law's awake.
  Walks of semver: Major; the law SemverMajor.
  Semver: the canonical text is a version again, with the same numbers and prerelease.
  Semver: what SemverNext asks of the order: a greater last number, none of a prerelease, a build behind.
  Hexadecimal texts: Unhex. (taken over.)
  DERIVED: THE SHELF's CONTRACTS AT THIS DUMP, IN PLAIN WORDS (tools/lay-plain.mjs out of 'YtmhjdahmmdfbcaaGreatDoorShelP.lean', which tools/lay-shelf.mjs wrote): THE SAME DECLARATIONS UNDER THE SAME NAMES: 'import', 'namespace', 'open', 'def', 'theorem' AND NOTHING ELSE: no command of the shelf's: FOR A HAND-IN. Each laying: the table of numbers ('.._ren') and one theorem, a field a fact of the dump's own or the kernel's comparison; each contract: ONE APPLICATION.
-/
import Derived.Test.YtmhjdahmmdfbcaaGreatDoorJSemC
import Derived.Laws.BitsAllLaws
import Derived.Laws.IdiomStrings
import Derived.Deep.QuietTactic
import Derived.BigQuiet
import Derived.Deep.RegionLaw
import Derived.Laws.AppendOwn
import Derived.Shelf.Strings.Builder1
import Derived.Shelf.Strings.Builder2
import Derived.Shelf.Small.Strs
import Derived.Shelf.Small.Wraps
import Derived.Shelf.Strings.BuilderF
import Derived.Shelf.Utf8.RuneCount
import Derived.Shelf.Strconv.Itoa0
import Derived.Shelf.Strconv.Itoa1
import Derived.Shelf.LaysM
import Derived.Shelf.Strconv.Itoa2
import Derived.Shelf.Strconv.Itoa3
import Derived.Shelf.Strconv.Clone
import Derived.Shelf.Strings.Search1
import Derived.Shelf.Strings.Search2
import Derived.Shelf.Strings.Search3
import Derived.Shelf.Strings.Cut
import Derived.Shelf.Strings.Count
import Derived.Shelf.Strings.Shaped
import Derived.Shelf.Strings.LastIndex
import Derived.Shelf.Strings.Prefix
import Derived.Shelf.Strings.Split
import Derived.Shelf.Strings.SplitShaped
import Derived.Shelf.Unicode.Decode
import Derived.Shelf.Strings.RuneCount
import Derived.Shelf.Strings.Explode
import Derived.Shelf.Bits.Mul64
import Derived.Shelf.Strings.Repeat
import Derived.Shelf.Unicode.DecodeSlow
import Derived.Shelf.Unicode.DecodeAny
import Derived.Ground.Names2Prog
import Derived.Shelf.Slices.Clone
import Derived.Shelf.Slices.SearchI
import Derived.Ground.SlgnProg
import Derived.Shelf.SlicesE.Clone
import Derived.Test.YtmhjdahmmdfbcaaGreatDoorProg
namespace Go.Proofs.YtmhjdahmmdfbcaaGreatDoor
open Go.RowKit
def cmpI (a b : Int) : Int := if a < b then -1 else if b < a then 1 else 0
def orL : List Int → Int
  | [] => 0
  | a :: l => if a = 0 then orL l else a
set_option maxRecDepth 100000 in
theorem nan_any (a : Int) (w : World) : Calls Tryz.prog 99 #[.int .i64 a] w fun e w' => e = .returned (.bool false) ∧ w' = w := by
  go_enter Tryz.func99, Tryz.ntmps99
  go_wp2
  go_ret
  exact ⟨rfl, rfl⟩
set_option maxRecDepth 100000 in
theorem cmpI_any (a b : Int) (w : World) : Calls Tryz.prog 69 #[.int .i64 a, .int .i64 b] w fun e w' => e = .returned (.int .i64 (cmpI a b)) ∧ w' = w := by
  have HA := hidM (nan_any a w)
  have HB := hidM (nan_any b w)
  unfold cmpI
  by_cases h1 : a < b
  · rw [if_pos h1]
    have b1 : decide (a < b) = true := by simpa using h1
    go_enter Tryz.func69, Tryz.ntmps69
    go_wp2_with fail
    refine HA.out.mono ?_
    rintro _ w1 ⟨rfl, h⟩
    rw [h]
    go_wp2_with fail
    refine HB.out.mono ?_
    rintro _ w2 ⟨rfl, h⟩
    rw [h]
    go_wp2
    go_ret
    exact ⟨rfl, rfl⟩
  · rw [if_neg h1]
    have b1 : decide (a < b) = false := by simpa using h1
    by_cases h2 : b < a
    · rw [if_pos h2]
      have b2 : decide (b < a) = true := by simpa using h2
      go_enter Tryz.func69, Tryz.ntmps69
      go_wp2_with fail
      refine HA.out.mono ?_
      rintro _ w1 ⟨rfl, h⟩
      rw [h]
      go_wp2_with fail
      refine HB.out.mono ?_
      rintro _ w2 ⟨rfl, h⟩
      rw [h]
      go_wp2
      go_ret
      exact ⟨rfl, rfl⟩
    · rw [if_neg h2]
      have b2 : decide (b < a) = false := by simpa using h2
      go_enter Tryz.func69, Tryz.ntmps69
      go_wp2_with fail
      refine HA.out.mono ?_
      rintro _ w1 ⟨rfl, h⟩
      rw [h]
      go_wp2_with fail
      refine HB.out.mono ?_
      rintro _ w2 ⟨rfl, h⟩
      rw [h]
      go_wp2
      go_ret
      exact ⟨rfl, rfl⟩
theorem or_hit : ∀ (L : List Int) (k : Nat) (h : k < L.length), (∀ j (hj : j < L.length), j < k → L[j] = 0) → L[k] ≠ 0 → orL L = L[k]
  | [], k, h, _,_ => absurd h (by simp)
  | a :: l, 0, _,_, hn => by
    have hn' : a ≠ 0 := hn
    show (if a = 0 then orL l else a) = a
    rw [if_neg hn']
  | a :: l, k + 1, h, hz, hn => by
    have h0 : a = 0 := hz 0 (by simp) (by omega)
    have hk : k < l.length := by simpa using h
    show (if a = 0 then orL l else a) = l[k]
    rw [if_pos h0]
    exact or_hit l k hk (fun j hj hjk => hz (j + 1) (by simp; omega) (by omega)) hn
theorem or_zero : ∀ (L : List Int), (∀ j (hj : j < L.length), L[j] = 0) → orL L = 0
  | [], _ => rfl
  | a :: l, hz => by
    have h0 : a = 0 := hz 0 (by simp)
    show (if a = 0 then orL l else a) = 0
    rw [if_pos h0]
    exact or_zero l fun j hj => hz (j + 1) (by simp; omega)
set_option maxHeartbeats 1000000 in
set_option maxRecDepth 100000 in
theorem or_any (g : Nat) (L : List Int) (w : World) (hl : L.length ≤ 4) (hr : w.heap[g]? = some (.cells (L.map fun x => Value.int .i64 x).toArray 3)) :
    Calls Tryz.prog 41 #[.slice (some ⟨g, 0, none⟩) L.length L.length] w fun e w' => e = .returned (.int .i64 (orL L)) ∧ w' = w := by
  have HC : Hid (∀ k, (h : k < L.length) → w.cell? ⟨g, k, none⟩ = some (.int .i64 L[k])) := fun k h => by
    rw [cell_of_row _ _ _ _ 3 (0, 0) hr]
    simp [h]
  clear hr
  go_enter Tryz.func41, Tryz.ntmps41
  go_wp2
  go_loopw [5, 8] (fun _ iv wr => ∃ k : Nat, k ≤ L.length ∧ iv = .int .i64 (k : Int) ∧ (∀ j (hj : j < L.length), j < k → L[j] = 0) ∧ w = wr) (fun _ i _ => L.length - (intOf i).toNat)
  case atStart => exact ⟨0, Nat.zero_le _, rfl, fun j _ hj => by omega, rfl⟩
  case round =>
    obtain ⟨k, hk, rfl, hno, hwr⟩ := hrel
    subst hwr
    have HNO := hidM hno
    clear hno
    by_cases hlt : k < L.length
    · have gk : (k : Int) < (L.length : Int) := by omega
      have ck := HC.out k hlt
      by_cases h0 : L[k] = 0
      · have HNX : Hid (∀ j (hj : j < L.length), j < k + 1 → L[j] = 0) := fun j hj hjk => by
          rcases Nat.lt_or_ge j k with h | h
          · exact HNO.out j hj h
          · obtain rfl : j = k := by omega
            exact h0
        rw [h0] at ck
        clear h0
        go_wp2
        go_roundw
        case rel => exact ⟨k + 1, by omega, by go_num, HNX.out, by first | rfl | trivial⟩
        case measure => simp [intOf]; omega
      · have HR : Hid (orL L = L[k]) := or_hit L k hlt HNO.out h0
        have b0 : (L[k] == 0) = false := by simpa using h0
        rw [← HR.out] at ck b0
        clear h0
        generalize hv : orL L = v at *
        have HV := hidM hv
        clear hv
        have b1 : (v != 0) = true := by simpa using b0
        go_wp2
        go_ret
        exact ⟨by rw [HV.out]; rfl, rfl⟩
    · have gk : ¬ (k : Int) < (L.length : Int) := by omega
      have HR : Hid (orL L = 0) := or_zero L fun j hj => HNO.out j hj (by omega)
      go_wp2
      go_ret
      exact ⟨by rw [HR.out]; rfl, rfl⟩
def numC (a b : ByteArray) : Int := orL [cmpI (a.size : Int) (b.size : Int), Lib.compareBytes a.data.toList b.data.toList]
set_option maxHeartbeats 1000000 in
set_option maxRecDepth 100000 in
theorem byNumber_any (a b : ByteArray) (w : World) : Calls Tryz.prog 42 #[.string a, .string b] w fun e w' => e = .returned (.int .i64 (numC a b)) ∧ Below w.heap.size w w' := by
  have H1 := hidM (cmpI_any (a.size : Int) (b.size : Int) w)
  have H2 := hidM (Tryz.strings_Compare a b w)
  unfold numC
  generalize cmpI (a.size : Int) (b.size : Int) = x at *
  generalize Lib.compareBytes a.data.toList b.data.toList = y at *
  have HO := hidM (or_any w.heap.size [x, y] (w.alloc (.cells #[.int .i64 x, .int .i64 y] 3)) (by simp) (_root_.Go.heap_alloc_new _ _))
  have HB : Hid (Below w.heap.size w (w.alloc (.cells #[.int .i64 x, .int .i64 y] 3))) := (Below.refl _ _).alloc (Nat.le_refl _) _
  go_enter Tryz.func42, Tryz.ntmps42
  go_wp2_with fail
  refine H1.out.mono ?_
  rintro _ w1 ⟨rfl, h⟩
  rw [h]
  go_wp2_with fail
  refine H2.out.mono ?_
  rintro _ w2 ⟨rfl, h⟩
  rw [h]
  go_wp2_with fail
  refine HO.out.mono ?_
  rintro _ w3 ⟨rfl, h⟩
  rw [h]
  go_wp2
  go_ret
  exact ⟨rfl, HB.out⟩
def wordCmp (a b : ByteArray) : Int := if digL a.data.toList && digL b.data.toList then numC a b else if digL a.data.toList then -1 else if digL b.data.toList then 1 else Lib.compareBytes a.data.toList b.data.toList
set_option maxHeartbeats 1000000 in
set_option maxRecDepth 100000 in
theorem byWord_any (a b : ByteArray) (w : World) (ha : a.size ≤ 9223372036854775807) (hb : b.size ≤ 9223372036854775807) : Calls Tryz.prog 72 #[.string a, .string b] w fun e w' => e = .returned (.int .i64 (wordCmp a b)) ∧ Below w.heap.size w w' := by
  have H1 := hidM (digits_any a w ha)
  have H2 := hidM (digits_any b w hb)
  have H3 := hidM (byNumber_any a b w)
  have H4 := hidM (Tryz.strings_Compare a b w)
  unfold wordCmp
  generalize digL a.data.toList = p at *
  generalize digL b.data.toList = q at *
  generalize numC a b = x at *
  generalize Lib.compareBytes a.data.toList b.data.toList = y at *
  cases p with
  | true =>
    cases q with
    | true =>
      go_enter Tryz.func72, Tryz.ntmps72
      go_wp2_with fail
      refine H1.out.mono ?_
      rintro _ w1 ⟨rfl, h⟩
      rw [h]
      go_wp2_with fail
      refine H2.out.mono ?_
      rintro _ w2 ⟨rfl, h⟩
      rw [h]
      go_wp2_with fail
      refine H3.out.mono ?_
      rintro _ w3 ⟨rfl, hb3⟩
      have HB3 := hidM hb3
      clear hb3
      go_wp2
      go_ret
      exact ⟨rfl, HB3.out⟩
    | false =>
      go_enter Tryz.func72, Tryz.ntmps72
      go_wp2_with fail
      refine H1.out.mono ?_
      rintro _ w1 ⟨rfl, h⟩
      rw [h]
      go_wp2_with fail
      refine H2.out.mono ?_
      rintro _ w2 ⟨rfl, h⟩
      rw [h]
      go_wp2
      go_ret
      exact ⟨rfl, Below.refl _ _⟩
  | false =>
    cases q with
    | true =>
      go_enter Tryz.func72, Tryz.ntmps72
      go_wp2_with fail
      refine H1.out.mono ?_
      rintro _ w1 ⟨rfl, h⟩
      rw [h]
      go_wp2_with fail
      refine H2.out.mono ?_
      rintro _ w2 ⟨rfl, h⟩
      rw [h]
      go_wp2
      go_ret
      exact ⟨rfl, Below.refl _ _⟩
    | false =>
      go_enter Tryz.func72, Tryz.ntmps72
      go_wp2_with fail
      refine H1.out.mono ?_
      rintro _ w1 ⟨rfl, h⟩
      rw [h]
      go_wp2_with fail
      refine H2.out.mono ?_
      rintro _ w2 ⟨rfl, h⟩
      rw [h]
      go_wp2_with fail
      refine H4.out.mono ?_
      rintro _ w3 ⟨rfl, h⟩
      rw [h]
      go_wp2
      go_ret
      exact ⟨rfl, Below.refl _ _⟩
end Go.Proofs.YtmhjdahmmdfbcaaGreatDoor
namespace Go.Proofs.YtmhjdahmmdfbcaaGreatDoor
open Go.RowKit
def lexC : List ByteArray → List ByteArray → Int
  | [], [] => 0
  | [], _ :: _ => -1
  | _ :: _, [] => 1
  | a :: l, b :: m => if wordCmp a b = 0 then lexC l m else wordCmp a b
theorem lex_drop : ∀ (k : Nat) (l m : List ByteArray), k ≤ l.length → k ≤ m.length → (∀ j (h1 : j < l.length) (h2 : j < m.length), j < k → wordCmp l[j] m[j] = 0) → lexC l m = lexC (l.drop k) (m.drop k)
  | 0, _,_,_,_,_ => rfl
  | k + 1, [], _, hl, _,_ => absurd hl (by simp)
  | k + 1, _ :: _, [], _, hm, _ => absurd hm (by simp)
  | k + 1, a :: l, b :: m, hl, hm, hz => by
    have h0 : wordCmp a b = 0 := hz 0 (by simp) (by simp) (by omega)
    show (if wordCmp a b = 0 then lexC l m else wordCmp a b) = lexC (l.drop k) (m.drop k)
    rw [if_pos h0]
    exact lex_drop k l m (by simpa using hl) (by simpa using hm) fun j h1 h2 hj => hz (j + 1) (by simp; omega) (by simp; omega) (by omega)
set_option maxHeartbeats 2000000 in
set_option maxRecDepth 100000 in
theorem lex_any (g1 g2 : Nat) (l m : List ByteArray) (w : World) (hl : l.length ≤ 201) (hls : ∀ x ∈ l, x.size ≤ 200) (hms : ∀ x ∈ m, x.size ≤ 200)
    (hr1 : w.heap[g1]? = some (.cells (l.map Value.string).toArray 9)) (hr2 : w.heap[g2]? = some (.cells (m.map Value.string).toArray 9)) :
    Calls Tryz.prog 71 #[.slice (some ⟨g1, 0, none⟩) l.length l.length, .slice (some ⟨g2, 0, none⟩) m.length m.length, .func (.func 72) #[] #[]] w fun e w' => e = .returned (.int .i64 (lexC l m)) ∧ Below w.heap.size w w' := by
  have HC1 : Hid (∀ V, Below w.heap.size w V → ∀ k, (h : k < l.length) → V.cell? ⟨g1, k, none⟩ = some (.string l[k])) := fun V hV k h => by
    rw [cell_of_row _ _ _ _ 9 (0, 0) (box_kept hr1 hV)]
    simp [h]
  have HC2 : Hid (∀ V, Below w.heap.size w V → ∀ k, (h : k < m.length) → V.cell? ⟨g2, k, none⟩ = some (.string m[k])) := fun V hV k h => by
    rw [cell_of_row _ _ _ _ 9 (0, 0) (box_kept hr2 hV)]
    simp [h]
  have HBW : Hid (∀ V j k, (h1 : j < l.length) → (h2 : k < m.length) → Calls Tryz.prog 72 #[.string l[j], .string m[k]] V fun e w' => e = .returned (.int .i64 (wordCmp l[j] m[k])) ∧ Below V.heap.size V w') := fun V j k h1 h2 =>
    byWord_any _ _ V (by have := hls _ (List.getElem_mem h1); omega) (by have := hms _ (List.getElem_mem h2); omega)
  clear hr1 hr2 hls hms
  go_enter Tryz.func71, Tryz.ntmps71
  go_wp2
  go_loopw [7, 8, 9, 10, 13] (fun _ _ _ _ iv wr => ∃ k : Nat, k ≤ l.length ∧ k ≤ m.length ∧ iv = .int .i64 (k : Int) ∧ (∀ j (h1 : j < l.length) (h2 : j < m.length), j < k → wordCmp l[j] m[j] = 0) ∧ Below w.heap.size w wr) (fun _ _ _ _ i _ => l.length - (intOf i).toNat)
  case atStart => exact ⟨0, Nat.zero_le _, Nat.zero_le _, rfl, fun j _ _ hj => by omega, Below.refl _ _⟩
  case round =>
    obtain ⟨k, hk, hk2, rfl, hno, hbe⟩ := hrel
    have HNO := hidM hno
    have HBE := hidM hbe
    have HLD := hidM (lex_drop k l m hk hk2 hno)
    clear hno hbe
    by_cases hlt : k < l.length
    · have gk : (k : Int) < (l.length : Int) := by omega
      have ck := HC1.out wr HBE.out k hlt
      by_cases hlt2 : k < m.length
      · have gk2 : ¬ (m.length : Int) ≤ (k : Int) := by omega
        have gk3 : decide ((m.length : Int) ≤ (k : Int)) = false := by simp; omega
        have ck2 := HC2.out wr HBE.out k hlt2
        have HW := hidM (HBW.out wr k k hlt hlt2)
        have HHI : Hid (wordCmp l[k] m[k] ≠ 0 → lexC l m = wordCmp l[k] m[k]) := fun hn => by
          rw [HLD.out, List.drop_eq_getElem_cons hlt, List.drop_eq_getElem_cons hlt2]
          show (if _ then _ else _) = _
          rw [if_neg hn]
        have HNX : Hid (wordCmp l[k] m[k] = 0 → ∀ j (h1 : j < l.length) (h2 : j < m.length), j < k + 1 → wordCmp l[j] m[j] = 0) := fun h0 j h1 h2 hj => by
          rcases Nat.lt_or_ge j k with h | h
          · exact HNO.out j h1 h2 h
          · obtain rfl : j = k := by omega
            exact h0
        generalize wordCmp l[k] m[k] = c at *
        generalize l[k] = x at *
        generalize m[k] = y at *
        by_cases h0 : c = 0
        · have HN2 := hidM (HNX.out h0)
          subst h0
          go_wp2_with fail
          refine HW.out.mono ?_
          rintro _ w1 ⟨rfl, hb1⟩
          have HB1 := hidM (HBE.out.trans (hb1.mono HBE.out.size))
          clear hb1
          go_wp2
          go_roundw
          case rel => exact ⟨k + 1, by omega, by omega, by go_num, HN2.out, HB1.out⟩
          case measure => simp [intOf]; omega
        · have HRE := hidM (HHI.out h0)
          have b0 : (c == 0) = false := by simpa using h0
          have b1 : (c != 0) = true := by simpa using h0
          clear h0
          go_wp2_with fail
          refine HW.out.mono ?_
          rintro _ w1 ⟨rfl, hb1⟩
          have HB1 := hidM (HBE.out.trans (hb1.mono HBE.out.size))
          clear hb1
          go_wp2
          go_ret
          exact ⟨by rw [HRE.out]; rfl, HB1.out⟩
      · have gk2 : (m.length : Int) ≤ (k : Int) := by omega
        have gk3 : decide ((m.length : Int) ≤ (k : Int)) = true := by simp; omega
        have HRE : Hid (lexC l m = 1) := by
          unfold Hid
          rw [HLD.out, List.drop_eq_getElem_cons hlt, List.drop_of_length_le (show m.length ≤ k by omega)]
          rfl
        generalize l[k] = x at *
        go_wp2
        go_ret
        exact ⟨by rw [HRE.out]; rfl, HBE.out⟩
    · have gk : ¬ (k : Int) < (l.length : Int) := by omega
      have hkl : k = l.length := by omega
      by_cases h2 : l.length < m.length
      · have b2 : decide ((l.length : Int) < (m.length : Int)) = true := by simp; omega
        have HRE : Hid (lexC l m = -1) := by
          unfold Hid
          rw [HLD.out, List.drop_of_length_le (show l.length ≤ k by omega), List.drop_eq_getElem_cons (show k < m.length by omega)]
          rfl
        clear hkl
        go_wp2
        go_ret
        exact ⟨by rw [HRE.out]; rfl, HBE.out⟩
      · have b2 : decide ((l.length : Int) < (m.length : Int)) = false := by simp; omega
        have HRE : Hid (lexC l m = 0) := by
          unfold Hid
          rw [HLD.out, List.drop_of_length_le (show l.length ≤ k by omega), List.drop_of_length_le (show m.length ≤ k by omega)]
          rfl
        clear hkl
        go_wp2
        go_ret
        exact ⟨by rw [HRE.out]; rfl, HBE.out⟩
noncomputable def preC (a b : ByteArray) : Int := open Classical in if a = b then 0 else if a.data.toList.isEmpty then 1 else if b.data.toList.isEmpty then -1 else lexC (partsB a) (partsB b)
theorem parts_len (s : ByteArray) : (partsB s).length ≤ s.size + 1 := by
  have hcl := Lib.countB_le stopB (by decide) s.size s (Nat.le_refl _)
  have hlen : (partsB s).length = Lib.countB s stopB + 1 := Lib.splitB_all stopB (by decide) 0 _ s rfl
  omega
set_option maxHeartbeats 2000000 in
set_option maxRecDepth 100000 in
theorem byPre_any (a b : ByteArray) (w : World) (ha : a.size ≤ 200) (hb : b.size ≤ 200) : Calls Tryz.prog 43 #[.string a, .string b] w fun e w' => e = .returned (.int .i64 (preC a b)) ∧ Below w.heap.size w w' := by
  have ea := empty_beq a
  have eb := empty_beq b
  have hab : (a.toList == b.toList) = decide (a.data.toList = b.data.toList) := by rw [Lib.toList_data, Lib.toList_data, Bool.eq_iff_iff]; simp
  by_cases h1 : a = b
  · have HR : Hid (preC a b = 0) := by unfold Hid preC; rw [if_pos h1]
    have b1 : (a.toList == b.toList) = true := by rw [h1]; simp
    go_enter Tryz.func43, Tryz.ntmps43
    go_wp2
    go_ret
    exact ⟨by rw [HR.out]; rfl, Below.refl _ _⟩
  · have hl : ¬ a.data.toList = b.data.toList := fun h => h1 (bytes_ext h)
    have b1 : (a.toList == b.toList) = false := by rw [hab]; exact decide_eq_false hl
    have HN : Hid (preC a b = if a.data.toList.isEmpty then 1 else if b.data.toList.isEmpty then -1 else lexC (partsB a) (partsB b)) := by unfold Hid preC; rw [if_neg h1]
    clear hab hl h1
    cases h2 : a.data.toList.isEmpty with
    | true =>
      rw [h2] at ea HN
      have HR : Hid (preC a b = 1) := HN.out
      clear h2
      go_enter Tryz.func43, Tryz.ntmps43
      go_wp2
      go_ret
      exact ⟨by rw [HR.out]; rfl, Below.refl _ _⟩
    | false =>
      rw [h2] at ea HN
      clear h2
      cases h3 : b.data.toList.isEmpty with
      | true =>
        rw [h3] at eb HN
        have HR : Hid (preC a b = -1) := HN.out
        clear h3
        go_enter Tryz.func43, Tryz.ntmps43
        go_wp2
        go_ret
        exact ⟨by rw [HR.out]; rfl, Below.refl _ _⟩
      | false =>
        rw [h3] at eb HN
        have HR : Hid (preC a b = lexC (partsB a) (partsB b)) := HN.out
        have HS1 := hidM (split_any a w ha)
        have HS2 := hidM (fun V => split_any b V hb)
        have HLX := hidM (fun g1 g2 V => lex_any g1 g2 (partsB a) (partsB b) V (by have := parts_len a; omega) (fun x hx => by have := parts_size hx; omega) (fun x hx => by have := parts_size hx; omega))
        clear h3
        generalize partsB a = l at *
        generalize partsB b = m at *
        unfold stopB at HS1 HS2
        have HB1 : Hid (Below w.heap.size w (w.alloc (.cells (l.map Value.string).toArray 9))) := (Below.refl _ _).alloc (Nat.le_refl _) _
        have HX1 := hidM (_root_.Go.heap_alloc_new w (.cells (l.map Value.string).toArray 9))
        go_enter Tryz.func43, Tryz.ntmps43
        go_wp2_with fail
        refine HS1.out.mono ?_
        rintro _ _ ⟨rfl, rfl⟩
        generalize (w.alloc (.cells (l.map Value.string).toArray 9)) = W1 at *
        go_wp2_with fail
        refine (HS2.out W1).mono ?_
        rintro _ _ ⟨rfl, rfl⟩
        have HB2 : Hid (Below W1.heap.size W1 (W1.alloc (.cells (m.map Value.string).toArray 9))) := (Below.refl _ _).alloc (Nat.le_refl _) _
        have HX2 := hidM (box_kept HX1.out HB2.out)
        have HY2 := hidM (_root_.Go.heap_alloc_new W1 (.cells (m.map Value.string).toArray 9))
        have HB3 := hidM (HB1.out.trans (HB2.out.mono HB1.out.size))
        generalize (W1.alloc (.cells (m.map Value.string).toArray 9)) = W2 at *
        go_wp2_with fail
        refine (HLX.out _ _ W2 HX2.out HY2.out).mono ?_
        rintro _ w5 ⟨rfl, hb5⟩
        have HB5 := hidM (HB3.out.trans (hb5.mono HB3.out.size))
        clear hb5
        go_wp2
        go_ret
        exact ⟨by rw [HR.out]; rfl, HB5.out⟩
end Go.Proofs.YtmhjdahmmdfbcaaGreatDoor
namespace Go.Proofs.YtmhjdahmmdfbcaaGreatDoor
theorem u8_lt (x y : UInt8) : x < y ↔ x.toNat < y.toNat := UInt8.lt_iff_toNat_lt
theorem cmp_cons (x y : UInt8) (a b : List UInt8) : Lib.compareBytes (x :: a) (y :: b) = if x.toNat < y.toNat then -1 else if y.toNat < x.toNat then 1 else Lib.compareBytes a b := by
  rw [Lib.compareBytes]; simp only [u8_lt]
theorem cmp_anti (a : List UInt8) : ∀ b, Lib.compareBytes a b = - Lib.compareBytes b a := by
  induction a with
  | nil => intro b; cases b <;> simp [Lib.compareBytes]
  | cons x a ih =>
    intro b
    cases b with
    | nil => simp [Lib.compareBytes]
    | cons y b =>
      rw [cmp_cons, cmp_cons, ih b]
      by_cases h1 : x.toNat < y.toNat
      · rw [if_pos h1, if_neg (by omega), if_pos h1]
      · by_cases h2 : y.toNat < x.toNat
        · rw [if_neg h1, if_pos h2, if_pos h2]; rfl
        · rw [if_neg h1, if_neg h2, if_neg h2, if_neg h1]
theorem cmp_le_trans (a : List UInt8) : ∀ b c, Lib.compareBytes a b ≤ 0 → Lib.compareBytes b c ≤ 0 → Lib.compareBytes a c ≤ 0 := by
  induction a with
  | nil => intro b c _ _; cases c <;> simp [Lib.compareBytes]
  | cons x a ih =>
    intro b c h1 h2
    cases b with
    | nil => simp [Lib.compareBytes] at h1
    | cons y b =>
      cases c with
      | nil => simp [Lib.compareBytes] at h2
      | cons z c =>
        rw [cmp_cons] at h1 h2 ⊢
        by_cases hxy : x.toNat < y.toNat
        · by_cases hyz : z.toNat < y.toNat
          · rw [if_neg (by omega), if_pos hyz] at h2; simp at h2
          · rw [if_pos (by omega)]; decide
        · rw [if_neg hxy] at h1
          by_cases hyx : y.toNat < x.toNat
          · rw [if_pos hyx] at h1; simp at h1
          · rw [if_neg hyx] at h1
            by_cases hyz : y.toNat < z.toNat
            · rw [if_pos (by omega)]; decide
            · rw [if_neg hyz] at h2
              by_cases hzy : z.toNat < y.toNat
              · rw [if_pos hzy] at h2; simp at h2
              · rw [if_neg hzy] at h2
                rw [if_neg (by omega), if_neg (by omega)]
                exact ih b c h1 h2
theorem cb_rng (a : List UInt8) : ∀ b, Lib.compareBytes a b = -1 ∨ Lib.compareBytes a b = 0 ∨ Lib.compareBytes a b = 1 := by
  induction a with
  | nil => intro b; cases b <;> simp [Lib.compareBytes]
  | cons x a ih =>
    intro b
    cases b with
    | nil => simp [Lib.compareBytes]
    | cons y b =>
      rw [cmp_cons]
      split
      · exact .inl rfl
      · split
        · exact .inr (.inr rfl)
        · exact ih b
/-- a total preorder, told by -1, 0, 1 -/
structure Ord3 {α : Type} (c : α → α → Int) : Prop where
  rng : ∀ a b, c a b = -1 ∨ c a b = 0 ∨ c a b = 1
  anti : ∀ a b, c b a = - c a b
  trans : ∀ a b d, c a b ≤ 0 → c b d ≤ 0 → c a d ≤ 0
theorem Ord3.same {α : Type} {c : α → α → Int} (h : Ord3 c) (a : α) : c a a = 0 := by have := h.anti a a; omega
theorem Ord3.pull {α β : Type} {c : α → α → Int} (h : Ord3 c) (f : β → α) : Ord3 fun a b => c (f a) (f b) := ⟨fun _ _ => h.rng _ _, fun _ _ => h.anti _ _, fun _ _ _ => h.trans _ _ _⟩
theorem Ord3.lex {α : Type} {c1 c2 : α → α → Int} (h1 : Ord3 c1) (h2 : Ord3 c2) : Ord3 fun a b => if c1 a b = 0 then c2 a b else c1 a b := by
  refine ⟨fun a b => ?_, fun a b => ?_, fun a b d => ?_⟩
  · have := h1.rng a b; have := h2.rng a b
    show (if c1 a b = 0 then c2 a b else c1 a b) = -1 ∨ _
    split <;> assumption
  · have := h1.anti a b; have := h2.anti a b
    show (if c1 b a = 0 then c2 b a else c1 b a) = - (if c1 a b = 0 then c2 a b else c1 a b)
    split <;> split <;> omega
  · show (if c1 a b = 0 then c2 a b else c1 a b) ≤ 0 → (if c1 b d = 0 then c2 b d else c1 b d) ≤ 0 → (if c1 a d = 0 then c2 a d else c1 a d) ≤ 0
    have t1 := h1.trans a b d; have t2 := h1.trans d a b; have t3 := h1.trans b d a
    have a1 := h1.anti a b; have a2 := h1.anti b d; have a3 := h1.anti a d
    have t4 := h2.trans a b d
    split <;> split <;> split <;> intro g1 g2 <;> omega
theorem ord_int : Ord3 cmpI := by
  refine ⟨fun a b => ?_, fun a b => ?_, fun a b d => ?_⟩ <;> unfold cmpI
  · split
    · exact .inl rfl
    · split
      · exact .inr (.inr rfl)
      · exact .inr (.inl rfl)
  · (repeat' split) <;> omega
  · (repeat' split) <;> intro g1 g2 <;> omega
theorem ord_bytes : Ord3 fun a b : ByteArray => Lib.compareBytes a.data.toList b.data.toList :=
  ⟨fun _ _ => cb_rng _ _, fun _ _ => cmp_anti _ _, fun _ _ _ => cmp_le_trans _ _ _⟩
theorem orL_two (x y : Int) : orL [x, y] = if x = 0 then y else x := by
  simp only [orL]
  split
  · split
    · omega
    · rfl
  · rfl
theorem ord_num : Ord3 numC := by
  have h := (ord_int.pull fun a : ByteArray => (a.size : Int)).lex ord_bytes
  have e : numC = fun a b : ByteArray => if cmpI (a.size : Int) (b.size : Int) = 0 then Lib.compareBytes a.data.toList b.data.toList else cmpI (a.size : Int) (b.size : Int) := by
    funext a b
    exact orL_two _ _
  rw [e]
  exact h
theorem ord_word : Ord3 wordCmp := by
  refine ⟨fun a b => ?_, fun a b => ?_, fun a b d => ?_⟩ <;> unfold wordCmp
  · have := ord_num.rng a b; have := ord_bytes.rng a b
    cases digL a.data.toList <;> cases digL b.data.toList <;> simp <;> assumption
  · have h1 := ord_num.anti a b; have h2 := ord_bytes.anti a b
    cases digL a.data.toList <;> cases digL b.data.toList <;> simp <;> assumption
  · have h1 := ord_num.trans a b d; have h2 := ord_bytes.trans a b d
    cases digL a.data.toList <;> cases digL b.data.toList <;> cases digL d.data.toList <;> simp <;> assumption
theorem lexC_rng (l : List ByteArray) : ∀ m, lexC l m = -1 ∨ lexC l m = 0 ∨ lexC l m = 1 := by
  induction l with
  | nil => intro m; cases m <;> simp [lexC]
  | cons a l ih =>
    intro m
    cases m with
    | nil => simp [lexC]
    | cons b m =>
      show (if wordCmp a b = 0 then lexC l m else wordCmp a b) = -1 ∨ (if wordCmp a b = 0 then lexC l m else wordCmp a b) = 0 ∨ (if wordCmp a b = 0 then lexC l m else wordCmp a b) = 1
      split
      · exact ih m
      · exact ord_word.rng a b
theorem lexC_anti (l : List ByteArray) : ∀ m, lexC m l = - lexC l m := by
  induction l with
  | nil => intro m; cases m <;> simp [lexC]
  | cons a l ih =>
    intro m
    cases m with
    | nil => simp [lexC]
    | cons b m =>
      show (if wordCmp b a = 0 then lexC m l else wordCmp b a) = - (if wordCmp a b = 0 then lexC l m else wordCmp a b)
      have h1 := ord_word.anti a b
      have h2 := ih m
      split <;> split <;> omega
theorem lexC_trans (l : List ByteArray) : ∀ m n, lexC l m ≤ 0 → lexC m n ≤ 0 → lexC l n ≤ 0 := by
  induction l with
  | nil => intro m n _ _; cases n <;> simp [lexC]
  | cons a l ih =>
    intro m n g1 g2
    cases m with
    | nil => simp [lexC] at g1
    | cons b m =>
      cases n with
      | nil => simp [lexC] at g2
      | cons d n =>
        revert g1 g2
        show (if wordCmp a b = 0 then lexC l m else wordCmp a b) ≤ 0 → (if wordCmp b d = 0 then lexC m n else wordCmp b d) ≤ 0 → (if wordCmp a d = 0 then lexC l n else wordCmp a d) ≤ 0
        have t1 := ord_word.trans a b d; have t2 := ord_word.trans d a b; have t3 := ord_word.trans b d a
        have a1 := ord_word.anti a b; have a2 := ord_word.anti b d; have a3 := ord_word.anti a d
        have t4 := ih m n
        split <;> split <;> split <;> intro g1 g2 <;> omega
theorem ord_lex : Ord3 lexC := ⟨lexC_rng, lexC_anti, lexC_trans⟩
theorem preC_eq (a b : ByteArray) : preC a b = if a.data.toList.isEmpty then (if b.data.toList.isEmpty then 0 else 1) else if b.data.toList.isEmpty then -1 else lexC (partsB a) (partsB b) := by
  unfold preC
  by_cases h : a = b
  · rw [if_pos h, h]
    split
    · rfl
    · rw [ord_lex.same]
  · rw [if_neg h]
    cases h1 : a.data.toList.isEmpty with
    | false => simp
    | true =>
      cases h2 : b.data.toList.isEmpty with
      | false => simp
      | true =>
        refine absurd (bytes_ext ?_) h
        rw [List.isEmpty_iff] at h1 h2
        rw [h1, h2]
end Go.Proofs.YtmhjdahmmdfbcaaGreatDoor
namespace Go.Proofs.YtmhjdahmmdfbcaaGreatDoor
open Go.RowKit
def noVer : Ver := ⟨⟨#[]⟩, ⟨#[]⟩, ⟨#[]⟩, ⟨#[]⟩, ⟨#[]⟩, 0⟩
theorem verV_eq (v : Option Ver) : verV v = .tuple #[.agg #[.string (v.getD noVer).major, .string (v.getD noVer).minor, .string (v.getD noVer).patch, .string (v.getD noVer).pre, .string (v.getD noVer).build, .int .i64 ((v.getD noVer).short : Int)], .bool v.isSome] := by
  cases v <;> rfl
theorem parse_any (s : ByteArray) (w : World) (hm : s.size ≤ 9223372036854775807) : Calls Tryz.prog 18 #[.string s] w fun x w' => x = .returned (.tuple #[.agg #[.string ((parseR s).getD noVer).major, .string ((parseR s).getD noVer).minor, .string ((parseR s).getD noVer).patch, .string ((parseR s).getD noVer).pre, .string ((parseR s).getD noVer).build, .int .i64 (((parseR s).getD noVer).short : Int)], .bool (parseR s).isSome]) ∧ Below w.heap.size w w' := by
  rw [← verV_eq]
  by_cases h : s.size ≤ 100
  · exact parse_short s w h
  · have hn : parseR s = none := by unfold parseR; rw [decide_eq_false h]; rfl
    rw [hn]
    exact parse_long s w (by omega) hm
theorem strOf_size (l : List UInt8) : (strOf l).size = l.length := by show l.toArray.size = _; simp
theorem pre_size (s : ByteArray) : ((parseR s).getD noVer).pre.size ≤ 200 := by
  unfold parseR
  split
  · rename_i h
    simp only [Bool.and_eq_true, decide_eq_true_eq] at h
    show (strOf (cutR 45 (cutR 43 (vCut s.data.toList).1).1).2.1).size ≤ 200
    rw [strOf_size]
    have h1 := (cutR_len 45 (cutR 43 (vCut s.data.toList).1).1).2
    have h2 := (cutR_len 43 (vCut s.data.toList).1).1
    have h3 : (vCut s.data.toList).1.length ≤ s.data.toList.length := by
      cases s.data.toList with
      | nil => exact Nat.le_refl _
      | cons c l => simp only [vCut]; split <;> simp
    rw [size_len] at h3
    omega
  · decide
noncomputable def cmpV (x y : Ver) : Int := orL [numC x.major y.major, numC x.minor y.minor, numC x.patch y.patch, preC x.pre y.pre]
noncomputable def cmpS (a b : ByteArray) : Int := cmpV ((parseR a).getD noVer) ((parseR b).getD noVer)
theorem orL_four (a b c d : Int) : orL [a, b, c, d] = if a = 0 then (if b = 0 then (if c = 0 then d else c) else b) else a := by
  simp only [orL]
  split
  · split
    · split
      · split
        · omega
        · rfl
      · rfl
    · rfl
  · rfl
/-- the two boxes of Compare -/
structure CmS (w : World) (B1 B2 : Nat) (x y : Ver) (V : World) : Prop where
  bel : Below w.heap.size w V
  b1 : V.heap[B1]? = some (.cells #[.string x.major, .string x.minor, .string x.patch, .string x.pre, .string x.build, .int .i64 (x.short : Int)] 43)
  b2 : V.heap[B2]? = some (.cells #[.string y.major, .string y.minor, .string y.patch, .string y.pre, .string y.build, .int .i64 (y.short : Int)] 43)
variable {w V w' : World} {B1 B2 : Nat} {x y : Ver}
theorem CmS.next (H : CmS w B1 B2 x y V) (hb : Below V.heap.size V w') : CmS w B1 B2 x y w' := ⟨H.bel.trans (hb.mono H.bel.size), box_kept H.b1 hb, box_kept H.b2 hb⟩
theorem CmS.alloc {o : Obj} (H : CmS w B1 B2 x y V) : CmS w B1 B2 x y (V.alloc o) := H.next ((Below.refl _ _).alloc (Nat.le_refl _) _)
theorem CmS.drew (H : Hid (CmS w B1 B2 x y V)) : Hid (CmS w B1 B2 x y V.drew) := ⟨H.out.bel.trans ⟨rfl, rfl, rfl, Nat.le_refl _, fun _ _ => rfl⟩, H.out.b1, H.out.b2⟩
theorem CmS.drewN (H : Hid (CmS w B1 B2 x y V)) (n : Nat) : Hid (CmS w B1 B2 x y (V.drewN n)) := ⟨below_drewN H.out.bel n, H.out.b1, H.out.b2⟩
theorem CmS.full (H : CmS w B1 B2 x y w') : w'.cell? ⟨B1, 0, none⟩ = some (.string x.major) ∧ w'.cell? ⟨B1, 1, none⟩ = some (.string x.minor) ∧ w'.cell? ⟨B1, 2, none⟩ = some (.string x.patch) ∧ w'.cell? ⟨B1, 3, none⟩ = some (.string x.pre) ∧ w'.cell? ⟨B2, 0, none⟩ = some (.string y.major) ∧ w'.cell? ⟨B2, 1, none⟩ = some (.string y.minor) ∧ w'.cell? ⟨B2, 2, none⟩ = some (.string y.patch) ∧ w'.cell? ⟨B2, 3, none⟩ = some (.string y.pre) ∧ Hid (CmS w B1 B2 x y w') := by
  refine ⟨?_, ?_, ?_, ?_, ?_, ?_, ?_, ?_, H⟩
  · rw [cell_of_row _ _ _ _ 43 (0, 0) H.b1]; rfl
  · rw [cell_of_row _ _ _ _ 43 (0, 0) H.b1]; rfl
  · rw [cell_of_row _ _ _ _ 43 (0, 0) H.b1]; rfl
  · rw [cell_of_row _ _ _ _ 43 (0, 0) H.b1]; rfl
  · rw [cell_of_row _ _ _ _ 43 (0, 0) H.b2]; rfl
  · rw [cell_of_row _ _ _ _ 43 (0, 0) H.b2]; rfl
  · rw [cell_of_row _ _ _ _ 43 (0, 0) H.b2]; rfl
  · rw [cell_of_row _ _ _ _ 43 (0, 0) H.b2]; rfl
set_option maxHeartbeats 4000000 in
set_option maxRecDepth 100000 in
theorem compare_any (a b : ByteArray) (w : World) (ha : a.size ≤ 9223372036854775807) (hb : b.size ≤ 9223372036854775807) :
    Calls Tryz.prog 16 #[.string a, .string b] w fun e w' => e = .returned (.int .i64 (cmpS a b)) ∧ Below w.heap.size w w' := by
  have HA := hidM (parse_any a w ha)
  have HB := hidM (fun V => parse_any b V hb)
  have hx := pre_size a
  have hy := pre_size b
  have HCS : Hid (cmpS a b = cmpV ((parseR a).getD noVer) ((parseR b).getD noVer)) := rfl
  generalize (parseR a).isSome = oa at *
  generalize (parseR b).isSome = ob at *
  generalize (parseR a).getD noVer = x at *
  generalize (parseR b).getD noVer = y at *
  have HN1 := hidM (fun V => byNumber_any x.major y.major V)
  have HN2 := hidM (fun V => byNumber_any x.minor y.minor V)
  have HN3 := hidM (fun V => byNumber_any x.patch y.patch V)
  have HN4 := hidM (fun V => byPre_any x.pre y.pre V hx hy)
  unfold cmpV at HCS
  clear hx hy
  generalize numC x.major y.major = r1 at *
  generalize numC x.minor y.minor = r2 at *
  generalize numC x.patch y.patch = r3 at *
  generalize preC x.pre y.pre = r4 at *
  have H5 : Hid (∀ V : World, Calls Tryz.prog 41 #[.slice (some ⟨V.heap.size, 0, none⟩) 4 4] (V.alloc (.cells #[.int .i64 r1, .int .i64 r2, .int .i64 r3, .int .i64 r4] 3)) fun e w' => e = .returned (.int .i64 (orL [r1, r2, r3, r4])) ∧ w' = V.alloc (.cells #[.int .i64 r1, .int .i64 r2, .int .i64 r3, .int .i64 r4] 3)) := fun V => or_any V.heap.size [r1, r2, r3, r4] _ (by simp) (_root_.Go.heap_alloc_new _ _)
  go_enter Tryz.func16, Tryz.ntmps16
  go_wp2_with fail
  refine HA.out.mono ?_
  rintro _ w1 ⟨rfl, hb1⟩
  have HB1 : Hid (Below w.heap.size w (w1.alloc (.cells #[.string x.major, .string x.minor, .string x.patch, .string x.pre, .string x.build, .int .i64 (x.short : Int)] 43))) := hb1.alloc hb1.size _
  have HX1 := hidM (_root_.Go.heap_alloc_new w1 (.cells #[.string x.major, .string x.minor, .string x.patch, .string x.pre, .string x.build, .int .i64 (x.short : Int)] 43))
  clear hb1
  go_wp2_with fail
  generalize (w1.alloc (.cells #[.string x.major, .string x.minor, .string x.patch, .string x.pre, .string x.build, .int .i64 (x.short : Int)] 43)) = W1 at *
  generalize w1.heap.size = B1 at *
  refine (HB.out W1).mono ?_
  rintro _ w2 ⟨rfl, hb2⟩
  have HB2 := hidM (HB1.out.trans (hb2.mono HB1.out.size))
  have HX2 := hidM (box_kept HX1.out hb2)
  have HS0 : Hid (CmS w B1 w2.heap.size x y (w2.alloc (.cells #[.string y.major, .string y.minor, .string y.patch, .string y.pre, .string y.build, .int .i64 (y.short : Int)] 43))) := ⟨HB2.out.alloc HB2.out.size _, (_root_.Go.heap_alloc_old _ _ (Array.getElem?_eq_some_iff.1 HX2.out).1).trans HX2.out, _root_.Go.heap_alloc_new _ _⟩
  clear hb2 HA HB HB1 HX1 HB2 HX2
  go_upto_region 3 with fail
  generalize (w2.alloc (.cells #[.string y.major, .string y.minor, .string y.patch, .string y.pre, .string y.build, .int .i64 (y.short : Int)] 43)) = W2 at *
  generalize w2.heap.size = B2 at *
  have H1 : Hid (∀ V, Hid (CmS w B1 B2 x y V) → Calls Tryz.prog 42 #[.string x.major, .string y.major] V fun e w' => e = .returned (.int .i64 r1) ∧ w'.cell? ⟨B1, 0, none⟩ = some (.string x.major) ∧ w'.cell? ⟨B1, 1, none⟩ = some (.string x.minor) ∧ w'.cell? ⟨B1, 2, none⟩ = some (.string x.patch) ∧ w'.cell? ⟨B1, 3, none⟩ = some (.string x.pre) ∧ w'.cell? ⟨B2, 0, none⟩ = some (.string y.major) ∧ w'.cell? ⟨B2, 1, none⟩ = some (.string y.minor) ∧ w'.cell? ⟨B2, 2, none⟩ = some (.string y.patch) ∧ w'.cell? ⟨B2, 3, none⟩ = some (.string y.pre) ∧ Hid (CmS w B1 B2 x y w')) := fun V hV => (HN1.out V).mono fun e w' g => ⟨g.1, CmS.full (hV.out.next g.2)⟩
  have H2 : Hid (∀ V, Hid (CmS w B1 B2 x y V) → Calls Tryz.prog 42 #[.string x.minor, .string y.minor] V fun e w' => e = .returned (.int .i64 r2) ∧ w'.cell? ⟨B1, 0, none⟩ = some (.string x.major) ∧ w'.cell? ⟨B1, 1, none⟩ = some (.string x.minor) ∧ w'.cell? ⟨B1, 2, none⟩ = some (.string x.patch) ∧ w'.cell? ⟨B1, 3, none⟩ = some (.string x.pre) ∧ w'.cell? ⟨B2, 0, none⟩ = some (.string y.major) ∧ w'.cell? ⟨B2, 1, none⟩ = some (.string y.minor) ∧ w'.cell? ⟨B2, 2, none⟩ = some (.string y.patch) ∧ w'.cell? ⟨B2, 3, none⟩ = some (.string y.pre) ∧ Hid (CmS w B1 B2 x y w')) := fun V hV => (HN2.out V).mono fun e w' g => ⟨g.1, CmS.full (hV.out.next g.2)⟩
  have H3 : Hid (∀ V, Hid (CmS w B1 B2 x y V) → Calls Tryz.prog 42 #[.string x.patch, .string y.patch] V fun e w' => e = .returned (.int .i64 r3) ∧ w'.cell? ⟨B1, 0, none⟩ = some (.string x.major) ∧ w'.cell? ⟨B1, 1, none⟩ = some (.string x.minor) ∧ w'.cell? ⟨B1, 2, none⟩ = some (.string x.patch) ∧ w'.cell? ⟨B1, 3, none⟩ = some (.string x.pre) ∧ w'.cell? ⟨B2, 0, none⟩ = some (.string y.major) ∧ w'.cell? ⟨B2, 1, none⟩ = some (.string y.minor) ∧ w'.cell? ⟨B2, 2, none⟩ = some (.string y.patch) ∧ w'.cell? ⟨B2, 3, none⟩ = some (.string y.pre) ∧ Hid (CmS w B1 B2 x y w')) := fun V hV => (HN3.out V).mono fun e w' g => ⟨g.1, CmS.full (hV.out.next g.2)⟩
  have H4 : Hid (∀ V, Hid (CmS w B1 B2 x y V) → Calls Tryz.prog 43 #[.string x.pre, .string y.pre] V fun e w' => e = .returned (.int .i64 r4) ∧ w'.cell? ⟨B1, 0, none⟩ = some (.string x.major) ∧ w'.cell? ⟨B1, 1, none⟩ = some (.string x.minor) ∧ w'.cell? ⟨B1, 2, none⟩ = some (.string x.patch) ∧ w'.cell? ⟨B1, 3, none⟩ = some (.string x.pre) ∧ w'.cell? ⟨B2, 0, none⟩ = some (.string y.major) ∧ w'.cell? ⟨B2, 1, none⟩ = some (.string y.minor) ∧ w'.cell? ⟨B2, 2, none⟩ = some (.string y.patch) ∧ w'.cell? ⟨B2, 3, none⟩ = some (.string y.pre) ∧ Hid (CmS w B1 B2 x y w')) := fun V hV => (HN4.out V).mono fun e w' g => ⟨g.1, CmS.full (hV.out.next g.2)⟩
  clear HN1 HN2 HN3 HN4
  obtain ⟨y0, y1, y2, y3, y4, y5, y6, y7, _⟩ := CmS.full HS0.out
  go_region_held3 (fun w' => w'.cell? ⟨B1, 0, none⟩ = some (.string x.major) ∧ w'.cell? ⟨B1, 1, none⟩ = some (.string x.minor) ∧ w'.cell? ⟨B1, 2, none⟩ = some (.string x.patch) ∧ w'.cell? ⟨B1, 3, none⟩ = some (.string x.pre) ∧ w'.cell? ⟨B2, 0, none⟩ = some (.string y.major) ∧ w'.cell? ⟨B2, 1, none⟩ = some (.string y.minor) ∧ w'.cell? ⟨B2, 2, none⟩ = some (.string y.patch) ∧ w'.cell? ⟨B2, 3, none⟩ = some (.string y.pre) ∧ Hid (CmS w B1 B2 x y w'))
    (first | exact hS4 | exact hS3 | exact hS2 | exact hS1 | exact CmS.full (CmS.alloc (Hid.out (by repeat (first | exact hS4.2.2.2.2.2.2.2.2 | exact hS3.2.2.2.2.2.2.2.2 | exact hS2.2.2.2.2.2.2.2.2 | exact hS1.2.2.2.2.2.2.2.2 | exact HS0 | apply CmS.drew | apply CmS.drewN)))) | exact CmS.full (Hid.out (by repeat (first | exact hS4.2.2.2.2.2.2.2.2 | exact hS3.2.2.2.2.2.2.2.2 | exact hS2.2.2.2.2.2.2.2.2 | exact hS1.2.2.2.2.2.2.2.2 | exact HS0 | apply CmS.drew | apply CmS.drewN))))
    (first
      | (go_at_call 42; with_reducible refine (H1.out _ (by repeat (first | exact hS4.2.2.2.2.2.2.2.2 | exact hS3.2.2.2.2.2.2.2.2 | exact hS2.2.2.2.2.2.2.2.2 | exact hS1.2.2.2.2.2.2.2.2 | exact HS0 | apply CmS.drew | apply CmS.drewN))).mono ?_; rintro _ v1 ⟨rfl, hS1⟩)
      | (go_at_call 42; with_reducible refine (H2.out _ (by repeat (first | exact hS4.2.2.2.2.2.2.2.2 | exact hS3.2.2.2.2.2.2.2.2 | exact hS2.2.2.2.2.2.2.2.2 | exact hS1.2.2.2.2.2.2.2.2 | exact HS0 | apply CmS.drew | apply CmS.drewN))).mono ?_; rintro _ v2 ⟨rfl, hS2⟩)
      | (go_at_call 42; with_reducible refine (H3.out _ (by repeat (first | exact hS4.2.2.2.2.2.2.2.2 | exact hS3.2.2.2.2.2.2.2.2 | exact hS2.2.2.2.2.2.2.2.2 | exact hS1.2.2.2.2.2.2.2.2 | exact HS0 | apply CmS.drew | apply CmS.drewN))).mono ?_; rintro _ v3 ⟨rfl, hS3⟩)
      | (go_at_call 43; with_reducible refine (H4.out _ (by repeat (first | exact hS4.2.2.2.2.2.2.2.2 | exact hS3.2.2.2.2.2.2.2.2 | exact hS2.2.2.2.2.2.2.2.2 | exact hS1.2.2.2.2.2.2.2.2 | exact HS0 | apply CmS.drew | apply CmS.drewN))).mono ?_; rintro _ v4 ⟨rfl, hS4⟩)
      | (go_at_call 41; with_reducible refine (H5.out _).mono ?_; rintro _ v5 ⟨rfl, rfl⟩))
  have HE := hidM (CmS.alloc (o := .cells #[.int .i64 r1, .int .i64 r2, .int .i64 r3, .int .i64 r4] 3) hS4.2.2.2.2.2.2.2.2.out).bel
  clear hS1 hS2 hS3 hS4
  go_wp2
  go_ret
  exact ⟨by rw [HCS.out]; rfl, HE.out⟩
end Go.Proofs.YtmhjdahmmdfbcaaGreatDoor
namespace Go.Proofs.YtmhjdahmmdfbcaaGreatDoor
open Go.RowKit
theorem getD_size (l : List ByteArray) (i n : Nat) (h : ∀ x ∈ l, x.size ≤ n) (h1 : 1 ≤ n) : (l.getD i nought).size ≤ n := by
  rw [List.getD_eq_getElem?_getD]
  cases hx : l[i]? with
  | none => exact h1
  | some x => exact h x (List.mem_of_getElem? hx)
theorem ver_small {s : ByteArray} {v : Ver} (h : parseR s = some v) : v.major.size ≤ 200 ∧ v.minor.size ≤ 200 ∧ v.patch.size ≤ 200 ∧ v.pre.size ≤ 200 := by
  have hp := pre_size s
  rw [h] at hp
  unfold parseR at h
  split at h
  · rename_i hc
    simp only [Bool.and_eq_true, decide_eq_true_eq] at hc
    have hn : (cutsOf s).nums.size ≤ 200 := by
      show (strOf (cutR 45 (cutR 43 (vCut s.data.toList).1).1).1).size ≤ 200
      rw [strOf_size]
      have h1 := (cutR_len 45 (cutR 43 (vCut s.data.toList).1).1).1
      have h2 := (cutR_len 43 (vCut s.data.toList).1).1
      have h3 : (vCut s.data.toList).1.length ≤ s.data.toList.length := by
        cases s.data.toList with
        | nil => exact Nat.le_refl _
        | cons c l => simp only [vCut]; split <;> simp
      rw [size_len] at h3
      omega
    have hall : ∀ x ∈ partsB (cutsOf s).nums ++ [nought, nought], x.size ≤ 200 := fun x hx => by
      rcases List.mem_append.1 hx with hx | hx
      · have := parts_size hx; omega
      · simp only [List.mem_cons, List.not_mem_nil, or_false] at hx
        rcases hx with rfl | rfl <;> decide
    have e := Option.some.inj h
    subst e
    exact ⟨getD_size _ 0 200 hall (by decide), getD_size _ 1 200 hall (by decide), getD_size _ 2 200 hall (by decide), hp⟩
  · cases h
def canV (v : Ver) : ByteArray :=
  let t := (⟨#[118]⟩ : ByteArray) ++ v.major ++ ⟨#[46]⟩ ++ v.minor ++ ⟨#[46]⟩ ++ v.patch
  if v.pre.data.toList.isEmpty then t else t ++ (⟨#[45]⟩ ++ v.pre)
end Go.Proofs.YtmhjdahmmdfbcaaGreatDoor
namespace Go.Proofs.YtmhjdahmmdfbcaaGreatDoor
open Go.RowKit
theorem splitC_no {c : UInt8} : ∀ {l : List UInt8}, c ∉ l → splitC c l = none
  | [], _ => rfl
  | b :: l, h => by
    unfold splitC
    rw [if_neg (fun e => h (by rw [e]; exact List.mem_cons_self)), splitC_no (fun hm => h (List.mem_cons_of_mem _ hm))]
    rfl
theorem cutR_no {c : UInt8} {l : List UInt8} (h : c ∉ l) : cutR c l = (l, [], false) := by
  unfold cutR
  rw [splitC_no h]
theorem dig_no {l : List UInt8} (h : digL l = true) {c : UInt8} (hc : digC c = false) : c ∉ l := fun hm => by
  unfold digL at h
  rw [Bool.and_eq_true, List.all_eq_true] at h
  rw [h.1 c hm] at hc
  cases hc
theorem num_dig {l : List UInt8} (h : numL l = true) : digL l = true := by
  unfold numL at h
  rw [Bool.and_eq_true] at h
  exact h.1
theorem parts_one {s : ByteArray} (h : (46 : UInt8) ∉ s.data.toList) : partsB s = [s] := by
  unfold partsB
  have h0 : Lib.indexB s stopB = -1 := by
    rw [index_stopB]
    exact (split_none (splitC_no h)).1
  exact Lib.splitB_miss _ _ _ _ h0
theorem strOf_list (s : ByteArray) : strOf s.data.toList = s := rfl
theorem maj_list (n : ByteArray) : ((⟨#[118]⟩ : ByteArray) ++ n).data.toList = 118 :: n.data.toList := by simp [ByteArray.data_append]
theorem parse_v (n : ByteArray) (h : numL n.data.toList = true) (hz : n.size ≤ 99) : parseR ((⟨#[118]⟩ : ByteArray) ++ n) = some ⟨n, nought, nought, strOf [], strOf [], 2⟩ := by
  have hd := num_dig h
  have hc : cutsOf ((⟨#[118]⟩ : ByteArray) ++ n) = ⟨true, n, strOf [], strOf [], false, false⟩ := by
    unfold cutsOf
    rw [maj_list]
    have hv : vCut (118 :: n.data.toList) = (n.data.toList, true) := by simp [vCut]
    simp only [hv, cutR_no (dig_no hd (c := 43) (by decide)), cutR_no (dig_no hd (c := 45) (by decide)), strOf_list]
  have hp : partsB n = [n] := parts_one (dig_no hd (by decide))
  have hs : ((⟨#[118]⟩ : ByteArray) ++ n).size ≤ 100 := by
    rw [ByteArray.size_append]
    show 1 + n.size ≤ 100
    omega
  have ho : okC (cutsOf ((⟨#[118]⟩ : ByteArray) ++ n)) = true := by
    rw [hc]
    unfold okC
    simp only [hp]
    simp [h]
  unfold parseR
  rw [decide_eq_true hs, ho, hc]
  unfold verC
  simp only [hp]
  rfl
theorem major_num {s : ByteArray} {v : Ver} (h : parseR s = some v) : numL v.major.data.toList = true ∧ v.major.size ≤ 99 := by
  unfold parseR at h
  split at h
  · rename_i hc
    simp only [Bool.and_eq_true, decide_eq_true_eq] at hc
    obtain ⟨hs, hok⟩ := hc
    have e := Option.some.inj h
    subst e
    unfold okC at hok
    simp only [Bool.and_eq_true] at hok
    obtain ⟨⟨⟨⟨⟨hm, _⟩, _⟩, _⟩, _⟩, han⟩ := hok
    rw [List.all_eq_true] at han
    have hlen : (partsB (cutsOf s).nums).length = Lib.countB (cutsOf s).nums stopB + 1 := Lib.splitB_all stopB (by decide) 0 _ _ rfl
    have hns : (cutsOf s).nums.size ≤ 99 := by
      show (strOf (cutR 45 (cutR 43 (vCut s.data.toList).1).1).1).size ≤ 99
      rw [strOf_size]
      have h1 := (cutR_len 45 (cutR 43 (vCut s.data.toList).1).1).1
      have h2 := (cutR_len 43 (vCut s.data.toList).1).1
      have hm' : (vCut s.data.toList).2 = true := hm
      have h3 : (vCut s.data.toList).1.length + 1 ≤ s.data.toList.length := by
        cases hl : s.data.toList with
        | nil => rw [hl] at hm'; cases hm'
        | cons c l =>
          rw [hl] at hm'
          simp only [vCut] at hm' ⊢
          by_cases h118 : c = 118
          · rw [if_pos h118]; simp
          · rw [if_neg h118] at hm'; cases hm'
      rw [size_len] at h3
      omega
    cases hp : partsB (cutsOf s).nums with
    | nil => rw [hp] at hlen; simp at hlen
    | cons a l =>
      have hmem : a ∈ partsB (cutsOf s).nums := by rw [hp]; exact List.mem_cons_self
      have hmj : (verC (cutsOf s)).major = a := by unfold verC; simp only [hp]; rfl
      rw [hmj]
      exact ⟨han a hmem, by have := parts_size hmem; omega⟩
  · cases h
end Go.Proofs.YtmhjdahmmdfbcaaGreatDoor
namespace Go.Proofs.YtmhjdahmmdfbcaaGreatDoor
open Go.RowKit
theorem splitC_app {c : UInt8} : ∀ {l r : List UInt8}, c ∉ l → splitC c (l ++ c :: r) = some (l, r)
  | [], r, _ => by
    show splitC c (c :: r) = _
    unfold splitC
    rw [if_pos rfl]
  | b :: l, r, h => by
    show splitC c (b :: (l ++ c :: r)) = _
    unfold splitC
    rw [if_neg (fun e => h (by rw [e]; exact List.mem_cons_self)), splitC_app (fun hm => h (List.mem_cons_of_mem _ hm))]
    rfl
theorem cutR_app {c : UInt8} {l r : List UInt8} (h : c ∉ l) : cutR c (l ++ c :: r) = (l, r, true) := by
  unfold cutR
  rw [splitC_app h]
theorem parts_cons {a r : ByteArray} (h : (46 : UInt8) ∉ a.data.toList) : partsB (strOf (a.data.toList ++ 46 :: r.data.toList)) = a :: partsB r := by
  have hl : (strOf (a.data.toList ++ 46 :: r.data.toList)).data.toList = a.data.toList ++ 46 :: r.data.toList := rfl
  have hz : (strOf (a.data.toList ++ 46 :: r.data.toList)).size = a.size + 1 + r.size := by
    rw [strOf_size, List.length_append, List.length_cons, size_len, size_len]; omega
  generalize strOf (a.data.toList ++ 46 :: r.data.toList) = x at *
  have hi : Lib.indexB x stopB = (a.size : Int) := by
    rw [index_stopB, hl, (split_some (splitC_app h)).1, size_len]
  have hc : Lib.countB x stopB = Lib.countB r stopB + 1 := by
    rw [count_stopB, count_stopB, hl]
    unfold Lib.countByte
    rw [List.count_append, List.count_cons, List.count_eq_zero_of_not_mem h]
    simp
  unfold partsB
  rw [hc, Lib.splitB_hit _ _ _ _ a.size hi]
  have e1 : x.extract 0 (a.size + 0) = a := bytes_ext (by
    rw [Nat.add_zero, ext_head, hl, ← size_len, List.take_left])
  have e2 : x.extract (a.size + stopB.size) x.size = r := bytes_ext (by
    rw [ext_tail, hl]
    show List.drop (a.size + 1) _ = _
    rw [← size_len, List.drop_append]
    simp)
  rw [e1, e2]
theorem parts_three {a b c : ByteArray} (ha : (46 : UInt8) ∉ a.data.toList) (hb : (46 : UInt8) ∉ b.data.toList) (hc : (46 : UInt8) ∉ c.data.toList) :
    partsB (strOf (a.data.toList ++ 46 :: (b.data.toList ++ 46 :: c.data.toList))) = [a, b, c] := by
  have e : b.data.toList ++ 46 :: c.data.toList = (strOf (b.data.toList ++ 46 :: c.data.toList)).data.toList := rfl
  rw [e, parts_cons ha, parts_cons hb, parts_one hc]
theorem cutR_first (c : UInt8) (l : List UInt8) : c ∉ (cutR c l).1 := by
  unfold cutR
  cases h : splitC c l with
  | none => exact (split_none h).2
  | some x => exact (split_some (p := x.1) (q := x.2) h).2.2
theorem cutR_rest (c : UInt8) (l : List UInt8) {b : UInt8} (hb : b ∈ (cutR c l).2.1) : b ∈ l := by
  unfold cutR at hb
  cases h : splitC c l with
  | none => rw [h] at hb; cases hb
  | some x =>
    rw [h] at hb
    have e := (split_some (p := x.1) (q := x.2) h).2.1
    rw [e]
    exact List.mem_append_right _ (List.mem_cons_of_mem _ hb)
theorem cutR_none (c : UInt8) (l : List UInt8) (h : (cutR c l).2.2 = false) : (cutR c l).2.1 = [] := by
  unfold cutR at h ⊢
  cases hs : splitC c l with
  | none => rfl
  | some x => rw [hs] at h; cases h
theorem all_getD {P : ByteArray → Prop} : ∀ {l : List ByteArray} {d : ByteArray} (i : Nat), (∀ x ∈ l, P x) → P d → P (l.getD i d)
  | [], _,_,_, hd => hd
  | a :: _,_, 0, h, _ => h a List.mem_cons_self
  | _ :: l, _, i + 1, h, hd => all_getD (l := l) i (fun x hx => h x (List.mem_cons_of_mem _ hx)) hd
structure Right (v : Ver) : Prop where
  major : numL v.major.data.toList = true
  minor : numL v.minor.data.toList = true
  patch : numL v.patch.data.toList = true
  plus : (43 : UInt8) ∉ v.pre.data.toList
  pre : v.pre.data.toList.isEmpty = false → ((partsB v.pre).all fun x => preL x.data.toList) = true
theorem ver_right {s : ByteArray} {v : Ver} (h : parseR s = some v) : Right v := by
  unfold parseR at h
  split at h
  · rename_i hc
    simp only [Bool.and_eq_true, decide_eq_true_eq] at hc
    obtain ⟨_, hok⟩ := hc
    have e := Option.some.inj h
    subst e
    unfold okC at hok
    simp only [Bool.and_eq_true] at hok
    obtain ⟨⟨⟨_, hpre⟩, _⟩, han⟩ := hok
    rw [List.all_eq_true] at han
    have hall : ∀ x ∈ partsB (cutsOf s).nums ++ [nought, nought], numL x.data.toList = true := by
      intro x hx
      rcases List.mem_append.1 hx with hx | hx
      · exact han x hx
      · simp only [List.mem_cons, List.not_mem_nil, or_false, or_self] at hx
        rw [hx]; decide
    have hd : numL nought.data.toList = true := by decide
    refine ⟨all_getD (P := fun x => numL x.data.toList = true) 0 hall hd, all_getD (P := fun x => numL x.data.toList = true) 1 hall hd, all_getD (P := fun x => numL x.data.toList = true) 2 hall hd, ?_, ?_⟩
    · show (43 : UInt8) ∉ (cutR 45 (cutR 43 (vCut s.data.toList).1).1).2.1
      exact fun hm => cutR_first 43 _ (cutR_rest 45 _ hm)
    · intro hne
      have hne' : (cutR 45 (cutR 43 (vCut s.data.toList).1).1).2.1.isEmpty = false := hne
      have hh : (cutsOf s).hasPre = true := by
        show (cutR 45 (cutR 43 (vCut s.data.toList).1).1).2.2 = true
        cases hb : (cutR 45 (cutR 43 (vCut s.data.toList).1).1).2.2 with
        | true => rfl
        | false => rw [cutR_none _ _ hb] at hne'; cases hne'
      rw [hh] at hpre
      show ((partsB (cutsOf s).pre).all fun x => preL x.data.toList) = true
      simpa using hpre
  · cases h
theorem not_app {c : UInt8} {l r : List UInt8} (hl : c ∉ l) (hr : c ∉ r) : c ∉ l ++ r := fun h => (List.mem_append.1 h).elim hl hr
theorem not_cons {c b : UInt8} {r : List UInt8} (hb : c ≠ b) (hr : c ∉ r) : c ∉ b :: r := fun h => (List.mem_cons.1 h).elim hb hr
/-- the three numbers in a row -/
def numsL (v : Ver) : List UInt8 := v.major.data.toList ++ 46 :: (v.minor.data.toList ++ 46 :: v.patch.data.toList)
theorem nums_no {v : Ver} (h : Right v) {c : UInt8} (hc : digC c = false) (h46 : c ≠ 46) : c ∉ numsL v :=
  not_app (dig_no (num_dig h.major) hc) (not_cons h46 (not_app (dig_no (num_dig h.minor) hc) (not_cons h46 (dig_no (num_dig h.patch) hc))))
theorem nums_parts {v : Ver} (h : Right v) : partsB (strOf (numsL v)) = [v.major, v.minor, v.patch] :=
  parts_three (dig_no (num_dig h.major) (by decide)) (dig_no (num_dig h.minor) (by decide)) (dig_no (num_dig h.patch) (by decide))
theorem can_list (v : Ver) : (canV v).data.toList = 118 :: (if v.pre.data.toList.isEmpty then numsL v else numsL v ++ 45 :: v.pre.data.toList) := by
  unfold canV numsL
  split <;> simp [ByteArray.data_append]
def bare (v : Ver) : Ver := ⟨v.major, v.minor, v.patch, v.pre, strOf [], 0⟩
theorem parse_can {v : Ver} (h : Right v) (hz : (canV v).size ≤ 100) : parseR (canV v) = some (bare v) := by
  have hp := nums_parts h
  have n43 := nums_no h (c := 43) (by decide) (by decide)
  have n45 := nums_no h (c := 45) (by decide) (by decide)
  have hv : ∀ l : List UInt8, vCut (118 :: l) = (l, true) := fun l => by simp [vCut]
  by_cases he : v.pre.data.toList.isEmpty = true
  · have hl : (canV v).data.toList = 118 :: numsL v := by rw [can_list, if_pos he]
    have hc : cutsOf (canV v) = ⟨true, strOf (numsL v), strOf [], strOf [], false, false⟩ := by
      unfold cutsOf
      rw [hl]
      simp only [hv, cutR_no n43, cutR_no n45]
    have ep : v.pre = strOf [] := bytes_ext (by rw [List.isEmpty_iff.1 he]; rfl)
    have ho : okC (cutsOf (canV v)) = true := by
      rw [hc]
      unfold okC
      simp only [hp]
      simp [h.major, h.minor, h.patch]
    unfold parseR
    rw [decide_eq_true hz, ho, hc]
    unfold verC bare
    simp only [hp]
    rw [ep]
    rfl
  · have hf : v.pre.data.toList.isEmpty = false := by simpa using he
    have hl : (canV v).data.toList = 118 :: (numsL v ++ 45 :: v.pre.data.toList) := by rw [can_list, if_neg he]
    have n43' : (43 : UInt8) ∉ numsL v ++ 45 :: v.pre.data.toList := not_app n43 (not_cons (by decide) h.plus)
    have hc : cutsOf (canV v) = ⟨true, strOf (numsL v), v.pre, strOf [], true, false⟩ := by
      unfold cutsOf
      rw [hl]
      simp only [hv, cutR_no n43', cutR_app n45, strOf_list]
    have ho : okC (cutsOf (canV v)) = true := by
      rw [hc]
      unfold okC
      simp only [hp, h.pre hf]
      simp [h.major, h.minor, h.patch]
    unfold parseR
    rw [decide_eq_true hz, ho, hc]
    unfold verC bare
    simp only [hp]
    rfl
end Go.Proofs.YtmhjdahmmdfbcaaGreatDoor
namespace Go.Proofs.YtmhjdahmmdfbcaaGreatDoor
open Go.RowKit
end Go.Proofs.YtmhjdahmmdfbcaaGreatDoor
namespace Go.Proofs.YtmhjdahmmdfbcaaGreatDoor
open Go.RowKit

/-- bytes in a row -/
def bytesV (l : List UInt8) : List Value := l.map fun (c : UInt8) => .int .u8 (c.toNat : Int)
theorem bytesV_at (l : List UInt8) (j : Nat) (h : j < l.length) : (bytesV l)[j]? = some (.int .u8 (l[j].toNat : Int)) := by unfold bytesV; simp [h]
set_option maxRecDepth 100000 in
theorem byte_lt (c : UInt8) : c.toNat < 256 := UInt8.toNat_lt c

set_option maxRecDepth 100000 in
theorem Tryz.info5 : (Tryz.prog.info? 5).map (fun i => (i.zero, i.size, i.bytes)) = some (some (.int .u8 0), 1, 1) := by kernel_rfl

set_option maxRecDepth 100000 in
theorem bytesV_app (l m : List UInt8) : bytesV (l ++ m) = bytesV l ++ bytesV m := by simp [bytesV]

/-- The value v owns just the bytes l, in memory from 'base' on. -/
def OwnB (w : World) (base : Nat) (v : Value) (l : List UInt8) : Prop := w.ownsRow base 5 1 v l.length (bytesV l)

set_option maxRecDepth 100000 in
theorem conv_own {w : World} {base : Nat} {v : Value} {l : List UInt8} (h : OwnB w base v l) :
    (convert 71 9 v).run Tryz.prog w = .ok (.string ⟨l.toArray⟩) w := by
  rcases h.2 with ⟨rfl, hn⟩ | ⟨g, cap, cur, rfl, hb, hg, hnc, hcm, hcs, htake⟩
  · have : l = [] := List.eq_nil_of_length_eq_zero hn
    subst this
    rw [run_convert_bytes_string w 71 9 5 none 0 0 Tryz.underlying71 Tryz.underlying5 Tryz.underlying9]
    rfl
  · refine run_convert_bytes_back w 71 9 5 _ cap l Tryz.underlying71 Tryz.underlying5 Tryz.underlying9 ?_
    intro j hj
    have := World.ownsRow.cells (g := g) h rfl j _ (bytesV_at l j hj)
    exact this

set_option maxRecDepth 100000 in
theorem cell_new_one (w : World) (v : Value) : ∀ j u, [v][j]? = some u → (w.alloc (.cells #[v] 5)).cell? ((⟨w.heap.size, 0, none⟩ : Addr).add j) = some u := by
  intro j u hj
  match j, hj with
  | 0, hj => simp at hj; subst hj; simp [Addr.add]

set_option maxRecDepth 100000 in
/-- What one append of a byte leaves. -/
theorem own_push {w1 : World} {B : Nat} {v' : Value} {P : List UInt8} {c : UInt8} (h : w1.ownsRow B 5 1 v' (P.length + 1) (bytesV P ++ [.int .u8 (c.toNat : Int)])) : OwnB w1 B v' (P ++ [c]) := by
  unfold OwnB
  rw [bytesV_app]
  simpa [bytesV] using h

set_option maxRecDepth 100000 in
theorem below_push {w wr w1 : World} {B : Nat} {v : Value} {P : List UInt8} {o : Obj} (hown : OwnB wr B v P) (hb : Below B w wr) (hB : B ≤ wr.heap.size) (hg : (wr.alloc o).grownBy w1 v.ownBlock) : Below B w w1 :=
  (hb.alloc hB o).grown hg (by simp; omega) (fun k hk => (World.ownsRow.lt hown k hk).1)

def isHex (c : UInt8) : Bool := (decide (48 ≤ c.toNat) && decide (c.toNat ≤ 57)) || (decide (97 ≤ c.toNat) && decide (c.toNat ≤ 102))

def hexV (c : UInt8) : Nat := if 48 ≤ c.toNat ∧ c.toNat ≤ 57 then c.toNat - 48 else if 97 ≤ c.toNat ∧ c.toNat ≤ 102 then c.toNat - 87 else 0

set_option maxRecDepth 100000 in
theorem hexV_lt (c : UInt8) : hexV c < 16 := by
  unfold hexV
  split
  · omega
  · split <;> omega

def hexed (l : List UInt8) : Bool := l.all isHex && decide (l.length % 2 = 0)

def pairV (l : List UInt8) (k : Nat) : UInt8 := UInt8.ofNat (hexV (l.getD (2 * k) 0) * 16 + hexV (l.getD (2 * k + 1) 0))

def unhexN (l : List UInt8) (n : Nat) : List UInt8 := (List.range n).map (pairV l)

def unhexL (l : List UInt8) : List UInt8 := unhexN l (l.length / 2)

set_option maxRecDepth 100000 in
theorem unhexN_succ (l : List UInt8) (n : Nat) : unhexN l (n + 1) = unhexN l n ++ [pairV l n] := by simp [unhexN, List.range_succ]

set_option maxRecDepth 100000 in
theorem unhexN_len (l : List UInt8) (n : Nat) : (unhexN l n).length = n := by simp [unhexN]

/-- All places below n hold digits. -/
def DigTo (l : List UInt8) (n : Nat) : Prop := ∀ i, i < n → isHex (l.getD i 0) = true

set_option maxRecDepth 100000 in
theorem digTo_all (l : List UInt8) (h : DigTo l l.length) : l.all isHex = true := by
  rw [List.all_eq_true]
  intro c hc
  obtain ⟨i, hi, rfl⟩ := List.getElem_of_mem hc
  have := h i hi
  rwa [List.getD_eq_getElem?_getD, List.getElem?_eq_getElem hi] at this

set_option maxRecDepth 100000 in
theorem all_digTo (l : List UInt8) (h : l.all isHex = true) : DigTo l l.length := by
  intro i hi
  rw [List.getD_eq_getElem?_getD, List.getElem?_eq_getElem hi]
  exact List.all_eq_true.1 h _ (List.getElem_mem hi)

set_option maxRecDepth 100000 in
theorem getD_at (s : ByteArray) (k : Nat) (h : k < s.size) : s.data.toList.getD k 0 = s[k] := by
  rw [List.getD_eq_getElem?_getD, List.getElem?_eq_getElem (by simpa using h)]
  rfl

set_option maxRecDepth 100000 in
theorem len_size (s : ByteArray) : s.data.toList.length = s.size := by simp

set_option maxRecDepth 100000 in
theorem ret_pair {a b : Int} {k : IntKind} {p q : Bool} (h : a = b) (g : p = q) : Ending.returned (.tuple #[.int k a, .bool p]) = .returned (.tuple #[.int k b, .bool q]) := by rw [h, g]

set_option maxHeartbeats 400000 in
set_option maxRecDepth 100000 in
theorem hexValue_any (c : UInt8) (w : World) :
    Calls Tryz.prog 89 #[.int .u8 (c.toNat : Int)] w fun e w' => e = .returned (.tuple #[.int .u8 (hexV c : Nat), .bool (isHex c)]) ∧ w' = w := by
  have hc := byte_lt c
  by_cases h1 : 48 ≤ c.toNat ∧ c.toNat ≤ 57
  · have HV : Hid (hexV c = c.toNat - 48) := by unfold Hid hexV; rw [if_pos h1]
    have HD : Hid (isHex c = true) := by unfold Hid isHex; simp [h1]
    obtain ⟨a1, a2⟩ := h1
    generalize c.toNat = n at *
    go_enter Tryz.func89, Tryz.ntmps89
    go_wp2
    go_ret2
    exact ⟨ret_pair (by rw [HV.out]; omega) HD.out.symm, rfl⟩
  · by_cases h2 : 97 ≤ c.toNat ∧ c.toNat ≤ 102
    · have HV : Hid (hexV c = c.toNat - 87) := by unfold Hid hexV; rw [if_neg h1, if_pos h2]
      have HD : Hid (isHex c = true) := by unfold Hid isHex; simp [h2]
      obtain ⟨a1, a2⟩ := h2
      clear h1
      generalize c.toNat = n at *
      have g1 : ¬ n ≤ 57 := by omega
      go_enter Tryz.func89, Tryz.ntmps89
      go_wp2
      go_ret2
      exact ⟨ret_pair (by rw [HV.out]; omega) HD.out.symm, rfl⟩
    · have HV : Hid (hexV c = 0) := by unfold Hid hexV; rw [if_neg h1, if_neg h2]
      have HD : Hid (isHex c = false) := by unfold Hid isHex; simp; omega
      have hcases : c.toNat < 48 ∨ (57 < c.toNat ∧ c.toNat < 97) ∨ 102 < c.toNat := by omega
      clear h1 h2
      generalize c.toNat = n at *
      rcases hcases with g | ⟨g1, g2⟩ | g
      · have g3 : n < 97 := by omega
        go_enter Tryz.func89, Tryz.ntmps89
        go_wp2
        go_ret2
        exact ⟨ret_pair (by rw [HV.out]; rfl) HD.out.symm, rfl⟩
      · go_enter Tryz.func89, Tryz.ntmps89
        go_wp2
        go_ret2
        exact ⟨ret_pair (by rw [HV.out]; rfl) HD.out.symm, rfl⟩
      · go_enter Tryz.func89, Tryz.ntmps89
        go_wp2
        go_ret2
        exact ⟨ret_pair (by rw [HV.out]; rfl) HD.out.symm, rfl⟩

set_option maxRecDepth 100000 in
theorem hexed_yes (l : List UInt8) (hd : DigTo l l.length) : hexed l = decide (l.length % 2 = 0) := by
  unfold hexed; rw [digTo_all l hd]; rfl

set_option maxRecDepth 100000 in
theorem or4 (a b : Nat) (ha : a < 16) (hb : b < 16) : bits .or .u8 ((a : Int) * 16) (b : Int) = ((a * 16 + b : Nat) : Int) := by
  rw [show (a : Int) * 16 = ((a * 16 : Nat) : Int) by omega, u8_or_nat _ _ (by omega) (by omega), nat_join 4 _ _ (by omega) (by omega)]

set_option maxHeartbeats 1600000 in
set_option maxRecDepth 100000 in
theorem unhex_yes (s : ByteArray) (w : World) (hs : s.size ≤ 1048576) (hh : hexed s.data.toList = true) :
    Calls Tryz.prog 59 #[.string s] w fun e w' => e = .returned (.tuple #[.string ⟨(unhexL s.data.toList).toArray⟩, .bool true]) ∧ Below w.heap.size w w' := by
  obtain ⟨i0, hi, hz0, hz1, hz2⟩ := info_parts Tryz.info5
  unfold hexed at hh
  rw [Bool.and_eq_true] at hh
  have HD := hidM (all_digTo _ hh.1)
  have hev : s.size % 2 = 0 := by have := hh.2; rw [len_size] at this; exact of_decide_eq_true this
  clear hh
  obtain ⟨m, hm⟩ : ∃ m, s.size = 2 * m := ⟨s.size / 2, by omega⟩
  have HM := hidM hm
  have hm1 : s.size ≤ 2 * m := by omega
  have hm2 : 2 * m ≤ s.size := by omega
  have hz : ((s.size : Int) % 2 != 0) = false := by simp; omega
  clear hm hev
  go_enter Tryz.func59, Tryz.ntmps59
  go_wp2_with (at_make; refine wpList_make_own _ rfl _ _ 71 rfl w.heap.size 5 i0 (.int .u8 0) 1 Tryz.underlying71 hi hz0 hz1 .i64 .i64 _ m rfl rfl ?c0 ?c1 ?c2 ?c3 ?_)
  case c0 => omega
  case c1 => rw [hz2]; omega
  case c2 => unfold maxLen; omega
  case c3 => exact Nat.le_refl _
  intro w1 hown hgrow
  have hbel : Below w.heap.size w w1 := (Below.refl _ _).grown hgrow (Nat.le_refl _) (by intro k hk; cases hk)
  have hown2 : OwnB w1 w.heap.size (.slice (some ⟨w.heap.size, 0, none⟩) 0 m) [] := hown
  clear hown hgrow
  go_wp2
  go_loopw [4, 5, 6, 7, 8, 9] (fun v i _ _ _ _ wr => ∃ (k : Nat) (P : List UInt8), k ≤ m ∧ i = .int .i64 ((2 * k : Nat) : Int) ∧ P = unhexN s.data.toList k ∧ OwnB wr w.heap.size v P ∧ Below w.heap.size w wr) (fun _ i _ _ _ _ _ => s.size - (intOf i).toNat)
  case atStart => exact ⟨0, [], Nat.zero_le _, rfl, rfl, hown2, hbel⟩
  case round =>
    obtain ⟨k, P, hk, rfl, hP, hownr, hbr⟩ := hrel
    clear hown2 hbel
    have HP := hidM hP
    have hB := hbr.size
    by_cases hlt : k < m
    · have hl : P.length = k := by rw [hP, unhexN_len]
      have HL := hidM hl
      have k1 : 2 * k < s.size := by omega
      have k2 : 2 * k + 1 < s.size := by omega
      obtain ⟨c, hc⟩ : ∃ c, c = s[2 * k] := ⟨_, rfl⟩
      obtain ⟨d, hd⟩ : ∃ d, d = s[2 * k + 1] := ⟨_, rfl⟩
      have gc : s.data.toList.getD (2 * k) 0 = c := by rw [getD_at s _ k1, hc]
      have gd : s.data.toList.getD (2 * k + 1) 0 = d := by rw [getD_at s _ k2, hd]
      have dc : isHex c = true := by rw [← gc]; exact HD.out _ (by rw [len_size]; omega)
      have dd : isHex d = true := by rw [← gd]; exact HD.out _ (by rw [len_size]; omega)
      have HV : Hid (unhexN s.data.toList (k + 1) = P ++ [UInt8.ofNat (hexV c * 16 + hexV d)]) := by
        unfold Hid; rw [unhexN_succ, ← hP]; unfold pairV; rw [gc, gd]
      have rc : (s[2 * k].toNat : Int) = (c.toNat : Int) := by rw [hc]
      have rd : (s[2 * k + 1].toNat : Int) = (d.toNat : Int) := by rw [hd]
      clear hc hd gc gd hP hl
      have b1 := hexV_lt c
      have b2 := hexV_lt d
      go_wp2_with fail
      refine (hexValue_any c wr).mono ?_
      rintro e wr' ⟨rfl, rfl⟩
      go_wp2_with fail
      refine (hexValue_any d wr').mono ?_
      rintro e wr ⟨rfl, rfl⟩
      have HE : Hid (((hexV c * 16 + hexV d : Nat) : Int) = ((UInt8.ofNat (hexV c * 16 + hexV d)).toNat : Int)) := by unfold Hid; simp; omega
      have ho : bits .or .u8 ((hexV c : Int) * 16) (hexV d : Int) = ((hexV c * 16 + hexV d : Nat) : Int) := or4 _ _ b1 b2
      rw [HE.out] at ho
      generalize UInt8.ofNat (hexV c * 16 + hexV d) = x at *
      generalize hexV c = x1 at *
      generalize hexV d = x2 at *
      clear HE rc rd
      go_wp2_with (first
        | (at_builtin; refine wpList_append_own _ rfl _ _ 71 rfl w.heap.size 5 i0 (.int .u8 0) 1 1 Tryz.underlying71 hi hz0 hz1 hz2 rfl (by decide) _ _ _ rfl (hownr.alloc _) ⟨wr.heap.size, 0, none⟩ 1 1 [.int .u8 (x.toNat : Int)] ?d0 rfl ?d1 ?d2 ?d3 ?d4 ?d5 ?_))
      case d0 => rfl
      case d1 => exact cell_new_one wr _
      case d2 => intro u hu; simp at hu; subst hu; rfl
      case d3 => have := HL.out; unfold maxLen; omega
      case d4 => have := HL.out; omega
      case d5 => simp; omega
      intro v' w2 hown' hgrow _
      have HO := hidM (own_push hown')
      have HB := hidM (below_push hownr hbr hB hgrow)
      clear hown' hgrow hownr hbr hB ho dc dd
      go_wp2
      go_roundw
      case rel => exact ⟨k + 1, P ++ [x], by omega, by go_num, HV.out.symm, HO.out, HB.out⟩
      case measure => simp [intOf]; omega
    · have HF : Hid (unhexL s.data.toList = P) := by
        unfold Hid unhexL; rw [hP, len_size, show s.size / 2 = k by omega]
      have hge : ¬ 2 * (k : Int) < (s.size : Int) := by omega
      have hconv := conv_own hownr
      have HB := hidM hbr
      clear hownr hbr hB hP
      go_wp2
      go_ret2
      exact ⟨by rw [HF.out]; rfl, HB.out⟩

set_option maxHeartbeats 1600000 in
set_option maxRecDepth 100000 in
theorem unhex_no (s : ByteArray) (w : World) (hs : s.size ≤ 1048576) (hh : hexed s.data.toList = false) :
    Calls Tryz.prog 59 #[.string s] w fun e w' => e = .returned (.tuple #[.string ⟨#[]⟩, .bool false]) ∧ Below w.heap.size w w' := by
  obtain ⟨i0, hi, hz0, hz1, hz2⟩ := info_parts Tryz.info5
  by_cases hev : s.size % 2 = 0
  · have HN : Hid (DigTo s.data.toList s.size → False) := by
      intro h
      have h2 := hexed_yes s.data.toList (by rw [len_size]; exact h)
      rw [hh, len_size] at h2
      simp [hev] at h2
    clear hh
    obtain ⟨m, hm⟩ : ∃ m, s.size = 2 * m := ⟨s.size / 2, by omega⟩
    have HM := hidM hm
    have hm1 : s.size ≤ 2 * m := by omega
    have hm2 : 2 * m ≤ s.size := by omega
    have hz : ((s.size : Int) % 2 != 0) = false := by simp; omega
    clear hm hev
    go_enter Tryz.func59, Tryz.ntmps59
    go_wp2_with (at_make; refine wpList_make_own _ rfl _ _ 71 rfl w.heap.size 5 i0 (.int .u8 0) 1 Tryz.underlying71 hi hz0 hz1 .i64 .i64 _ m rfl rfl ?c0 ?c1 ?c2 ?c3 ?_)
    case c0 => omega
    case c1 => rw [hz2]; omega
    case c2 => unfold maxLen; omega
    case c3 => exact Nat.le_refl _
    intro w1 hown hgrow
    have hbel : Below w.heap.size w w1 := (Below.refl _ _).grown hgrow (Nat.le_refl _) (by intro k hk; cases hk)
    have hown2 : OwnB w1 w.heap.size (.slice (some ⟨w.heap.size, 0, none⟩) 0 m) [] := hown
    clear hown hgrow
    go_wp2
    go_loopw [4, 5, 6, 7, 8, 9] (fun v i _ _ _ _ wr => ∃ (k : Nat) (P : List UInt8), k ≤ m ∧ i = .int .i64 ((2 * k : Nat) : Int) ∧ P.length = k ∧ DigTo s.data.toList (2 * k) ∧ OwnB wr w.heap.size v P ∧ Below w.heap.size w wr) (fun _ i _ _ _ _ _ => s.size - (intOf i).toNat)
    case atStart => exact ⟨0, [], Nat.zero_le _, rfl, rfl, fun i hi => by omega, hown2, hbel⟩
    case round =>
      obtain ⟨k, P, hk, rfl, hl, hdt, hownr, hbr⟩ := hrel
      clear hown2 hbel
      have HL := hidM hl
      have HD := hidM hdt
      have hB := hbr.size
      clear hl hdt
      by_cases hlt : k < m
      · have k1 : 2 * k < s.size := by omega
        have k2 : 2 * k + 1 < s.size := by omega
        obtain ⟨c, hc⟩ : ∃ c, c = s[2 * k] := ⟨_, rfl⟩
        obtain ⟨d, hd⟩ : ∃ d, d = s[2 * k + 1] := ⟨_, rfl⟩
        have gc : s.data.toList.getD (2 * k) 0 = c := by rw [getD_at s _ k1, hc]
        have gd : s.data.toList.getD (2 * k + 1) 0 = d := by rw [getD_at s _ k2, hd]
        have HY : Hid (isHex c = true → isHex d = true → DigTo s.data.toList (2 * (k + 1))) := by
          intro h1 h2 i hi
          by_cases e : i < 2 * k
          · exact HD.out i e
          · rcases (by omega : i = 2 * k ∨ i = 2 * k + 1) with rfl | rfl
            · rw [gc]; exact h1
            · rw [gd]; exact h2
        have rc : (s[2 * k].toNat : Int) = (c.toNat : Int) := by rw [hc]
        have rd : (s[2 * k + 1].toNat : Int) = (d.toNat : Int) := by rw [hd]
        clear hc hd gc gd
        have b1 := hexV_lt c
        have b2 := hexV_lt d
        cases dc : isHex c
        · have HB := hidM hbr
          clear hownr hbr hB
          go_wp2_with fail
          refine (hexValue_any c wr).mono ?_
          rintro e wr' ⟨rfl, rfl⟩
          go_wp2_with fail
          refine (hexValue_any d wr').mono ?_
          rintro e wr ⟨rfl, rfl⟩
          clear rc rd
          go_wp2
          go_ret2
          exact ⟨rfl, HB.out⟩
        · cases dd : isHex d
          · have HB := hidM hbr
            clear hownr hbr hB
            go_wp2_with fail
            refine (hexValue_any c wr).mono ?_
            rintro e wr' ⟨rfl, rfl⟩
            go_wp2_with fail
            refine (hexValue_any d wr').mono ?_
            rintro e wr ⟨rfl, rfl⟩
            clear rc rd
            go_wp2
            go_ret2
            exact ⟨rfl, HB.out⟩
          · have HY2 : Hid (DigTo s.data.toList (2 * (k + 1))) := HY.out dc dd
            go_wp2_with fail
            refine (hexValue_any c wr).mono ?_
            rintro e wr' ⟨rfl, rfl⟩
            go_wp2_with fail
            refine (hexValue_any d wr').mono ?_
            rintro e wr ⟨rfl, rfl⟩
            have HE : Hid (((hexV c * 16 + hexV d : Nat) : Int) = ((UInt8.ofNat (hexV c * 16 + hexV d)).toNat : Int)) := by unfold Hid; simp; omega
            have ho : bits .or .u8 ((hexV c : Int) * 16) (hexV d : Int) = ((hexV c * 16 + hexV d : Nat) : Int) := or4 _ _ b1 b2
            rw [HE.out] at ho
            generalize UInt8.ofNat (hexV c * 16 + hexV d) = x at *
            generalize hexV c = x1 at *
            generalize hexV d = x2 at *
            clear HE rc rd
            go_wp2_with (first
              | (at_builtin; refine wpList_append_own _ rfl _ _ 71 rfl w.heap.size 5 i0 (.int .u8 0) 1 1 Tryz.underlying71 hi hz0 hz1 hz2 rfl (by decide) _ _ _ rfl (hownr.alloc _) ⟨wr.heap.size, 0, none⟩ 1 1 [.int .u8 (x.toNat : Int)] ?d0 rfl ?d1 ?d2 ?d3 ?d4 ?d5 ?_))
            case d0 => rfl
            case d1 => exact cell_new_one wr _
            case d2 => intro u hu; simp at hu; subst hu; rfl
            case d3 => have := HL.out; unfold maxLen; omega
            case d4 => have := HL.out; omega
            case d5 => simp; omega
            intro v' w2 hown' hgrow _
            have HO := hidM (own_push hown')
            have HB := hidM (below_push hownr hbr hB hgrow)
            have HL2 : Hid ((P ++ [x]).length = k + 1) := by unfold Hid; rw [List.length_append, HL.out]; rfl
            clear hown' hgrow hownr hbr hB ho dc dd
            go_wp2
            go_roundw
            case rel => exact ⟨k + 1, P ++ [x], by omega, by go_num, HL2.out, HY2.out, HO.out, HB.out⟩
            case measure => simp [intOf]; omega
      · exact absurd (fun i hi => HD.out i (by omega)) HN.out
  · have hz : ((s.size : Int) % 2 != 0) = true := by simp; omega
    clear hh
    go_enter Tryz.func59, Tryz.ntmps59
    go_wp2
    go_ret2
    exact ⟨rfl, Below.refl _ _⟩


end Go.Proofs.YtmhjdahmmdfbcaaGreatDoor
namespace Go.Proofs
open Go.Shelf
def Tryz.lays104_ren : Go.Shelf.Ren := ⟨fun | 104 => 67 | 211 => 98 | 207 => 106 | n => n, fun | 9 => 9 | 4 => 4 | 24 => 63 | 3 => 3 | n => n, fun | n => n⟩
theorem Tryz.lays104 : Go.Proofs.Lays.n104 Tryz.prog Tryz.lays104_ren := {
  mixed := by kernel_rfl
  f104 := Tryz.func67.trans (congrArg some (by kernel_rfl))
  f207 := Tryz.func106.trans (congrArg some (by kernel_rfl))
  f211 := Tryz.func98.trans (congrArg some (by kernel_rfl))
  t3 := Tryz.underlying3
  a3 := Tryz.isAgg3
  z3 := Tryz.sizeOf3
  v3 := Tryz.zeroValue3
  t4 := Tryz.underlying4
  a4 := Tryz.isAgg4
  z4 := Tryz.sizeOf4
  v4 := Tryz.zeroValue4
  t9 := Tryz.underlying9
  a9 := Tryz.isAgg9
  z9 := Tryz.sizeOf9
  v9 := Tryz.zeroValue9
  t24 := Tryz.underlying63
  a24 := Tryz.isAgg63
  z24 := Tryz.sizeOf63
  v24 := Tryz.zeroValue63 }
open Go.RowKit in
/-- strings.CutSuffix: "CutSuffix returns s without the provided ending suffix string and reports whether it found the suffix. If s doesn't end with suffix, CutSuffix returns s, false. If suffix is the empty string, CutSuffix returns s, true.": IT RETURNS '(Lib.trimSuffix s p, Lib.hasSuffix s p)'; the world is as it was. (LAID: no walk: one application.) -/
theorem Tryz.strings_CutSuffix (s p : ByteArray) (w : World) (hs : s.size ≤ 9223372036854775807) :
    Calls Tryz.prog 67 #[.string s, .string p] w fun e w' => e = .returned (.tuple #[.string ⟨(Lib.trimSuffix s.data.toList p.data.toList).toArray⟩, .bool (Lib.hasSuffix s.data.toList p.data.toList)]) ∧ w' = w := Any.strings_CutSuffix Tryz.lays104 s p w hs
def Tryz.laysM316_ren : Go.Shelf.Ren := ⟨fun | 316 => 130 | n => n, fun | 9 => 9 | 3 => 3 | 4 => 4 | 37 => 71 | 0 => 0 | 127 => 144 | 5 => 5 | n => n, fun | n => n⟩
theorem Tryz.laysM316 : Go.Proofs.LaysM.n316 Tryz.prog Tryz.laysM316_ren := {
  mixed := by kernel_rfl
  f316 := Tryz.func130.trans (congrArg some (by kernel_rfl))
  t0 := Tryz.underlying0
  a0 := Tryz.isAgg0
  z0 := Tryz.sizeOf0
  v0 := Tryz.zeroValue0
  t3 := Tryz.underlying3
  a3 := Tryz.isAgg3
  z3 := Tryz.sizeOf3
  v3 := Tryz.zeroValue3
  t4 := Tryz.underlying4
  a4 := Tryz.isAgg4
  z4 := Tryz.sizeOf4
  v4 := Tryz.zeroValue4
  t9 := Tryz.underlying9
  a9 := Tryz.isAgg9
  z9 := Tryz.sizeOf9
  v9 := Tryz.zeroValue9
  t37 := Tryz.underlying71
  a37 := Tryz.isAgg71
  z37 := Tryz.sizeOf71
  v37 := Tryz.zeroValue71
  t127 := Tryz.underlying144
  a127 := Tryz.isAgg144
  z127 := Tryz.sizeOf144
  v127 := Tryz.zeroValue144
  t5 := Tryz.underlying5
  a5 := Tryz.isAgg5
  z5 := Tryz.sizeOf5
  v5 := Tryz.zeroValue5
  i0 := by kernel_rfl
  i3 := by kernel_rfl
  i4 := by kernel_rfl
  i5 := by kernel_rfl
  i9 := by kernel_rfl
  i37 := by kernel_rfl
  i127 := by kernel_rfl }
open Go.RowKit in
/-- internal/stringslite.Clone (what strings.Clone calls): "Clone returns a fresh copy of s.": THE SAME BYTES. Of what was there nothing has turned (a new row is laid, and frozen, where s is not empty). (LAID: no walk: one application.) -/
theorem Tryz.stringslite_Clone (s : ByteArray) (w : World) (hlim : s.size ≤ 281474976710656) :
    Calls Tryz.prog 130 #[.string s] w fun e w' => e = .returned (.string s) ∧ Below w.heap.size w w' := Any.stringslite_Clone Tryz.laysM316 s w hlim
def Tryz.lays148_ren : Go.Shelf.Ren := ⟨fun | 148 => 64 | 222 => 93 | 223 => 94 | 269 => 117 | n => n, fun | 9 => 9 | 3 => 3 | 4 => 4 | 5 => 5 | 146 => 125 | 51 => 124 | 46 => 116 | n => n, fun | n => n⟩
theorem Tryz.lays148 : Go.Proofs.Lays.n148 Tryz.prog Tryz.lays148_ren := {
  mixed := by kernel_rfl
  f148 := Tryz.func64.trans (congrArg some (by kernel_rfl))
  f222 := Tryz.func93.trans (congrArg some (by kernel_rfl))
  f223 := Tryz.func94.trans (congrArg some (by kernel_rfl))
  f269 := Tryz.func117.trans (congrArg some (by kernel_rfl))
  t3 := Tryz.underlying3
  a3 := Tryz.isAgg3
  z3 := Tryz.sizeOf3
  v3 := Tryz.zeroValue3
  t4 := Tryz.underlying4
  a4 := Tryz.isAgg4
  z4 := Tryz.sizeOf4
  v4 := Tryz.zeroValue4
  t5 := Tryz.underlying5
  a5 := Tryz.isAgg5
  z5 := Tryz.sizeOf5
  v5 := Tryz.zeroValue5
  t9 := Tryz.underlying9
  a9 := Tryz.isAgg9
  z9 := Tryz.sizeOf9
  v9 := Tryz.zeroValue9
  t46 := Tryz.underlying116
  a46 := Tryz.isAgg116
  z46 := Tryz.sizeOf116
  v46 := Tryz.zeroValue116
  t51 := Tryz.underlying124
  a51 := Tryz.isAgg124
  z51 := Tryz.sizeOf124
  v51 := Tryz.zeroValue124
  t146 := Tryz.underlying125
  a146 := Tryz.isAgg125
  z146 := Tryz.sizeOf125
  v146 := Tryz.zeroValue125 }
open Go.RowKit Go.Lib in
/-- strings.LastIndex AT A substr OF ONE BYTE (as in 'strings.LastIndex(path, "/")'): the last place of that byte, or -1. (LAID: no walk: one application.) -/
theorem Tryz.strings_LastIndex_one (s sub : ByteArray) (h1 : sub.size = 1) (hs : s.size < 4611686018427387904) (w : World) :
    Calls Tryz.prog 64 #[.string s, .string sub] w fun e w' => e = .returned (.int .i64 (Lib.lastIndexByte s ((sub[0]'(by omega)).toNat : Int))) ∧ w' = w := Any.strings_LastIndex_one Tryz.lays148 s sub h1 hs w
end Go.Proofs
