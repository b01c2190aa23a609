/-
  Walks of semver's order: slices.CompareFunc over words, byPre.
-/
import Derived.Test.YtmhjdahmmdfbcaaGreatDoorSemD
namespace Go.Proofs.YtmhjdahmmdfbcaaGreatDoor
open Go.RowKit
def lexC : List ByteArray → List ByteArray → Int
  | [], [] => 0
  | [], _ :: _ => -1
  | _ :: _, [] => 1
  | a :: l, b :: m => if wordCmp a b = 0 then lexC l m else wordCmp a b
theorem lex_drop : ∀ (k : Nat) (l m : List ByteArray), k ≤ l.length → k ≤ m.length → (∀ j (h1 : j < l.length) (h2 : j < m.length), j < k → wordCmp l[j] m[j] = 0) → lexC l m = lexC (l.drop k) (m.drop k)
  | 0, _, _, _, _, _ => rfl
  | k + 1, [], _, hl, _, _ => absurd hl (by simp)
  | k + 1, _ :: _, [], _, hm, _ => absurd hm (by simp)
  | k + 1, a :: l, b :: m, hl, hm, hz => by
    have h0 : wordCmp a b = 0 := hz 0 (by simp) (by simp) (by omega)
    show (if wordCmp a b = 0 then lexC l m else wordCmp a b) = lexC (l.drop k) (m.drop k)
    rw [if_pos h0]
    exact lex_drop k l m (by simpa using hl) (by simpa using hm) fun j h1 h2 hj => hz (j + 1) (by simp; omega) (by simp; omega) (by omega)
set_option maxHeartbeats 2000000 in
set_option maxRecDepth 100000 in
theorem lex_any (g1 g2 : Nat) (l m : List ByteArray) (w : World) (hl : l.length ≤ 201) (hls : ∀ x ∈ l, x.size ≤ 200) (hms : ∀ x ∈ m, x.size ≤ 200)
    (hr1 : w.heap[g1]? = some (.cells (l.map Value.string).toArray 9)) (hr2 : w.heap[g2]? = some (.cells (m.map Value.string).toArray 9)) :
    Calls Tryz.prog 71 #[.slice (some ⟨g1, 0, none⟩) l.length l.length, .slice (some ⟨g2, 0, none⟩) m.length m.length, .func (.func 72) #[] #[]] w fun e w' => e = .returned (.int .i64 (lexC l m)) ∧ Below w.heap.size w w' := by
  have HC1 : Hid (∀ V, Below w.heap.size w V → ∀ k, (h : k < l.length) → V.cell? ⟨g1, k, none⟩ = some (.string l[k])) := fun V hV k h => by
    rw [cell_of_row _ _ _ _ 9 (0, 0) (box_kept hr1 hV)]
    simp [h]
  have HC2 : Hid (∀ V, Below w.heap.size w V → ∀ k, (h : k < m.length) → V.cell? ⟨g2, k, none⟩ = some (.string m[k])) := fun V hV k h => by
    rw [cell_of_row _ _ _ _ 9 (0, 0) (box_kept hr2 hV)]
    simp [h]
  have HBW : Hid (∀ V j k, (h1 : j < l.length) → (h2 : k < m.length) → Calls Tryz.prog 72 #[.string l[j], .string m[k]] V fun e w' => e = .returned (.int .i64 (wordCmp l[j] m[k])) ∧ Below V.heap.size V w') := fun V j k h1 h2 =>
    byWord_any _ _ V (by have := hls _ (List.getElem_mem h1); omega) (by have := hms _ (List.getElem_mem h2); omega)
  clear hr1 hr2 hls hms
  go_enter Tryz.func71, Tryz.ntmps71
  go_wp2
  go_loopw [7, 8, 9, 10, 13] (fun _ _ _ _ iv wr => ∃ k : Nat, k ≤ l.length ∧ k ≤ m.length ∧ iv = .int .i64 (k : Int) ∧ (∀ j (h1 : j < l.length) (h2 : j < m.length), j < k → wordCmp l[j] m[j] = 0) ∧ Below w.heap.size w wr) (fun _ _ _ _ i _ => l.length - (intOf i).toNat)
  case atStart => exact ⟨0, Nat.zero_le _, Nat.zero_le _, rfl, fun j _ _ hj => by omega, Below.refl _ _⟩
  case round =>
    obtain ⟨k, hk, hk2, rfl, hno, hbe⟩ := hrel
    have HNO := hidM hno
    have HBE := hidM hbe
    have HLD := hidM (lex_drop k l m hk hk2 hno)
    clear hno hbe
    by_cases hlt : k < l.length
    · have gk : (k : Int) < (l.length : Int) := by omega
      have ck := HC1.out wr HBE.out k hlt
      by_cases hlt2 : k < m.length
      · have gk2 : ¬ (m.length : Int) ≤ (k : Int) := by omega
        have gk3 : decide ((m.length : Int) ≤ (k : Int)) = false := by simp; omega
        have ck2 := HC2.out wr HBE.out k hlt2
        have HW := hidM (HBW.out wr k k hlt hlt2)
        have HHI : Hid (wordCmp l[k] m[k] ≠ 0 → lexC l m = wordCmp l[k] m[k]) := fun hn => by
          rw [HLD.out, List.drop_eq_getElem_cons hlt, List.drop_eq_getElem_cons hlt2]
          show (if _ then _ else _) = _
          rw [if_neg hn]
        have HNX : Hid (wordCmp l[k] m[k] = 0 → ∀ j (h1 : j < l.length) (h2 : j < m.length), j < k + 1 → wordCmp l[j] m[j] = 0) := fun h0 j h1 h2 hj => by
          rcases Nat.lt_or_ge j k with h | h
          · exact HNO.out j h1 h2 h
          · obtain rfl : j = k := by omega
            exact h0
        generalize wordCmp l[k] m[k] = c at *
        generalize l[k] = x at *
        generalize m[k] = y at *
        by_cases h0 : c = 0
        · have HN2 := hidM (HNX.out h0)
          subst h0
          go_wp2_with fail
          refine HW.out.mono ?_
          rintro _ w1 ⟨rfl, hb1⟩
          have HB1 := hidM (HBE.out.trans (hb1.mono HBE.out.size))
          clear hb1
          go_wp2
          go_roundw
          case rel => exact ⟨k + 1, by omega, by omega, by go_num, HN2.out, HB1.out⟩
          case measure => simp [intOf]; omega
        · have HRE := hidM (HHI.out h0)
          have b0 : (c == 0) = false := by simpa using h0
          have b1 : (c != 0) = true := by simpa using h0
          clear h0
          go_wp2_with fail
          refine HW.out.mono ?_
          rintro _ w1 ⟨rfl, hb1⟩
          have HB1 := hidM (HBE.out.trans (hb1.mono HBE.out.size))
          clear hb1
          go_wp2
          go_ret
          exact ⟨by rw [HRE.out]; rfl, HB1.out⟩
      · have gk2 : (m.length : Int) ≤ (k : Int) := by omega
        have gk3 : decide ((m.length : Int) ≤ (k : Int)) = true := by simp; omega
        have HRE : Hid (lexC l m = 1) := by
          unfold Hid
          rw [HLD.out, List.drop_eq_getElem_cons hlt, List.drop_of_length_le (show m.length ≤ k by omega)]
          rfl
        generalize l[k] = x at *
        go_wp2
        go_ret
        exact ⟨by rw [HRE.out]; rfl, HBE.out⟩
    · have gk : ¬ (k : Int) < (l.length : Int) := by omega
      have hkl : k = l.length := by omega
      by_cases h2 : l.length < m.length
      · have b2 : decide ((l.length : Int) < (m.length : Int)) = true := by simp; omega
        have HRE : Hid (lexC l m = -1) := by
          unfold Hid
          rw [HLD.out, List.drop_of_length_le (show l.length ≤ k by omega), List.drop_eq_getElem_cons (show k < m.length by omega)]
          rfl
        clear hkl
        go_wp2
        go_ret
        exact ⟨by rw [HRE.out]; rfl, HBE.out⟩
      · have b2 : decide ((l.length : Int) < (m.length : Int)) = false := by simp; omega
        have HRE : Hid (lexC l m = 0) := by
          unfold Hid
          rw [HLD.out, List.drop_of_length_le (show l.length ≤ k by omega), List.drop_of_length_le (show m.length ≤ k by omega)]
          rfl
        clear hkl
        go_wp2
        go_ret
        exact ⟨by rw [HRE.out]; rfl, HBE.out⟩
noncomputable def preC (a b : ByteArray) : Int := open Classical in if a = b then 0 else if a.data.toList.isEmpty then 1 else if b.data.toList.isEmpty then -1 else lexC (partsB a) (partsB b)
theorem parts_len (s : ByteArray) : (partsB s).length ≤ s.size + 1 := by
  have hcl := Lib.countB_le stopB (by decide) s.size s (Nat.le_refl _)
  have hlen : (partsB s).length = Lib.countB s stopB + 1 := Lib.splitB_all stopB (by decide) 0 _ s rfl
  omega
set_option maxHeartbeats 2000000 in
set_option maxRecDepth 100000 in
theorem byPre_any (a b : ByteArray) (w : World) (ha : a.size ≤ 200) (hb : b.size ≤ 200) : Calls Tryz.prog 43 #[.string a, .string b] w fun e w' => e = .returned (.int .i64 (preC a b)) ∧ Below w.heap.size w w' := by
  have ea := empty_beq a
  have eb := empty_beq b
  have hab : (a.toList == b.toList) = decide (a.data.toList = b.data.toList) := by rw [Lib.toList_data, Lib.toList_data, Bool.eq_iff_iff]; simp
  by_cases h1 : a = b
  · have HR : Hid (preC a b = 0) := by unfold Hid preC; rw [if_pos h1]
    have b1 : (a.toList == b.toList) = true := by rw [h1]; simp
    go_enter Tryz.func43, Tryz.ntmps43
    go_wp2
    go_ret
    exact ⟨by rw [HR.out]; rfl, Below.refl _ _⟩
  · have hl : ¬ a.data.toList = b.data.toList := fun h => h1 (bytes_ext h)
    have b1 : (a.toList == b.toList) = false := by rw [hab]; exact decide_eq_false hl
    have HN : Hid (preC a b = if a.data.toList.isEmpty then 1 else if b.data.toList.isEmpty then -1 else lexC (partsB a) (partsB b)) := by unfold Hid preC; rw [if_neg h1]
    clear hab hl h1
    cases h2 : a.data.toList.isEmpty with
    | true =>
      rw [h2] at ea HN
      have HR : Hid (preC a b = 1) := HN.out
      clear h2
      go_enter Tryz.func43, Tryz.ntmps43
      go_wp2
      go_ret
      exact ⟨by rw [HR.out]; rfl, Below.refl _ _⟩
    | false =>
      rw [h2] at ea HN
      clear h2
      cases h3 : b.data.toList.isEmpty with
      | true =>
        rw [h3] at eb HN
        have HR : Hid (preC a b = -1) := HN.out
        clear h3
        go_enter Tryz.func43, Tryz.ntmps43
        go_wp2
        go_ret
        exact ⟨by rw [HR.out]; rfl, Below.refl _ _⟩
      | false =>
        rw [h3] at eb HN
        have HR : Hid (preC a b = lexC (partsB a) (partsB b)) := HN.out
        have HS1 := hidM (split_any a w ha)
        have HS2 := hidM (fun V => split_any b V hb)
        have HLX := hidM (fun g1 g2 V => lex_any g1 g2 (partsB a) (partsB b) V (by have := parts_len a; omega) (fun x hx => by have := parts_size hx; omega) (fun x hx => by have := parts_size hx; omega))
        clear h3
        generalize partsB a = l at *
        generalize partsB b = m at *
        unfold stopB at HS1 HS2
        have HB1 : Hid (Below w.heap.size w (w.alloc (.cells (l.map Value.string).toArray 9))) := (Below.refl _ _).alloc (Nat.le_refl _) _
        have HX1 := hidM (_root_.Go.heap_alloc_new w (.cells (l.map Value.string).toArray 9))
        go_enter Tryz.func43, Tryz.ntmps43
        go_wp2_with fail
        refine HS1.out.mono ?_
        rintro _ _ ⟨rfl, rfl⟩
        generalize (w.alloc (.cells (l.map Value.string).toArray 9)) = W1 at *
        go_wp2_with fail
        refine (HS2.out W1).mono ?_
        rintro _ _ ⟨rfl, rfl⟩
        have HB2 : Hid (Below W1.heap.size W1 (W1.alloc (.cells (m.map Value.string).toArray 9))) := (Below.refl _ _).alloc (Nat.le_refl _) _
        have HX2 := hidM (box_kept HX1.out HB2.out)
        have HY2 := hidM (_root_.Go.heap_alloc_new W1 (.cells (m.map Value.string).toArray 9))
        have HB3 := hidM (HB1.out.trans (HB2.out.mono HB1.out.size))
        generalize (W1.alloc (.cells (m.map Value.string).toArray 9)) = W2 at *
        go_wp2_with fail
        refine (HLX.out _ _ W2 HX2.out HY2.out).mono ?_
        rintro _ w5 ⟨rfl, hb5⟩
        have HB5 := hidM (HB3.out.trans (hb5.mono HB3.out.size))
        clear hb5
        go_wp2
        go_ret
        exact ⟨by rw [HR.out]; rfl, HB5.out⟩
end Go.Proofs.YtmhjdahmmdfbcaaGreatDoor
