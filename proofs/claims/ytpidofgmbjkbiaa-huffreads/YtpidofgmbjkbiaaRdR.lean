/-
  The document's Read by rows of bits: begins, Read; what it answers is what the program's Read answers.
-/
import Derived.Test.YtpidofgmbjkbiaaCds
import Derived.Test.YtpidofgmbjkbiaaHufS
namespace Go.Proofs.Ytpidofgmbjkbiaa
open Go.RowKit

/-- Does b begin with a? -/
def beg (b a : List Bool) : Bool := decide (a.length ≤ b.length) && decide (b.take a.length = a)
theorem beg_false_of {b a : List Bool} {i : Nat} (ha : i < a.length) (hb : i < b.length) (h : a[i] ≠ b[i]) : beg b a = false := by
  unfold beg
  by_cases hl : a.length ≤ b.length
  · have : b.take a.length ≠ a := fun he => by
      apply h
      have h1 : (b.take a.length)[i]? = a[i]? := by rw [he]
      rw [List.getElem?_take, if_pos ha, List.getElem?_eq_getElem hb, List.getElem?_eq_getElem ha] at h1
      simpa using h1.symm
    simp [this]
  · simp [hl]
theorem beg_true_of {b a : List Bool} (hl : a.length ≤ b.length) (h : ∀ i (h1 : i < a.length) (h2 : i < b.length), a[i] = b[i]) : beg b a = true := by
  unfold beg
  have : b.take a.length = a := by
    apply List.ext_getElem
    · rw [List.length_take]; omega
    · intro i h1 h2
      rw [List.getElem_take]
      exact (h i h2 (by omega)).symm
  simp [hl, this]

set_option maxHeartbeats 1000000 in
theorem begins_any (a1 a2 : Option Addr) (c1 c2 : Nat) (k1 k2 : Nat) (l1 l2 : List Bool) (w : World) (h1 : BAt w a1 l1) (h2 : BAt w a2 l2) (e1 : l1.length = k1) (e2 : l2.length = k2) (hk1 : k1 ≤ 1000000000) :
    Calls Try.prog 33 #[.slice a1 k1 c1, .slice a2 k2 c2] w fun e w' => e = .returned (.bool (beg l1 l2)) ∧ ∃ n, w' = w.drewN n := by
  have H1 := hidM h1
  have H2 := hidM h2
  have E1 := hidM e1
  have E2 := hidM e2
  clear h1 h2 e1 e2
  by_cases hgt : k1 < k2
  · have HV : Hid (beg l1 l2 = false) := by unfold Hid beg; rw [E1.out, E2.out]; simp; omega
    rw [HV.out]
    go_enter Try.func33, Try.ntmps33
    go_wp2
    go_ret
    exact ⟨rfl, 0, rfl⟩
  · generalize hV : beg l1 l2 = V
    have HV := hidM hV
    clear hV
    go_enter Try.func33, Try.ntmps33
    go_wp2
    go_loopw [5, 13] (fun _ i wr => ∃ k n : Nat, k ≤ k2 ∧ i = .int .i64 k ∧ (∀ j (h1 : j < l2.length) (h2 : j < l1.length), j < k → l2[j] = l1[j]) ∧ wr = w.drewN n) (fun _ i _ => k2 - (intOf i).toNat)
    case atStart => exact ⟨0, 0, Nat.zero_le _, rfl, fun j _ _ hj => by omega, rfl⟩
    case round =>
      obtain ⟨k, n, hk, rfl, hall, rfl⟩ := hrel
      have HA := hidM hall
      clear hall
      by_cases hlt : k < k2
      · have q2 : k < l2.length := by rw [E2.out]; exact hlt
        have q1 : k < l1.length := by rw [E1.out]; omega
        obtain ⟨b1, o1, rfl, x1⟩ := H1.out.get k q1
        obtain ⟨b2, o2, rfl, x2⟩ := H2.out.get k q2
        have HN : Hid (∀ j (h1 : j < l2.length) (h2 : j < l1.length), l2[k] = l1[k] → j < k + 1 → l2[j] = l1[j]) := fun j h1 h2 he hj => by
          by_cases hjk : j = k
          · subst hjk; exact he
          · exact HA.out j h1 h2 (by omega)
        have HF : Hid (l2[k] ≠ l1[k] → beg l1 l2 = false) := fun h => beg_false_of q2 q1 h
        have b3 : (k : Int) < (k1 : Int) := by omega
        have b4 : (k : Int) < (k2 : Int) := by omega
        generalize l1[k] = u1 at *
        generalize l2[k] = u2 at *
        clear q1 q2
        by_cases hu : u2 = u1
        · subst hu
          cases u2
          · go_wp2
            go_quiet (fail)
            go_wp2
            go_roundw
            case rel => exact ⟨k + 1, _, by omega, by go_num, fun j h1 h2 hj => HN.out j h1 h2 trivial hj, rfl⟩
            case measure => simp [intOf]; omega
          · go_wp2
            go_quiet (fail)
            go_wp2
            go_roundw
            case rel => exact ⟨k + 1, _, by omega, by go_num, fun j h1 h2 hj => HN.out j h1 h2 trivial hj, rfl⟩
            case measure => simp [intOf]; omega
        · have HVF : Hid (V = false) := by unfold Hid; rw [← HV.out, HF.out hu]
          clear HN HF
          cases u1
          · cases u2
            · exact absurd rfl hu
            · go_wp2
              go_quiet (fail)
              go_wp2
              go_ret
              exact ⟨by rw [HVF.out]; rfl, _, World.drewN_drewN ..⟩
          · cases u2
            · go_wp2
              go_quiet (fail)
              go_wp2
              go_ret
              exact ⟨by rw [HVF.out]; rfl, _, World.drewN_drewN ..⟩
            · exact absurd rfl hu
      · have HVT : Hid (V = true) := by
          unfold Hid
          rw [← HV.out]
          exact beg_true_of (by rw [E1.out, E2.out]; omega) fun i h1 h2 => HA.out i h1 h2 (by have := E2.out; omega)
        go_wp2
        go_ret
        exact ⟨by rw [HVT.out]; rfl, n, rfl⟩

/-- What the document's Read answers, of rows cs and the bits b. -/
def RefRead (cs : Nat → List Bool) (L : Nat) (b : List Bool) (e : Ending) : Prop :=
  (∃ s n : Nat, s < L ∧ n = (cs s).length ∧ 0 < n ∧ beg b (cs s) = true ∧ e = .returned (.tuple #[.int .i64 (s : Int), .int .i64 (n : Int), .int .i64 0])) ∨
  ((∀ j, j < L → 0 < (cs j).length → beg b (cs j) = false) ∧
    (((∃ s, s < L ∧ b.length < (cs s).length ∧ beg (cs s) b = true) ∧ e = .returned (.tuple #[.int .i64 0, .int .i64 0, .int .i64 6])) ∨
     ((∀ s, s < L → b.length < (cs s).length → beg (cs s) b = false) ∧ e = .returned (.tuple #[.int .i64 0, .int .i64 0, .int .i64 3]))))
def csOf (ln : Nat → Nat) (L : Nat) : Nat → List Bool := fun s => hib (codeC ln L s) (ln s)
theorem csOf_len (ln : Nat → Nat) (L s : Nat) : (csOf ln L s).length = ln s := hib_len _ _
theorem BAt.drewN {w : World} {a : Option Addr} {l : List Bool} (h : BAt w a l) (n : Nat) : BAt (w.drewN n) a l := h

set_option maxHeartbeats 2000000 in
theorem rread_any (B : Nat) (a a2 : Option Addr) (L c c2 k2 : Nat) (ln : Nat → Nat) (b : List Bool) (w : World) (hC : CodesAt w B a ln L) (hb : BAt w a2 b) (e2 : b.length = k2) (hL : L ≤ 320) (h15 : ∀ i, ln i ≤ 15) (hk2 : k2 ≤ 1000000000) :
    Calls Try.prog 21 #[.slice a L c, .slice a2 k2 c2] w fun e w' => RefRead (csOf ln L) L b e ∧ ∃ n, w' = w.drewN n := by
  have HC := hidM hC
  have HBB := hidM hb
  have E2 := hidM e2
  have H15 := hidM h15
  clear hC hb e2 h15
  go_enter Try.func21, Try.ntmps21
  go_wp2
  go_loopw [7, 8, 9, 14] (fun sm _ _ i wr => ∃ (k n : Nat) (q : Bool), k ≤ L ∧ i = .int .i64 k ∧ sm = .bool q ∧ (q = false → ∀ j, j < k → (csOf ln L j).length = 0) ∧ (∀ j, j < k → 0 < (csOf ln L j).length → beg b (csOf ln L j) = false) ∧ wr = w.drewN n) (fun _ _ _ i _ => L - (intOf i).toNat)
  case atStart => exact ⟨0, 0, false, Nat.zero_le _, rfl, rfl, fun _ j hj => by omega, fun j hj => by omega, rfl⟩
  case round =>
    obtain ⟨k, n, q, hk, rfl, rfl, hq, hno, rfl⟩ := hrel
    have HQ := hidM hq
    have HNO := hidM hno
    clear hq hno
    by_cases hlt : k < L
    · obtain ⟨g, a', c', rfl, hcell, hbat⟩ := HC.out.get k hlt
      have HBA := hidM hbat
      have hk15 := H15.out k
      have HLN : Hid ((hib (codeC ln L k) (ln k)).length = ln k) := hib_len _ _
      have HCS : Hid (csOf ln L k = hib (codeC ln L k) (ln k)) := rfl
      have b3 : (k : Int) < (L : Int) := by omega
      obtain ⟨z, hz⟩ : ∃ z, z = ln k := ⟨_, rfl⟩
      obtain ⟨lb, hlb⟩ : ∃ lb, lb = hib (codeC ln L k) (ln k) := ⟨_, rfl⟩
      rw [← hlb] at HBA HLN HCS
      rw [← hz] at hcell hk15 HLN
      clear hbat hz hlb
      by_cases h0 : z = 0
      · subst h0
        have HQ2 : Hid (q = false → ∀ j, j < k + 1 → (csOf ln L j).length = 0) := fun h j hj => by
          by_cases he : j = k
          · subst he; rw [HCS.out, HLN.out]
          · exact HQ.out h j (by omega)
        have HN2 : Hid (∀ j, j < k + 1 → 0 < (csOf ln L j).length → beg b (csOf ln L j) = false) := fun j hj h0 => by
          by_cases he : j = k
          · subst he; rw [HCS.out, HLN.out] at h0; omega
          · exact HNO.out j (by omega) h0
        go_wp2
        go_roundw
        case rel => exact ⟨k + 1, n, q, by omega, by go_num, rfl, HQ2.out, HN2.out, rfl⟩
        case measure => simp [intOf]; omega
      · have hp : decide ((0 : Int) < (z : Int)) = true := by simp; omega
        go_wp2_with fail
        refine (begins_any a2 a' c2 c' k2 z b lb _ (HBB.out.drewN n) (HBA.out.drewN n) E2.out HLN.out hk2).mono ?_
        rintro e w1 ⟨rfl, n1, rfl⟩
        cases hbg : beg b lb
        · have HN2 : Hid (∀ j, j < k + 1 → 0 < (csOf ln L j).length → beg b (csOf ln L j) = false) := fun j hj h0 => by
            by_cases he : j = k
            · subst he; rw [HCS.out]; exact hbg
            · exact HNO.out j (by omega) h0
          clear hbg
          go_wp2
          go_roundw
          case rel => exact ⟨k + 1, _, true, by omega, by go_num, rfl, fun h => by simp at h, HN2.out, rfl⟩
          case measure => simp [intOf]; omega
        · have HFD : Hid (z = (csOf ln L k).length ∧ 0 < z ∧ beg b (csOf ln L k) = true) := by unfold Hid; rw [HCS.out, HLN.out]; exact ⟨rfl, by omega, hbg⟩
          clear hbg
          go_wp2
          go_ret3
          exact ⟨.inl ⟨k, z, hlt, HFD.out.1, HFD.out.2.1, HFD.out.2.2, rfl⟩, _, rfl⟩
    · obtain rfl : k = L := by omega
      cases q
      · have HEND : Hid (RefRead (csOf ln k) k b (.returned (.tuple #[.int .i64 0, .int .i64 0, .int .i64 3]))) := .inr ⟨HNO.out, .inr ⟨fun s hs h => by have := HQ.out rfl s hs; omega, rfl⟩⟩
        go_wp2
        go_ret3
        exact ⟨HEND.out, n, rfl⟩
      · clear HQ
        go_wp2
        go_loopw [11, 33] (fun _ i wr => ∃ j m : Nat, j ≤ k ∧ i = .int .i64 j ∧ (∀ s, s < j → b.length < (csOf ln k s).length → beg (csOf ln k s) b = false) ∧ wr = w.drewN m) (fun _ i _ => k - (intOf i).toNat)
        case atStart => exact ⟨0, n, Nat.zero_le _, rfl, fun s hs => by omega, rfl⟩
        case round =>
          obtain ⟨j, m, hj, rfl, hall, rfl⟩ := hrel
          have HA := hidM hall
          clear hall
          by_cases hjk : j < k
          · obtain ⟨g, a', c', rfl, hcell, hbat⟩ := HC.out.get j hjk
            have HBA := hidM hbat
            have hk15 := H15.out j
            have HLN : Hid ((hib (codeC ln k j) (ln j)).length = ln j) := hib_len _ _
            have HCS : Hid (csOf ln k j = hib (codeC ln k j) (ln j)) := rfl
            have b3 : (j : Int) < (k : Int) := by omega
            obtain ⟨z, hz⟩ : ∃ z, z = ln j := ⟨_, rfl⟩
            obtain ⟨lb, hlb⟩ : ∃ lb, lb = hib (codeC ln k j) (ln j) := ⟨_, rfl⟩
            rw [← hlb] at HBA HLN HCS
            rw [← hz] at hcell hk15 HLN
            clear hbat hz hlb
            by_cases hgt : k2 < z
            · go_wp2_with fail
              refine (begins_any a' a2 c' c2 z k2 lb b _ (HBA.out.drewN m) (HBB.out.drewN m) HLN.out E2.out (by omega)).mono ?_
              rintro e w1 ⟨rfl, n1, rfl⟩
              cases hbg : beg lb b
              · have HN2 : Hid (∀ s, s < j + 1 → b.length < (csOf ln k s).length → beg (csOf ln k s) b = false) := fun s hs h0 => by
                  by_cases he : s = j
                  · subst he; rw [HCS.out]; exact hbg
                  · exact HA.out s (by omega) h0
                clear hbg
                go_wp2
                go_roundw
                case rel => exact ⟨j + 1, _, by omega, by go_num, HN2.out, rfl⟩
                case measure => simp [intOf]; omega
              · have HEND : Hid (RefRead (csOf ln k) k b (.returned (.tuple #[.int .i64 0, .int .i64 0, .int .i64 6]))) := .inr ⟨HNO.out, .inl ⟨⟨j, hjk, by rw [HCS.out, HLN.out, E2.out]; exact hgt, by rw [HCS.out]; exact hbg⟩, rfl⟩⟩
                clear hbg
                go_wp2
                go_ret3
                exact ⟨HEND.out, _, rfl⟩
            · have HN2 : Hid (∀ s, s < j + 1 → b.length < (csOf ln k s).length → beg (csOf ln k s) b = false) := fun s hs h0 => by
                by_cases he : s = j
                · subst he; rw [HCS.out, HLN.out, E2.out] at h0; omega
                · exact HA.out s (by omega) h0
              go_wp2
              go_roundw
              case rel => exact ⟨j + 1, m, by omega, by go_num, HN2.out, rfl⟩
              case measure => simp [intOf]; omega
          · obtain rfl : j = k := by omega
            have HEND : Hid (RefRead (csOf ln j) j b (.returned (.tuple #[.int .i64 0, .int .i64 0, .int .i64 3]))) := .inr ⟨HNO.out, .inr ⟨HA.out, rfl⟩⟩
            go_wp2
            go_ret3
            exact ⟨HEND.out, m, rfl⟩
end Go.Proofs.Ytpidofgmbjkbiaa
