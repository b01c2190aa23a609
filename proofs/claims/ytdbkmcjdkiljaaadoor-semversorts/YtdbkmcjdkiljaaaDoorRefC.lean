/-
  Walks of the document's semver: Words.
-/
import Derived.Test.YtdbkmcjdkiljaaaDoorRefB
namespace Go.Proofs.YtdbkmcjdkiljaaaDoor
open Go.RowKit

/-- is it a word, of a prerelease or of a build -/
def wdL (pre : Bool) (l : List UInt8) : Bool := if pre then preL l else wordL l
def wordQ (n : Nat) : Bool := decide (48 ≤ n ∧ n ≤ 57) || decide (97 ≤ n ∧ n ≤ 122) || decide (65 ≤ n ∧ n ≤ 90) || decide (n = 45)
theorem wordQ_eq (c : UInt8) : wordC c = wordQ c.toNat := by
  unfold wordC digC letC wordQ
  have : (c == 45) = decide (c.toNat = 45) := by
    rw [Bool.eq_iff_iff, beq_iff_eq, decide_eq_true_eq, ← UInt8.toNat_inj]; rfl
  rw [this, Bool.or_assoc, Bool.or_assoc, Bool.or_assoc, Bool.or_assoc]
theorem byte_cls (n : Nat) (h : n < 256) : (n ≤ 44) ∨ (45 ≤ n ∧ n ≤ 45) ∨ (46 ≤ n ∧ n ≤ 47) ∨ (48 ≤ n ∧ n ≤ 57) ∨ (58 ≤ n ∧ n ≤ 64) ∨ (65 ≤ n ∧ n ≤ 90) ∨ (91 ≤ n ∧ n ≤ 96) ∨ (97 ≤ n ∧ n ≤ 122) ∨ (123 ≤ n) := by omega
theorem wd_word {pre : Bool} {l : List UInt8} (h : wdL pre l = true) : wordL l = true := by
  unfold wdL preL at h
  cases pre with
  | true => simp only [if_true, Bool.and_eq_true] at h; exact h.1
  | false => exact h
theorem wd_full {pre : Bool} {l : List UInt8} (h : wordL l = true) (hp : (pre && digL l && !numL l) = false) : wdL pre l = true := by
  unfold wdL preL
  cases pre with
  | false => exact h
  | true =>
    rw [if_pos rfl, h]
    revert hp
    cases digL l <;> cases numL l <;> simp
theorem wd_bad {pre : Bool} {l : List UInt8} (hp : (pre && digL l && !numL l) = true) : wdL pre l = false := by
  unfold wdL preL
  cases pre with
  | false => cases hp
  | true =>
    rw [if_pos rfl]
    revert hp
    cases digL l <;> cases numL l <;> simp
set_option maxHeartbeats 4000000 in
set_option maxRecDepth 100000 in
theorem words_any (s : ByteArray) (pre : Bool) (w : World) (hs : s.size ≤ 200) :
    Calls Tryd.prog 31 #[.string s, .bool pre] w fun e w' => e = .returned (.bool ((partsB s).all fun x => wdL pre x.data.toList)) ∧ Below w.heap.size w w' := by
  have HS := hidM (rcut_any s 46 w (by omega))
  rw [cutB_parts] at HS
  have HSZ : Hid (∀ x ∈ partsB s, x.size ≤ 200) := fun x hx => by have := parts_size hx; omega
  have hl : (partsB s).length ≤ 201 := by have := parts_len s; omega
  have hne : partsB s ≠ [] := by rw [parts_eq]; intro h; exact cutL_ne _ _ (List.map_eq_nil_iff.1 h)
  generalize partsB s = ps at *
  go_enter Tryd.func31, Tryd.ntmps31
  go_wp2_with fail
  refine HS.out.mono ?_
  rintro _ w1 ⟨⟨v, hown, rfl⟩, hb1⟩
  obtain ⟨a, cp, rfl, hsh⟩ := hown.shape
  obtain ⟨g, rfl, hg1, hg2, hst⟩ := hsh hne
  have HC := hidM hst
  have HBE := hidM hb1
  clear hst hb1 hsh hown HS
  go_wp2
  go_loopw [6, 7, 8, 12] (fun _ _ _ iv wr => ∃ k : Nat, k ≤ ps.length ∧ iv = .int .i64 (k : Int) ∧ (∀ j (hj : j < ps.length), j < k → wdL pre ps[j].data.toList = true) ∧ w1 = wr) (fun _ _ _ i _ => ps.length - (intOf i).toNat)
  case atStart => exact ⟨0, Nat.zero_le _, rfl, fun j _ hj => by omega, rfl⟩
  case round =>
    obtain ⟨kk, hkk, rfl, hno, hwr⟩ := hrel
    subst hwr
    have HNO := hidM hno
    clear hno
    by_cases hlt : kk < ps.length
    · have gk : (kk : Int) < (ps.length : Int) := by omega
      have ck := HC.out kk hlt
      have hxs := HSZ.out ps[kk] (List.getElem_mem hlt)
      have HBAD : Hid (wordL ps[kk].data.toList = false → (ps.all fun x => wdL pre x.data.toList) = false) := fun h => by
        rw [List.all_eq_false]
        refine ⟨ps[kk], List.getElem_mem hlt, fun hw => ?_⟩
        rw [wd_word hw] at h; cases h
      have HBAD2 : Hid (wdL pre ps[kk].data.toList = false → (ps.all fun x => wdL pre x.data.toList) = false) := fun h => by
        rw [List.all_eq_false]
        exact ⟨ps[kk], List.getElem_mem hlt, by rw [h]; exact Bool.false_ne_true⟩
      have HNX : Hid (wdL pre ps[kk].data.toList = true → ∀ j (hj : j < ps.length), j < kk + 1 → wdL pre ps[j].data.toList = true) := fun h j hj hjk => by
        rcases Nat.lt_or_ge j kk with h2 | h2
        · exact HNO.out j hj h2
        · obtain rfl : j = kk := by omega
          exact h
      clear HNO
      generalize ps[kk] = x at *
      have he := empty_beq x
      have HDG := hidM (rdigits_any x w1 (by omega))
      have HNM := hidM (rnumber_any x w1 (by omega))
      cases h0 : x.data.toList.isEmpty with
      | true =>
        rw [h0] at he
        have HR : Hid ((ps.all fun x => wdL pre x.data.toList) = false) := HBAD.out (by unfold wordL; rw [h0]; simp)
        clear h0 HBAD HBAD2 HNX
        go_wp2
        go_ret
        exact ⟨by rw [HR.out]; rfl, HBE.out⟩
      | false =>
        rw [h0] at he
        have HNE : Hid (x.data.toList.isEmpty = false) := h0
        clear h0
        have HGO : Hid ((pre && digL x.data.toList && !numL x.data.toList) = false → wordL x.data.toList = true → ∀ j (hj : j < ps.length), j < kk + 1 → wdL pre ps[j].data.toList = true) := fun h1 h2 => HNX.out (wd_full h2 h1)
        have HB3 : Hid ((pre && digL x.data.toList && !numL x.data.toList) = true → (ps.all fun x => wdL pre x.data.toList) = false) := fun h => HBAD2.out (wd_bad h)
        clear HNX HBAD2
        have HWL : Hid ((∀ j (hj : j < x.size), wordC x[j] = true) → wordL x.data.toList = true) := fun h => by unfold wordL; rw [all_yes h, HNE.out]; rfl
        have HWN : Hid (∀ k (hk : k < x.size), wordC x[k] = false → wordL x.data.toList = false) := fun k hk h => by unfold wordL; rw [all_no hk h]; rfl
        generalize digL x.data.toList = dg at *
        generalize numL x.data.toList = nm at *
        cases pre with
        | false =>
          have HGX := hidM (HGO.out rfl)
          clear HGO HB3 HDG HNM HNE
          go_wp2
          go_loopw [7, 8] (fun iv _ wr => ∃ k : Nat, k ≤ x.size ∧ iv = .int .i64 (k : Int) ∧ (∀ j (hj : j < x.size), j < k → wordC x[j] = true) ∧ w1 = wr) (fun i _ _ => x.size - (intOf i).toNat)
          case atStart => exact ⟨0, Nat.zero_le _, rfl, fun j _ hj => by omega, rfl⟩
          case round =>
            obtain ⟨k, hk, rfl, hno, hwr⟩ := hrel
            subst hwr
            have HNO := hidM hno
            clear hno
            by_cases hlt2 : k < x.size
            · have gk2 : (k : Int) < (x.size : Int) := by omega
              have HYES : Hid (wordQ x[k].toNat = true → ∀ j (hj : j < x.size), j < k + 1 → wordC x[j] = true) := fun h j hj hjk => by
                rcases Nat.lt_or_ge j k with h2 | h2
                · exact HNO.out j hj h2
                · obtain rfl : j = k := by omega
                  rw [wordQ_eq]; exact h
              have HNOT : Hid (wordQ x[k].toNat = false → wordL x.data.toList = false) := fun h => HWN.out k hlt2 (by rw [wordQ_eq]; exact h)
              have hn : x[k].toNat < 256 := UInt8.toNat_lt _
              clear HNO HWL HWN HGX
              generalize hnn : x[k].toNat = n at *
              have hnI : (x[k].toNat : Int) = (n : Int) := by omega
              clear hnn
              rcases byte_cls n hn with hc | hc | hc | hc | hc | hc | hc | hc | hc
              · as_aux_lemma =>
                have c0 : decide ((48 : Int) ≤ (n : Int)) = false := decide_eq_false (by omega)
                have c1 : decide ((n : Int) ≤ (57 : Int)) = true := decide_eq_true (by omega)
                have c2 : decide ((97 : Int) ≤ (n : Int)) = false := decide_eq_false (by omega)
                have c3 : decide ((n : Int) ≤ (122 : Int)) = true := decide_eq_true (by omega)
                have c4 : decide ((65 : Int) ≤ (n : Int)) = false := decide_eq_false (by omega)
                have c5 : decide ((n : Int) ≤ (90 : Int)) = true := decide_eq_true (by omega)
                have c6 : ((n : Int) == 45) = false := by simp; omega
                have HW := hidM (HNOT.out (by unfold wordQ; simp; omega))
                have HR := hidM (HBAD.out HW.out)
                clear hc HYES HNOT HBAD HW
                go_wp2
                go_ret
                exact ⟨by rw [HR.out]; rfl, HBE.out⟩
              · as_aux_lemma =>
                have c0 : decide ((48 : Int) ≤ (n : Int)) = false := decide_eq_false (by omega)
                have c1 : decide ((n : Int) ≤ (57 : Int)) = true := decide_eq_true (by omega)
                have c2 : decide ((97 : Int) ≤ (n : Int)) = false := decide_eq_false (by omega)
                have c3 : decide ((n : Int) ≤ (122 : Int)) = true := decide_eq_true (by omega)
                have c4 : decide ((65 : Int) ≤ (n : Int)) = false := decide_eq_false (by omega)
                have c5 : decide ((n : Int) ≤ (90 : Int)) = true := decide_eq_true (by omega)
                have c6 : ((n : Int) == 45) = true := by simp; omega
                have HNX : Hid (∀ j (hj : j < x.size), j < k + 1 → wordC x[j] = true) := HYES.out (by unfold wordQ; simp; omega)
                clear hc HYES HNOT
                go_wp2
                go_roundw
                case rel => exact ⟨k + 1, by omega, by go_num, HNX.out, by first | rfl | trivial⟩
                case measure => simp [intOf]; omega
              · as_aux_lemma =>
                have c0 : decide ((48 : Int) ≤ (n : Int)) = false := decide_eq_false (by omega)
                have c1 : decide ((n : Int) ≤ (57 : Int)) = true := decide_eq_true (by omega)
                have c2 : decide ((97 : Int) ≤ (n : Int)) = false := decide_eq_false (by omega)
                have c3 : decide ((n : Int) ≤ (122 : Int)) = true := decide_eq_true (by omega)
                have c4 : decide ((65 : Int) ≤ (n : Int)) = false := decide_eq_false (by omega)
                have c5 : decide ((n : Int) ≤ (90 : Int)) = true := decide_eq_true (by omega)
                have c6 : ((n : Int) == 45) = false := by simp; omega
                have HW := hidM (HNOT.out (by unfold wordQ; simp; omega))
                have HR := hidM (HBAD.out HW.out)
                clear hc HYES HNOT HBAD HW
                go_wp2
                go_ret
                exact ⟨by rw [HR.out]; rfl, HBE.out⟩
              · as_aux_lemma =>
                have c0 : decide ((48 : Int) ≤ (n : Int)) = true := decide_eq_true (by omega)
                have c1 : decide ((n : Int) ≤ (57 : Int)) = true := decide_eq_true (by omega)
                have c2 : decide ((97 : Int) ≤ (n : Int)) = false := decide_eq_false (by omega)
                have c3 : decide ((n : Int) ≤ (122 : Int)) = true := decide_eq_true (by omega)
                have c4 : decide ((65 : Int) ≤ (n : Int)) = false := decide_eq_false (by omega)
                have c5 : decide ((n : Int) ≤ (90 : Int)) = true := decide_eq_true (by omega)
                have c6 : ((n : Int) == 45) = false := by simp; omega
                have HNX : Hid (∀ j (hj : j < x.size), j < k + 1 → wordC x[j] = true) := HYES.out (by unfold wordQ; simp; omega)
                clear hc HYES HNOT
                go_wp2
                go_roundw
                case rel => exact ⟨k + 1, by omega, by go_num, HNX.out, by first | rfl | trivial⟩
                case measure => simp [intOf]; omega
              · as_aux_lemma =>
                have c0 : decide ((48 : Int) ≤ (n : Int)) = true := decide_eq_true (by omega)
                have c1 : decide ((n : Int) ≤ (57 : Int)) = false := decide_eq_false (by omega)
                have c2 : decide ((97 : Int) ≤ (n : Int)) = false := decide_eq_false (by omega)
                have c3 : decide ((n : Int) ≤ (122 : Int)) = true := decide_eq_true (by omega)
                have c4 : decide ((65 : Int) ≤ (n : Int)) = false := decide_eq_false (by omega)
                have c5 : decide ((n : Int) ≤ (90 : Int)) = true := decide_eq_true (by omega)
                have c6 : ((n : Int) == 45) = false := by simp; omega
                have HW := hidM (HNOT.out (by unfold wordQ; simp; omega))
                have HR := hidM (HBAD.out HW.out)
                clear hc HYES HNOT HBAD HW
                go_wp2
                go_ret
                exact ⟨by rw [HR.out]; rfl, HBE.out⟩
              · as_aux_lemma =>
                have c0 : decide ((48 : Int) ≤ (n : Int)) = true := decide_eq_true (by omega)
                have c1 : decide ((n : Int) ≤ (57 : Int)) = false := decide_eq_false (by omega)
                have c2 : decide ((97 : Int) ≤ (n : Int)) = false := decide_eq_false (by omega)
                have c3 : decide ((n : Int) ≤ (122 : Int)) = true := decide_eq_true (by omega)
                have c4 : decide ((65 : Int) ≤ (n : Int)) = true := decide_eq_true (by omega)
                have c5 : decide ((n : Int) ≤ (90 : Int)) = true := decide_eq_true (by omega)
                have c6 : ((n : Int) == 45) = false := by simp; omega
                have HNX : Hid (∀ j (hj : j < x.size), j < k + 1 → wordC x[j] = true) := HYES.out (by unfold wordQ; simp; omega)
                clear hc HYES HNOT
                go_wp2
                go_roundw
                case rel => exact ⟨k + 1, by omega, by go_num, HNX.out, by first | rfl | trivial⟩
                case measure => simp [intOf]; omega
              · as_aux_lemma =>
                have c0 : decide ((48 : Int) ≤ (n : Int)) = true := decide_eq_true (by omega)
                have c1 : decide ((n : Int) ≤ (57 : Int)) = false := decide_eq_false (by omega)
                have c2 : decide ((97 : Int) ≤ (n : Int)) = false := decide_eq_false (by omega)
                have c3 : decide ((n : Int) ≤ (122 : Int)) = true := decide_eq_true (by omega)
                have c4 : decide ((65 : Int) ≤ (n : Int)) = true := decide_eq_true (by omega)
                have c5 : decide ((n : Int) ≤ (90 : Int)) = false := decide_eq_false (by omega)
                have c6 : ((n : Int) == 45) = false := by simp; omega
                have HW := hidM (HNOT.out (by unfold wordQ; simp; omega))
                have HR := hidM (HBAD.out HW.out)
                clear hc HYES HNOT HBAD HW
                go_wp2
                go_ret
                exact ⟨by rw [HR.out]; rfl, HBE.out⟩
              · as_aux_lemma =>
                have c0 : decide ((48 : Int) ≤ (n : Int)) = true := decide_eq_true (by omega)
                have c1 : decide ((n : Int) ≤ (57 : Int)) = false := decide_eq_false (by omega)
                have c2 : decide ((97 : Int) ≤ (n : Int)) = true := decide_eq_true (by omega)
                have c3 : decide ((n : Int) ≤ (122 : Int)) = true := decide_eq_true (by omega)
                have c4 : decide ((65 : Int) ≤ (n : Int)) = true := decide_eq_true (by omega)
                have c5 : decide ((n : Int) ≤ (90 : Int)) = false := decide_eq_false (by omega)
                have c6 : ((n : Int) == 45) = false := by simp; omega
                have HNX : Hid (∀ j (hj : j < x.size), j < k + 1 → wordC x[j] = true) := HYES.out (by unfold wordQ; simp; omega)
                clear hc HYES HNOT
                go_wp2
                go_roundw
                case rel => exact ⟨k + 1, by omega, by go_num, HNX.out, by first | rfl | trivial⟩
                case measure => simp [intOf]; omega
              · as_aux_lemma =>
                have c0 : decide ((48 : Int) ≤ (n : Int)) = true := decide_eq_true (by omega)
                have c1 : decide ((n : Int) ≤ (57 : Int)) = false := decide_eq_false (by omega)
                have c2 : decide ((97 : Int) ≤ (n : Int)) = true := decide_eq_true (by omega)
                have c3 : decide ((n : Int) ≤ (122 : Int)) = false := decide_eq_false (by omega)
                have c4 : decide ((65 : Int) ≤ (n : Int)) = true := decide_eq_true (by omega)
                have c5 : decide ((n : Int) ≤ (90 : Int)) = false := decide_eq_false (by omega)
                have c6 : ((n : Int) == 45) = false := by simp; omega
                have HW := hidM (HNOT.out (by unfold wordQ; simp; omega))
                have HR := hidM (HBAD.out HW.out)
                clear hc HYES HNOT HBAD HW
                go_wp2
                go_ret
                exact ⟨by rw [HR.out]; rfl, HBE.out⟩
            · have gk2 : ¬ (k : Int) < (x.size : Int) := by omega
              have HNX := hidM (HGX.out (HWL.out (fun j hj => HNO.out j hj (by omega))))
              clear HNO HWL HWN HGX HBAD
              go_wp2
              go_roundw
              case rel => exact ⟨kk + 1, by omega, by go_num, HNX.out, by first | rfl | trivial⟩
              case measure => simp [intOf]; omega
        | true =>
          cases dg with
          | false =>
            have HGX := hidM (HGO.out rfl)
            clear HGO HB3 HNM HNE
            go_wp2_with fail
            refine HDG.out.mono ?_
            rintro _ w9 ⟨rfl, h9⟩
            rw [h9]
            clear h9
            go_wp2
            go_loopw [7, 8] (fun iv _ wr => ∃ k : Nat, k ≤ x.size ∧ iv = .int .i64 (k : Int) ∧ (∀ j (hj : j < x.size), j < k → wordC x[j] = true) ∧ w1 = wr) (fun i _ _ => x.size - (intOf i).toNat)
            case atStart => exact ⟨0, Nat.zero_le _, rfl, fun j _ hj => by omega, rfl⟩
            case round =>
              obtain ⟨k, hk, rfl, hno, hwr⟩ := hrel
              subst hwr
              have HNO := hidM hno
              clear hno
              by_cases hlt2 : k < x.size
              · have gk2 : (k : Int) < (x.size : Int) := by omega
                have HYES : Hid (wordQ x[k].toNat = true → ∀ j (hj : j < x.size), j < k + 1 → wordC x[j] = true) := fun h j hj hjk => by
                  rcases Nat.lt_or_ge j k with h2 | h2
                  · exact HNO.out j hj h2
                  · obtain rfl : j = k := by omega
                    rw [wordQ_eq]; exact h
                have HNOT : Hid (wordQ x[k].toNat = false → wordL x.data.toList = false) := fun h => HWN.out k hlt2 (by rw [wordQ_eq]; exact h)
                have hn : x[k].toNat < 256 := UInt8.toNat_lt _
                clear HNO HWL HWN HGX
                generalize hnn : x[k].toNat = n at *
                have hnI : (x[k].toNat : Int) = (n : Int) := by omega
                clear hnn
                rcases byte_cls n hn with hc | hc | hc | hc | hc | hc | hc | hc | hc
                · as_aux_lemma =>
                  have c0 : decide ((48 : Int) ≤ (n : Int)) = false := decide_eq_false (by omega)
                  have c1 : decide ((n : Int) ≤ (57 : Int)) = true := decide_eq_true (by omega)
                  have c2 : decide ((97 : Int) ≤ (n : Int)) = false := decide_eq_false (by omega)
                  have c3 : decide ((n : Int) ≤ (122 : Int)) = true := decide_eq_true (by omega)
                  have c4 : decide ((65 : Int) ≤ (n : Int)) = false := decide_eq_false (by omega)
                  have c5 : decide ((n : Int) ≤ (90 : Int)) = true := decide_eq_true (by omega)
                  have c6 : ((n : Int) == 45) = false := by simp; omega
                  have HW := hidM (HNOT.out (by unfold wordQ; simp; omega))
                  have HR := hidM (HBAD.out HW.out)
                  clear hc HYES HNOT HBAD HW
                  go_wp2
                  go_ret
                  exact ⟨by rw [HR.out]; rfl, HBE.out⟩
                · as_aux_lemma =>
                  have c0 : decide ((48 : Int) ≤ (n : Int)) = false := decide_eq_false (by omega)
                  have c1 : decide ((n : Int) ≤ (57 : Int)) = true := decide_eq_true (by omega)
                  have c2 : decide ((97 : Int) ≤ (n : Int)) = false := decide_eq_false (by omega)
                  have c3 : decide ((n : Int) ≤ (122 : Int)) = true := decide_eq_true (by omega)
                  have c4 : decide ((65 : Int) ≤ (n : Int)) = false := decide_eq_false (by omega)
                  have c5 : decide ((n : Int) ≤ (90 : Int)) = true := decide_eq_true (by omega)
                  have c6 : ((n : Int) == 45) = true := by simp; omega
                  have HNX : Hid (∀ j (hj : j < x.size), j < k + 1 → wordC x[j] = true) := HYES.out (by unfold wordQ; simp; omega)
                  clear hc HYES HNOT
                  go_wp2
                  go_roundw
                  case rel => exact ⟨k + 1, by omega, by go_num, HNX.out, by first | rfl | trivial⟩
                  case measure => simp [intOf]; omega
                · as_aux_lemma =>
                  have c0 : decide ((48 : Int) ≤ (n : Int)) = false := decide_eq_false (by omega)
                  have c1 : decide ((n : Int) ≤ (57 : Int)) = true := decide_eq_true (by omega)
                  have c2 : decide ((97 : Int) ≤ (n : Int)) = false := decide_eq_false (by omega)
                  have c3 : decide ((n : Int) ≤ (122 : Int)) = true := decide_eq_true (by omega)
                  have c4 : decide ((65 : Int) ≤ (n : Int)) = false := decide_eq_false (by omega)
                  have c5 : decide ((n : Int) ≤ (90 : Int)) = true := decide_eq_true (by omega)
                  have c6 : ((n : Int) == 45) = false := by simp; omega
                  have HW := hidM (HNOT.out (by unfold wordQ; simp; omega))
                  have HR := hidM (HBAD.out HW.out)
                  clear hc HYES HNOT HBAD HW
                  go_wp2
                  go_ret
                  exact ⟨by rw [HR.out]; rfl, HBE.out⟩
                · as_aux_lemma =>
                  have c0 : decide ((48 : Int) ≤ (n : Int)) = true := decide_eq_true (by omega)
                  have c1 : decide ((n : Int) ≤ (57 : Int)) = true := decide_eq_true (by omega)
                  have c2 : decide ((97 : Int) ≤ (n : Int)) = false := decide_eq_false (by omega)
                  have c3 : decide ((n : Int) ≤ (122 : Int)) = true := decide_eq_true (by omega)
                  have c4 : decide ((65 : Int) ≤ (n : Int)) = false := decide_eq_false (by omega)
                  have c5 : decide ((n : Int) ≤ (90 : Int)) = true := decide_eq_true (by omega)
                  have c6 : ((n : Int) == 45) = false := by simp; omega
                  have HNX : Hid (∀ j (hj : j < x.size), j < k + 1 → wordC x[j] = true) := HYES.out (by unfold wordQ; simp; omega)
                  clear hc HYES HNOT
                  go_wp2
                  go_roundw
                  case rel => exact ⟨k + 1, by omega, by go_num, HNX.out, by first | rfl | trivial⟩
                  case measure => simp [intOf]; omega
                · as_aux_lemma =>
                  have c0 : decide ((48 : Int) ≤ (n : Int)) = true := decide_eq_true (by omega)
                  have c1 : decide ((n : Int) ≤ (57 : Int)) = false := decide_eq_false (by omega)
                  have c2 : decide ((97 : Int) ≤ (n : Int)) = false := decide_eq_false (by omega)
                  have c3 : decide ((n : Int) ≤ (122 : Int)) = true := decide_eq_true (by omega)
                  have c4 : decide ((65 : Int) ≤ (n : Int)) = false := decide_eq_false (by omega)
                  have c5 : decide ((n : Int) ≤ (90 : Int)) = true := decide_eq_true (by omega)
                  have c6 : ((n : Int) == 45) = false := by simp; omega
                  have HW := hidM (HNOT.out (by unfold wordQ; simp; omega))
                  have HR := hidM (HBAD.out HW.out)
                  clear hc HYES HNOT HBAD HW
                  go_wp2
                  go_ret
                  exact ⟨by rw [HR.out]; rfl, HBE.out⟩
                · as_aux_lemma =>
                  have c0 : decide ((48 : Int) ≤ (n : Int)) = true := decide_eq_true (by omega)
                  have c1 : decide ((n : Int) ≤ (57 : Int)) = false := decide_eq_false (by omega)
                  have c2 : decide ((97 : Int) ≤ (n : Int)) = false := decide_eq_false (by omega)
                  have c3 : decide ((n : Int) ≤ (122 : Int)) = true := decide_eq_true (by omega)
                  have c4 : decide ((65 : Int) ≤ (n : Int)) = true := decide_eq_true (by omega)
                  have c5 : decide ((n : Int) ≤ (90 : Int)) = true := decide_eq_true (by omega)
                  have c6 : ((n : Int) == 45) = false := by simp; omega
                  have HNX : Hid (∀ j (hj : j < x.size), j < k + 1 → wordC x[j] = true) := HYES.out (by unfold wordQ; simp; omega)
                  clear hc HYES HNOT
                  go_wp2
                  go_roundw
                  case rel => exact ⟨k + 1, by omega, by go_num, HNX.out, by first | rfl | trivial⟩
                  case measure => simp [intOf]; omega
                · as_aux_lemma =>
                  have c0 : decide ((48 : Int) ≤ (n : Int)) = true := decide_eq_true (by omega)
                  have c1 : decide ((n : Int) ≤ (57 : Int)) = false := decide_eq_false (by omega)
                  have c2 : decide ((97 : Int) ≤ (n : Int)) = false := decide_eq_false (by omega)
                  have c3 : decide ((n : Int) ≤ (122 : Int)) = true := decide_eq_true (by omega)
                  have c4 : decide ((65 : Int) ≤ (n : Int)) = true := decide_eq_true (by omega)
                  have c5 : decide ((n : Int) ≤ (90 : Int)) = false := decide_eq_false (by omega)
                  have c6 : ((n : Int) == 45) = false := by simp; omega
                  have HW := hidM (HNOT.out (by unfold wordQ; simp; omega))
                  have HR := hidM (HBAD.out HW.out)
                  clear hc HYES HNOT HBAD HW
                  go_wp2
                  go_ret
                  exact ⟨by rw [HR.out]; rfl, HBE.out⟩
                · as_aux_lemma =>
                  have c0 : decide ((48 : Int) ≤ (n : Int)) = true := decide_eq_true (by omega)
                  have c1 : decide ((n : Int) ≤ (57 : Int)) = false := decide_eq_false (by omega)
                  have c2 : decide ((97 : Int) ≤ (n : Int)) = true := decide_eq_true (by omega)
                  have c3 : decide ((n : Int) ≤ (122 : Int)) = true := decide_eq_true (by omega)
                  have c4 : decide ((65 : Int) ≤ (n : Int)) = true := decide_eq_true (by omega)
                  have c5 : decide ((n : Int) ≤ (90 : Int)) = false := decide_eq_false (by omega)
                  have c6 : ((n : Int) == 45) = false := by simp; omega
                  have HNX : Hid (∀ j (hj : j < x.size), j < k + 1 → wordC x[j] = true) := HYES.out (by unfold wordQ; simp; omega)
                  clear hc HYES HNOT
                  go_wp2
                  go_roundw
                  case rel => exact ⟨k + 1, by omega, by go_num, HNX.out, by first | rfl | trivial⟩
                  case measure => simp [intOf]; omega
                · as_aux_lemma =>
                  have c0 : decide ((48 : Int) ≤ (n : Int)) = true := decide_eq_true (by omega)
                  have c1 : decide ((n : Int) ≤ (57 : Int)) = false := decide_eq_false (by omega)
                  have c2 : decide ((97 : Int) ≤ (n : Int)) = true := decide_eq_true (by omega)
                  have c3 : decide ((n : Int) ≤ (122 : Int)) = false := decide_eq_false (by omega)
                  have c4 : decide ((65 : Int) ≤ (n : Int)) = true := decide_eq_true (by omega)
                  have c5 : decide ((n : Int) ≤ (90 : Int)) = false := decide_eq_false (by omega)
                  have c6 : ((n : Int) == 45) = false := by simp; omega
                  have HW := hidM (HNOT.out (by unfold wordQ; simp; omega))
                  have HR := hidM (HBAD.out HW.out)
                  clear hc HYES HNOT HBAD HW
                  go_wp2
                  go_ret
                  exact ⟨by rw [HR.out]; rfl, HBE.out⟩
              · have gk2 : ¬ (k : Int) < (x.size : Int) := by omega
                have HNX := hidM (HGX.out (HWL.out (fun j hj => HNO.out j hj (by omega))))
                clear HNO HWL HWN HGX HBAD
                go_wp2
                go_roundw
                case rel => exact ⟨kk + 1, by omega, by go_num, HNX.out, by first | rfl | trivial⟩
                case measure => simp [intOf]; omega
          | true =>
            cases nm with
            | false =>
              have HR := hidM (HB3.out rfl)
              clear HGO HB3 HWL HWN HBAD HNE
              go_wp2_with fail
              refine HDG.out.mono ?_
              rintro _ w9 ⟨rfl, h9⟩
              rw [h9]
              clear h9
              go_wp2_with fail
              refine HNM.out.mono ?_
              rintro _ w9 ⟨rfl, h9⟩
              rw [h9]
              clear h9
              go_wp2
              go_ret
              exact ⟨by rw [HR.out]; rfl, HBE.out⟩
            | true =>
              have HGX := hidM (HGO.out rfl)
              clear HGO HB3 HNE
              go_wp2_with fail
              refine HDG.out.mono ?_
              rintro _ w9 ⟨rfl, h9⟩
              rw [h9]
              clear h9
              go_wp2_with fail
              refine HNM.out.mono ?_
              rintro _ w9 ⟨rfl, h9⟩
              rw [h9]
              clear h9
              go_wp2
              go_loopw [7, 8] (fun iv _ wr => ∃ k : Nat, k ≤ x.size ∧ iv = .int .i64 (k : Int) ∧ (∀ j (hj : j < x.size), j < k → wordC x[j] = true) ∧ w1 = wr) (fun i _ _ => x.size - (intOf i).toNat)
              case atStart => exact ⟨0, Nat.zero_le _, rfl, fun j _ hj => by omega, rfl⟩
              case round =>
                obtain ⟨k, hk, rfl, hno, hwr⟩ := hrel
                subst hwr
                have HNO := hidM hno
                clear hno
                by_cases hlt2 : k < x.size
                · have gk2 : (k : Int) < (x.size : Int) := by omega
                  have HYES : Hid (wordQ x[k].toNat = true → ∀ j (hj : j < x.size), j < k + 1 → wordC x[j] = true) := fun h j hj hjk => by
                    rcases Nat.lt_or_ge j k with h2 | h2
                    · exact HNO.out j hj h2
                    · obtain rfl : j = k := by omega
                      rw [wordQ_eq]; exact h
                  have HNOT : Hid (wordQ x[k].toNat = false → wordL x.data.toList = false) := fun h => HWN.out k hlt2 (by rw [wordQ_eq]; exact h)
                  have hn : x[k].toNat < 256 := UInt8.toNat_lt _
                  clear HNO HWL HWN HGX
                  generalize hnn : x[k].toNat = n at *
                  have hnI : (x[k].toNat : Int) = (n : Int) := by omega
                  clear hnn
                  rcases byte_cls n hn with hc | hc | hc | hc | hc | hc | hc | hc | hc
                  · as_aux_lemma =>
                    have c0 : decide ((48 : Int) ≤ (n : Int)) = false := decide_eq_false (by omega)
                    have c1 : decide ((n : Int) ≤ (57 : Int)) = true := decide_eq_true (by omega)
                    have c2 : decide ((97 : Int) ≤ (n : Int)) = false := decide_eq_false (by omega)
                    have c3 : decide ((n : Int) ≤ (122 : Int)) = true := decide_eq_true (by omega)
                    have c4 : decide ((65 : Int) ≤ (n : Int)) = false := decide_eq_false (by omega)
                    have c5 : decide ((n : Int) ≤ (90 : Int)) = true := decide_eq_true (by omega)
                    have c6 : ((n : Int) == 45) = false := by simp; omega
                    have HW := hidM (HNOT.out (by unfold wordQ; simp; omega))
                    have HR := hidM (HBAD.out HW.out)
                    clear hc HYES HNOT HBAD HW
                    go_wp2
                    go_ret
                    exact ⟨by rw [HR.out]; rfl, HBE.out⟩
                  · as_aux_lemma =>
                    have c0 : decide ((48 : Int) ≤ (n : Int)) = false := decide_eq_false (by omega)
                    have c1 : decide ((n : Int) ≤ (57 : Int)) = true := decide_eq_true (by omega)
                    have c2 : decide ((97 : Int) ≤ (n : Int)) = false := decide_eq_false (by omega)
                    have c3 : decide ((n : Int) ≤ (122 : Int)) = true := decide_eq_true (by omega)
                    have c4 : decide ((65 : Int) ≤ (n : Int)) = false := decide_eq_false (by omega)
                    have c5 : decide ((n : Int) ≤ (90 : Int)) = true := decide_eq_true (by omega)
                    have c6 : ((n : Int) == 45) = true := by simp; omega
                    have HNX : Hid (∀ j (hj : j < x.size), j < k + 1 → wordC x[j] = true) := HYES.out (by unfold wordQ; simp; omega)
                    clear hc HYES HNOT
                    go_wp2
                    go_roundw
                    case rel => exact ⟨k + 1, by omega, by go_num, HNX.out, by first | rfl | trivial⟩
                    case measure => simp [intOf]; omega
                  · as_aux_lemma =>
                    have c0 : decide ((48 : Int) ≤ (n : Int)) = false := decide_eq_false (by omega)
                    have c1 : decide ((n : Int) ≤ (57 : Int)) = true := decide_eq_true (by omega)
                    have c2 : decide ((97 : Int) ≤ (n : Int)) = false := decide_eq_false (by omega)
                    have c3 : decide ((n : Int) ≤ (122 : Int)) = true := decide_eq_true (by omega)
                    have c4 : decide ((65 : Int) ≤ (n : Int)) = false := decide_eq_false (by omega)
                    have c5 : decide ((n : Int) ≤ (90 : Int)) = true := decide_eq_true (by omega)
                    have c6 : ((n : Int) == 45) = false := by simp; omega
                    have HW := hidM (HNOT.out (by unfold wordQ; simp; omega))
                    have HR := hidM (HBAD.out HW.out)
                    clear hc HYES HNOT HBAD HW
                    go_wp2
                    go_ret
                    exact ⟨by rw [HR.out]; rfl, HBE.out⟩
                  · as_aux_lemma =>
                    have c0 : decide ((48 : Int) ≤ (n : Int)) = true := decide_eq_true (by omega)
                    have c1 : decide ((n : Int) ≤ (57 : Int)) = true := decide_eq_true (by omega)
                    have c2 : decide ((97 : Int) ≤ (n : Int)) = false := decide_eq_false (by omega)
                    have c3 : decide ((n : Int) ≤ (122 : Int)) = true := decide_eq_true (by omega)
                    have c4 : decide ((65 : Int) ≤ (n : Int)) = false := decide_eq_false (by omega)
                    have c5 : decide ((n : Int) ≤ (90 : Int)) = true := decide_eq_true (by omega)
                    have c6 : ((n : Int) == 45) = false := by simp; omega
                    have HNX : Hid (∀ j (hj : j < x.size), j < k + 1 → wordC x[j] = true) := HYES.out (by unfold wordQ; simp; omega)
                    clear hc HYES HNOT
                    go_wp2
                    go_roundw
                    case rel => exact ⟨k + 1, by omega, by go_num, HNX.out, by first | rfl | trivial⟩
                    case measure => simp [intOf]; omega
                  · as_aux_lemma =>
                    have c0 : decide ((48 : Int) ≤ (n : Int)) = true := decide_eq_true (by omega)
                    have c1 : decide ((n : Int) ≤ (57 : Int)) = false := decide_eq_false (by omega)
                    have c2 : decide ((97 : Int) ≤ (n : Int)) = false := decide_eq_false (by omega)
                    have c3 : decide ((n : Int) ≤ (122 : Int)) = true := decide_eq_true (by omega)
                    have c4 : decide ((65 : Int) ≤ (n : Int)) = false := decide_eq_false (by omega)
                    have c5 : decide ((n : Int) ≤ (90 : Int)) = true := decide_eq_true (by omega)
                    have c6 : ((n : Int) == 45) = false := by simp; omega
                    have HW := hidM (HNOT.out (by unfold wordQ; simp; omega))
                    have HR := hidM (HBAD.out HW.out)
                    clear hc HYES HNOT HBAD HW
                    go_wp2
                    go_ret
                    exact ⟨by rw [HR.out]; rfl, HBE.out⟩
                  · as_aux_lemma =>
                    have c0 : decide ((48 : Int) ≤ (n : Int)) = true := decide_eq_true (by omega)
                    have c1 : decide ((n : Int) ≤ (57 : Int)) = false := decide_eq_false (by omega)
                    have c2 : decide ((97 : Int) ≤ (n : Int)) = false := decide_eq_false (by omega)
                    have c3 : decide ((n : Int) ≤ (122 : Int)) = true := decide_eq_true (by omega)
                    have c4 : decide ((65 : Int) ≤ (n : Int)) = true := decide_eq_true (by omega)
                    have c5 : decide ((n : Int) ≤ (90 : Int)) = true := decide_eq_true (by omega)
                    have c6 : ((n : Int) == 45) = false := by simp; omega
                    have HNX : Hid (∀ j (hj : j < x.size), j < k + 1 → wordC x[j] = true) := HYES.out (by unfold wordQ; simp; omega)
                    clear hc HYES HNOT
                    go_wp2
                    go_roundw
                    case rel => exact ⟨k + 1, by omega, by go_num, HNX.out, by first | rfl | trivial⟩
                    case measure => simp [intOf]; omega
                  · as_aux_lemma =>
                    have c0 : decide ((48 : Int) ≤ (n : Int)) = true := decide_eq_true (by omega)
                    have c1 : decide ((n : Int) ≤ (57 : Int)) = false := decide_eq_false (by omega)
                    have c2 : decide ((97 : Int) ≤ (n : Int)) = false := decide_eq_false (by omega)
                    have c3 : decide ((n : Int) ≤ (122 : Int)) = true := decide_eq_true (by omega)
                    have c4 : decide ((65 : Int) ≤ (n : Int)) = true := decide_eq_true (by omega)
                    have c5 : decide ((n : Int) ≤ (90 : Int)) = false := decide_eq_false (by omega)
                    have c6 : ((n : Int) == 45) = false := by simp; omega
                    have HW := hidM (HNOT.out (by unfold wordQ; simp; omega))
                    have HR := hidM (HBAD.out HW.out)
                    clear hc HYES HNOT HBAD HW
                    go_wp2
                    go_ret
                    exact ⟨by rw [HR.out]; rfl, HBE.out⟩
                  · as_aux_lemma =>
                    have c0 : decide ((48 : Int) ≤ (n : Int)) = true := decide_eq_true (by omega)
                    have c1 : decide ((n : Int) ≤ (57 : Int)) = false := decide_eq_false (by omega)
                    have c2 : decide ((97 : Int) ≤ (n : Int)) = true := decide_eq_true (by omega)
                    have c3 : decide ((n : Int) ≤ (122 : Int)) = true := decide_eq_true (by omega)
                    have c4 : decide ((65 : Int) ≤ (n : Int)) = true := decide_eq_true (by omega)
                    have c5 : decide ((n : Int) ≤ (90 : Int)) = false := decide_eq_false (by omega)
                    have c6 : ((n : Int) == 45) = false := by simp; omega
                    have HNX : Hid (∀ j (hj : j < x.size), j < k + 1 → wordC x[j] = true) := HYES.out (by unfold wordQ; simp; omega)
                    clear hc HYES HNOT
                    go_wp2
                    go_roundw
                    case rel => exact ⟨k + 1, by omega, by go_num, HNX.out, by first | rfl | trivial⟩
                    case measure => simp [intOf]; omega
                  · as_aux_lemma =>
                    have c0 : decide ((48 : Int) ≤ (n : Int)) = true := decide_eq_true (by omega)
                    have c1 : decide ((n : Int) ≤ (57 : Int)) = false := decide_eq_false (by omega)
                    have c2 : decide ((97 : Int) ≤ (n : Int)) = true := decide_eq_true (by omega)
                    have c3 : decide ((n : Int) ≤ (122 : Int)) = false := decide_eq_false (by omega)
                    have c4 : decide ((65 : Int) ≤ (n : Int)) = true := decide_eq_true (by omega)
                    have c5 : decide ((n : Int) ≤ (90 : Int)) = false := decide_eq_false (by omega)
                    have c6 : ((n : Int) == 45) = false := by simp; omega
                    have HW := hidM (HNOT.out (by unfold wordQ; simp; omega))
                    have HR := hidM (HBAD.out HW.out)
                    clear hc HYES HNOT HBAD HW
                    go_wp2
                    go_ret
                    exact ⟨by rw [HR.out]; rfl, HBE.out⟩
                · have gk2 : ¬ (k : Int) < (x.size : Int) := by omega
                  have HNX := hidM (HGX.out (HWL.out (fun j hj => HNO.out j hj (by omega))))
                  clear HNO HWL HWN HGX HBAD
                  go_wp2
                  go_roundw
                  case rel => exact ⟨kk + 1, by omega, by go_num, HNX.out, by first | rfl | trivial⟩
                  case measure => simp [intOf]; omega
    · have gk : ¬ (kk : Int) < (ps.length : Int) := by omega
      have HR : Hid ((ps.all fun x => wdL pre x.data.toList) = true) := by
        unfold Hid
        rw [List.all_eq_true]
        intro x hx
        obtain ⟨j, hj, rfl⟩ := List.getElem_of_mem hx
        exact HNO.out j hj (by omega)
      go_wp2
      go_ret
      exact ⟨by rw [HR.out]; rfl, HBE.out⟩
end Go.Proofs.YtdbkmcjdkiljaaaDoor
