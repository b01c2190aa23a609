/-
  The document's answer of snap: is it a path?
-/
import Derived.Test.YtolohndbbnbfbaaDoorRSnA
namespace Go.Proofs.YtolohndbbnbfbaaDoor
open Go.RowKit

theorem rpB_all (s : ByteArray) : rpB s s.size = (partsL s.data.toList).map mkB := by
  unfold rpB
  rw [List.take_of_length_le (by rw [← Lib.size_eq]; exact Nat.le_refl _)]
set_option maxHeartbeats 1600000 in
theorem rclean_any (s : ByteArray) (w : World) :
    Calls Tryd.prog 17 #[.string s] w fun e w' => e = .returned (.bool (cleanB s)) ∧ Below w.heap.size w w' := by
  rw [clean_eq]
  have hsl : s.data.toList.length = s.size := (Lib.size_eq s).symm
  by_cases hs : s.size ≤ 200
  · have g : decide ((200 : Int) < (s.size : Int)) = false := by simp; omega
    have HPT := hidM (fun W => rparts_any s W (by omega))
    rw [rpB_all] at HPT
    have HLN : Hid ((partsL s.data.toList).length ≤ 201) := by
      have := (rpB_len s s.size).1
      rw [rpB_all, List.length_map] at this
      unfold Hid; omega
    have HCL : Hid (cleanL s.data.toList = (plainL s.data.toList && (partsL s.data.toList).all partOk)) := by
      unfold Hid cleanL
      rw [show decide (s.data.toList.length ≤ 200) = true by rw [hsl]; simpa using hs]; rfl
    clear hsl
    go_enter Tryd.func17, Tryd.ntmps17
    go_wp2_with fail
    go_loopw [3] (fun i wr => ∃ (k : Nat), k ≤ s.size ∧ i = .int .i64 k ∧ plainL (s.data.toList.take k) = true ∧ wr = w) (fun i _ => s.size - (intOf i).toNat)
    case atStart => exact ⟨0, Nat.zero_le _, rfl, rfl, rfl⟩
    case round =>
      obtain ⟨k, hk, rfl, hd, rfl⟩ := hrel
      have HD := hidM hd
      clear hd
      by_cases hlt : k < s.size
      · have kk : (k : Int) < (s.size : Int) := by omega
        obtain ⟨c, hcc⟩ : ∃ c, c = s[k].toNat := ⟨_, rfl⟩
        have r0 : (s[k].toNat : Int) = (c : Int) := by omega
        by_cases hc : 32 ≤ s[k].toNat ∧ s[k].toNat ≤ 126
        · have HN : Hid (plainL (s.data.toList.take (k + 1)) = true) := by
            unfold Hid
            rw [take_one s k hlt]
            unfold plainL
            rw [List.all_append, show (s.data.toList.take k).all (fun c => decide (32 ≤ c.toNat ∧ c.toNat ≤ 126)) = true from HD.out]
            simp [hc]
          rw [← hcc] at hc
          obtain ⟨hc1, hc2⟩ := hc
          clear hcc
          have q1 : decide ((c : Int) < 32) = false := by simp; omega
          have q2 : decide ((126 : Int) < (c : Int)) = false := by simp; omega
          go_wp2_with fail
          go_roundw
          case rel => exact ⟨k + 1, by omega, by go_num, HN.out, trivial⟩
          case measure => (show s.size - ((k : Int) + 1).toNat < s.size - ((k : Int)).toNat); omega
        · have HF : Hid (cleanL s.data.toList = false) := by unfold Hid; rw [HCL.out, plain_no s k hlt hc]; rfl
          rw [← hcc] at hc
          clear hcc
          by_cases hc1 : c < 32
          · have q1 : decide ((c : Int) < 32) = true := by simp; omega
            go_wp2_with fail
            go_ret
            exact ⟨by rw [HF.out]; rfl, Below.refl _ _⟩
          · have q1 : decide ((c : Int) < 32) = false := by simp; omega
            have q2 : decide ((126 : Int) < (c : Int)) = true := by simp; omega
            go_wp2_with fail
            go_ret
            exact ⟨by rw [HF.out]; rfl, Below.refl _ _⟩
      · obtain rfl : k = s.size := by omega
        have HPL : Hid (plainL s.data.toList = true) := by
          have := HD.out
          rwa [List.take_of_length_le (by rw [← Lib.size_eq]; exact Nat.le_refl _)] at this
        have HC2 : Hid (cleanL s.data.toList = (partsL s.data.toList).all partOk) := by unfold Hid; rw [HCL.out, HPL.out]; rfl
        clear HCL HD HPL
        generalize partsL s.data.toList = ps at *
        go_wp2_with fail
        refine (HPT.out _).mono ?_
        rintro _ w1 ⟨⟨v, hv, rfl⟩, hb1⟩
        obtain ⟨a, cp, hvv, hst⟩ := hv.strs
        rw [List.length_map] at hvv
        subst hvv
        have HST : Hid (∀ m (h : m < ps.length), ∃ g, a = some ⟨g, 0, none⟩ ∧ w1.cell? ⟨g, m, none⟩ = some (.string (mkB ps[m]))) := fun m h => by
          obtain ⟨g, h1, _, h3⟩ := hst (fun hh => by have := congrArg List.length hh; simp at this; rw [this] at h; simp at h)
          have := h3 m (by simpa using h)
          exact ⟨g, h1, by rw [this]; simp⟩
        have HB1 := hidM hb1
        have hln := HLN.out
        clear hv hb1 hst HPT
        go_wp2_with fail
        go_loopw [28] (fun i wx => ∃ (m : Nat), m ≤ ps.length ∧ i = .int .i64 m ∧ (∀ t (h : t < ps.length), t < m → partOk ps[t] = true) ∧ wx = w1) (fun i _ => ps.length - (intOf i).toNat)
        case atStart => exact ⟨0, Nat.zero_le _, rfl, fun t _ h => by omega, rfl⟩
        case round =>
          obtain ⟨m, hm, rfl, hd, rfl⟩ := hrel
          have HD := hidM hd
          clear hd
          by_cases hml : m < ps.length
          · have mk : (m : Int) < (ps.length : Int) := by omega
            obtain ⟨g, rfl, y0⟩ := HST.out m hml
            have hxd : (mkB ps[m]).toList = ps[m] := by rw [ByteArray.toList_eq]; simp [mkB]
            have HOK : Hid (partOk (mkB ps[m]).toList = true → ∀ t (h : t < ps.length), t < m + 1 → partOk ps[t] = true) := fun he t h ht => by
              rw [hxd] at he
              by_cases h5 : t < m
              · exact HD.out t h h5
              · have : t = m := by omega
                subst this; exact he
            have HNO : Hid (partOk (mkB ps[m]).toList = false → cleanL s.data.toList = false) := fun he => by
              rw [hxd] at he
              rw [HC2.out]
              refine Bool.eq_false_iff.2 fun hall => ?_
              have := List.all_eq_true.1 hall ps[m] (List.getElem_mem hml)
              rw [he] at this; cases this
            clear hxd
            generalize mkB ps[m] = X at *
            by_cases h1 : X.toList = []
            · have HF := hidM (HNO.out (by rw [h1]; rfl))
              have e1 : (X.toList == []) = true := by rw [h1]; rfl
              clear h1
              go_wp2_with fail
              go_ret
              exact ⟨by rw [HF.out]; rfl, HB1.out⟩
            have e1 : (X.toList == []) = false := beq_false_of_ne h1
            by_cases h2 : X.toList = [46]
            · have HF := hidM (HNO.out (by rw [h2]; rfl))
              have e2 : (X.toList == [46]) = true := by rw [h2]; rfl
              clear h1 h2
              go_wp2_with fail
              go_ret
              exact ⟨by rw [HF.out]; rfl, HB1.out⟩
            have e2 : (X.toList == [46]) = false := beq_false_of_ne h2
            by_cases h3 : X.toList = [46, 46]
            · have HF := hidM (HNO.out (by rw [h3]; rfl))
              have e3 : (X.toList == [46, 46]) = true := by rw [h3]; rfl
              clear h1 h2 h3
              go_wp2_with fail
              go_ret
              exact ⟨by rw [HF.out]; rfl, HB1.out⟩
            have e3 : (X.toList == [46, 46]) = false := beq_false_of_ne h3
            have HN := hidM (HOK.out (by unfold partOk; rw [e1, e2, e3]; rfl))
            clear h1 h2 h3
            go_wp2_with fail
            go_roundw
            case rel => exact ⟨m + 1, by omega, by go_num, HN.out, trivial⟩
            case measure => (show ps.length - ((m : Int) + 1).toNat < ps.length - ((m : Int)).toNat); omega
          · have HF : Hid (cleanL s.data.toList = true) := by
              unfold Hid
              rw [HC2.out, List.all_eq_true]
              intro p hp
              obtain ⟨t, ht, rfl⟩ := List.mem_iff_getElem.1 hp
              exact HD.out t ht (by omega)
            obtain rfl : m = ps.length := by omega
            go_wp2_with fail
            go_ret
            exact ⟨by rw [HF.out]; rfl, HB1.out⟩
  · have g : decide ((200 : Int) < (s.size : Int)) = true := by simp; omega
    have HF : Hid (cleanL s.data.toList = false) := by
      unfold Hid cleanL
      rw [show decide (s.data.toList.length ≤ 200) = false by rw [hsl]; simpa using hs]; rfl
    go_enter Tryd.func17, Tryd.ntmps17
    go_wp2_with fail
    go_ret
    exact ⟨by rw [HF.out]; rfl, Below.refl _ _⟩
end Go.Proofs.YtolohndbbnbfbaaDoor
