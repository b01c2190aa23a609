/-
  Paths of modules and of files: firstPart, Path, FilePath.
-/
import Derived.Test.YtgkjmmfpbcgmgaaDoorPthB
namespace Go.Proofs.YtgkjmmfpbcgmgaaDoor
open Go.RowKit

theorem idx_cont (l : List UInt8) (c : UInt8) : decide (0 ≤ Lib.indexByte l c) = l.contains c := by
  induction l with
  | nil => rfl
  | cons b r ih =>
    unfold Lib.indexByte
    rw [List.contains_cons]
    by_cases h : b = c
    · subst h; simp
    · have h2 : (b == c) = false := beq_false_of_ne h
      have h3 : (c == b) = false := beq_false_of_ne (Ne.symm h)
      rw [if_neg (by simp [h]), h3, Bool.false_or, ← ih]
      have hg := Lib.indexByte_ge r c
      by_cases h4 : (Lib.indexByte r c == -1) = true
      · rw [if_pos h4, beq_iff_eq.1 h4]
      · rw [if_neg h4]
        have : Lib.indexByte r c ≠ -1 := by simpa using h4
        rw [decide_eq_decide]; omega
set_option maxHeartbeats 1000000 in
theorem firstPart_any (s : ByteArray) (w : World) (hs : s.size ≤ 200) : Calls Tryd.prog 27 #[.string s] w fun e w' => e = .returned (.bool (fstP s.data.toList)) ∧ w' = w := by
  have HB := hidM (bounded_any s w hs)
  have HE := hidM (each_44 s w hs)
  have HC : Hid (Calls Tryd.prog 34 #[.string s, .string ⟨#[46]⟩] w fun e w' => e = .returned (.bool (s.data.toList.contains 46)) ∧ w' = w) := by
    have := Tryd.strings_Contains_one s 46 w
    rw [idx_cont] at this
    exact this
  have HR : Hid (fstP s.data.toList = (bndL s.data.toList && s.data.toList.all fstB && s.data.toList.contains 46 && !(s.data.toList.head? == some 45))) := rfl
  by_cases h0 : bndL s.data.toList = true
  · have hp : 0 < s.size := by
      unfold bndL at h0
      rw [← sl_len]
      cases hl : s.data.toList with
      | nil => rw [hl] at h0; simp at h0
      | cons _ _ => simp
    have HH : Hid (s.data.toList.head? = some s[0]) := by
      unfold Hid
      rw [List.head?_eq_getElem?, ba_at s 0 hp]
    rw [h0] at HB HR
    have hp2 : (0 : Int) < (s.size : Int) := by omega
    rw [HH.out] at HR
    clear h0 HH
    generalize s.data.toList.all fstB = B at *
    generalize s.data.toList.contains 46 = C at *
    have HN : Hid ((some s[0] == some (45 : UInt8)) = (((s[0].toNat : Nat) : Int) == 45)) := by
      unfold Hid
      rw [Bool.eq_iff_iff, beq_iff_eq, beq_iff_eq, Option.some.injEq]
      constructor
      · intro h; rw [h]; rfl
      · intro h; exact UInt8.toNat_inj.1 (by have : (45 : UInt8).toNat = 45 := rfl; omega)
    rw [HN.out] at HR
    clear HN
    cases B with
    | false =>
      go_enter Tryd.func27, Tryd.ntmps27
      go_wp2_with (first
        | (go_at_call 29; with_reducible refine HB.out.mono ?_; rintro _ _ ⟨rfl, rfl⟩)
        | (go_at_call 30; with_reducible refine HE.out.mono ?_; rintro _ _ ⟨rfl, rfl⟩))
      go_ret
      exact ⟨by rw [HR.out]; rfl, rfl⟩
    | true =>
      cases C with
      | false =>
        go_enter Tryd.func27, Tryd.ntmps27
        go_wp2_with (first
          | (go_at_call 29; with_reducible refine HB.out.mono ?_; rintro _ _ ⟨rfl, rfl⟩)
          | (go_at_call 30; with_reducible refine HE.out.mono ?_; rintro _ _ ⟨rfl, rfl⟩)
          | (go_at_call 34; with_reducible refine HC.out.mono ?_; rintro _ _ ⟨rfl, rfl⟩))
        go_ret
        exact ⟨by rw [HR.out]; rfl, rfl⟩
      | true =>
        go_enter Tryd.func27, Tryd.ntmps27
        go_wp2_with (first
          | (go_at_call 29; with_reducible refine HB.out.mono ?_; rintro _ _ ⟨rfl, rfl⟩)
          | (go_at_call 30; with_reducible refine HE.out.mono ?_; rintro _ _ ⟨rfl, rfl⟩)
          | (go_at_call 34; with_reducible refine HC.out.mono ?_; rintro _ _ ⟨rfl, rfl⟩))
        go_ret
        exact ⟨by rw [HR.out]; rfl, rfl⟩
  · have h1 : bndL s.data.toList = false := Bool.eq_false_iff.2 h0
    rw [h1] at HB HR
    clear h0 h1
    go_enter Tryd.func27, Tryd.ntmps27
    go_wp2_with (go_at_call 29; with_reducible refine HB.out.mono ?_; rintro _ _ ⟨rfl, rfl⟩)
    go_ret
    exact ⟨by rw [HR.out]; rfl, rfl⟩
theorem path_cut (l : List UInt8) (h : l.length ≤ 200) : pathL l = (fstP (cutR 47 l).1 && (!(cutR 47 l).2.2 || (partsL (cutR 47 l).2.1).all othP)) := by
  unfold pathL cutR
  cases hc : splitC 47 l with
  | none =>
    rw [partsL_none l (split_none hc).2]
    simp [h]
  | some x =>
    obtain ⟨p, q⟩ := x
    obtain ⟨_, h2, h3⟩ := split_some hc
    have : partsL l = p :: partsL q := by
      conv => lhs; rw [h2]
      rw [partsL_app, partsL_none p h3]; rfl
    rw [this]
    simp [h]
theorem mkl (l : List UInt8) : (⟨l.toArray⟩ : ByteArray).data.toList = l := rfl
set_option maxHeartbeats 2000000 in
theorem path_any (s : ByteArray) (w : World) : Calls Tryd.prog 16 #[.string s] w fun e w' => e = .returned (.bool (pathL s.data.toList)) ∧ Below w.heap.size w w' := by
  by_cases hs : s.size ≤ 200
  · have g : ¬ (200 : Int) < (s.size : Int) := by omega
    have HC := hidM (cut_any s 47 w (by omega))
    have HP := hidM (path_cut s.data.toList (by rw [sl_len]; omega))
    have hl1 : (cutR 47 s.data.toList).1.length ≤ 200 ∧ (cutR 47 s.data.toList).2.1.length ≤ 200 := by
      unfold cutR
      cases hc : splitC 47 s.data.toList with
      | none => exact ⟨by rw [sl_len]; omega, by simp⟩
      | some x =>
        obtain ⟨p, q⟩ := x
        obtain ⟨_, h2, _⟩ := split_some hc
        have := congrArg List.length h2
        rw [sl_len] at this
        simp at this
        exact ⟨by simp; omega, by simp; omega⟩
    generalize pathL s.data.toList = R at *
    generalize cutR 47 s.data.toList = Z at *
    obtain ⟨p, q, more⟩ := Z
    simp only at HC HP hl1
    have HF := hidM (fun W => firstPart_any ⟨p.toArray⟩ W (by show p.toArray.size ≤ 200; simpa using hl1.1))
    rw [mkl] at HF
    have HS := hidM (fun W => split_any ⟨q.toArray⟩ W (by show q.toArray.size ≤ 200; simpa using hl1.2))
    have HQ : Hid ((partsB ⟨q.toArray⟩).map (fun b => b.data.toList) = partsL q) := parts_eq ⟨q.toArray⟩
    have hpl : (partsB ⟨q.toArray⟩).length ≤ 201 ∧ ∀ x ∈ partsB ⟨q.toArray⟩, x.size ≤ 200 := by
      refine ⟨?_, fun x hx => ?_⟩
      · have := Lib.splitB_length_le slash 0 (Lib.countB ⟨q.toArray⟩ slash) ⟨q.toArray⟩
        have h2 := Lib.countB_le slash (by decide) (⟨q.toArray⟩ : ByteArray).size ⟨q.toArray⟩ (Nat.le_refl _)
        have h3 : (⟨q.toArray⟩ : ByteArray).size = q.length := by show q.toArray.size = _; simp
        unfold partsB; omega
      · have := parts_le q x.data.toList (by rw [← HQ.out]; exact List.mem_map_of_mem hx)
        rw [sl_len] at this; omega
    unfold slash at HS
    generalize (⟨p.toArray⟩ : ByteArray) = P at *
    generalize fstP p = A at *
    cases A with
    | false =>
      have HR : Hid (R = false) := by rw [HP.out]; rfl
      clear HP HS
      go_enter Tryd.func16, Tryd.ntmps16
      go_wp2_with fail
      refine HC.out.mono ?_
      rintro _ _ ⟨rfl, m, rfl⟩
      go_wp2_with (go_at_call 27; with_reducible refine (HF.out _).mono ?_; rintro _ _ ⟨rfl, rfl⟩)
      go_ret
      exact ⟨by rw [HR.out]; rfl, (Below.refl _ w).trans ⟨rfl, rfl, rfl, by simp, fun k _ => by simp⟩⟩
    | true =>
      cases more with
      | false =>
        have HR : Hid (R = true) := by rw [HP.out]; rfl
        clear HP HS
        go_enter Tryd.func16, Tryd.ntmps16
        go_wp2_with fail
        refine HC.out.mono ?_
        rintro _ _ ⟨rfl, m, rfl⟩
        go_wp2_with (go_at_call 27; with_reducible refine (HF.out _).mono ?_; rintro _ _ ⟨rfl, rfl⟩)
        go_ret
        exact ⟨by rw [HR.out]; rfl, (Below.refl _ w).trans ⟨rfl, rfl, rfl, by simp, fun k _ => by simp⟩⟩
      | true =>
        have HR : Hid (R = (partsB ⟨q.toArray⟩).all fun b => othP b.data.toList) := by
          unfold Hid
          rw [HP.out, ← HQ.out, List.all_map]
          simp
          rfl
        clear HP HQ
        generalize (⟨q.toArray⟩ : ByteArray) = Q at *
        generalize partsB Q = ps at *
        obtain ⟨hp1, hp2⟩ := hpl
        have HB0 : Hid (∀ m, Below w.heap.size w (w.drewN m)) := fun m => (Below.refl _ w).trans ⟨rfl, rfl, rfl, by simp, fun k _ => by simp⟩
        go_enter Tryd.func16, Tryd.ntmps16
        go_wp2_with fail
        refine HC.out.mono ?_
        rintro _ w1 ⟨rfl, m, h1⟩
        have HB1 : Hid (Below w.heap.size w w1) := by rw [h1]; exact HB0.out m
        clear h1 HB0
        go_wp2_with fail
        refine (HF.out _).mono ?_
        rintro _ w1b ⟨rfl, hw⟩
        rw [hw]
        clear hw
        go_wp2_with fail
        refine (HS.out _).mono ?_
        rintro _ w2 ⟨rfl, h2⟩
        have HCE : Hid (∀ j (h : j < ps.length), w2.cell? ⟨w1.heap.size, j, none⟩ = some (.string ps[j])) := by
          intro j h
          rw [h2, World.cell?_alloc_mark w1 _ 9 (0, 0) j]
          simp [h]
        have HB2 : Hid (Below w.heap.size w w2) := by rw [h2]; exact HB1.out.alloc HB1.out.size _
        clear h2 HB1 HS HC
        generalize w1.heap.size = g0 at *
        go_wp2
        go_loopw [7, 25, 26, 27, 28, 29, 30, 31, 32, 33, 34, 35, 36, 37] (fun _ v _ _ _ _ _ _ _ _ _ _ _ _ wr => ∃ k : Nat, k ≤ ps.length ∧ v = .int .i64 (k : Int) ∧ (ps.take k).all (fun b => othP b.data.toList) = true ∧ wr = w2) (fun _ v _ _ _ _ _ _ _ _ _ _ _ _ _ => ps.length - (intOf v).toNat)
        case atStart => exact ⟨0, Nat.zero_le _, rfl, rfl, rfl⟩
        case round =>
          obtain ⟨k, hk, rfl, hd, rfl⟩ := hrel
          have HD := hidM hd
          clear hd
          by_cases hlt : k < ps.length
          · have kk : (k : Int) < (ps.length : Int) := by omega
            have hc := HCE.out k hlt
            have hz := hp2 ps[k] (List.getElem_mem _)
            have HBN := hidM (bounded_any ps[k] wr hz)
            have HEA := hidM (each_31 ps[k] wr hz)
            have HT : Hid ((ps.take (k + 1)).all (fun b => othP b.data.toList) = (bndL ps[k].data.toList && ps[k].data.toList.all plnB)) := by
              unfold Hid
              rw [List.take_succ_eq_append_getElem hlt, List.all_append, HD.out]
              simp [othP]
            have HNO : Hid ((bndL ps[k].data.toList && ps[k].data.toList.all plnB) = false → R = false) := by
              intro h
              rw [HR.out, List.all_eq_false]
              exact ⟨ps[k], List.getElem_mem _, by unfold othP; rw [h]; exact Bool.false_ne_true⟩
            generalize bndL ps[k].data.toList = A at *
            generalize ps[k].data.toList.all plnB = B at *
            generalize ps[k] = X at *
            clear hz
            cases A with
            | false =>
              have HN2 := hidM (HNO.out rfl)
              clear HNO HT
              go_wp2_with (go_at_call 29; with_reducible refine HBN.out.mono ?_; rintro _ _ ⟨rfl, rfl⟩)
              go_ret
              exact ⟨by rw [HN2.out]; rfl, HB2.out⟩
            | true =>
              cases B with
              | false =>
                have HN2 := hidM (HNO.out rfl)
                clear HNO HT
                go_wp2_with (first
                  | (go_at_call 29; with_reducible refine HBN.out.mono ?_; rintro _ _ ⟨rfl, rfl⟩)
                  | (go_at_call 30; with_reducible refine HEA.out.mono ?_; rintro _ _ ⟨rfl, rfl⟩))
                go_ret
                exact ⟨by rw [HN2.out]; rfl, HB2.out⟩
              | true =>
                clear HNO
                go_wp2_with (first
                  | (go_at_call 29; with_reducible refine HBN.out.mono ?_; rintro _ _ ⟨rfl, rfl⟩)
                  | (go_at_call 30; with_reducible refine HEA.out.mono ?_; rintro _ _ ⟨rfl, rfl⟩))
                go_roundw
                case rel => exact ⟨k + 1, by omega, by go_num, HT.out, trivial⟩
                case measure => (show ps.length - ((k : Int) + 1).toNat < ps.length - ((k : Int)).toNat); omega
          · obtain rfl : k = ps.length := by omega
            have HF : Hid (R = true) := by
              have := HD.out
              rw [List.take_of_length_le (Nat.le_refl _)] at this
              rw [HR.out]; exact this
            go_wp2
            go_ret
            exact ⟨by rw [HF.out]; rfl, HB2.out⟩
  · have g : (200 : Int) < (s.size : Int) := by omega
    have HR : Hid (pathL s.data.toList = false) := by unfold Hid pathL; rw [decide_eq_false (by rw [sl_len]; omega)]; rfl
    go_enter Tryd.func16, Tryd.ntmps16
    go_wp2
    go_ret
    exact ⟨by rw [HR.out]; rfl, Below.refl _ _⟩
end Go.Proofs.YtgkjmmfpbcgmgaaDoor
