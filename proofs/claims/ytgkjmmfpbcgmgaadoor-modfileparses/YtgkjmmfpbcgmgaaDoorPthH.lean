/-
  The document's Path of module files.
-/
import Derived.Test.YtgkjmmfpbcgmgaaDoorPthG
namespace Go.Proofs.YtgkjmmfpbcgmgaaDoor
open Go.RowKit

def bytR (i : Nat) (c : UInt8) : Bool := if i = 0 then fstB c else plnB c
def parR (i : Nat) (p : List UInt8) : Bool := bndL p && p.all (bytR i) && (!(i == 0) || (p.contains 46 && !(p.head? == some 45)))
theorem parR_zero (p : List UInt8) : parR 0 p = fstP p := by
  unfold parR fstP
  rw [show bytR 0 = fstB from rfl]
  cases bndL p <;> simp [Bool.and_assoc]
theorem parR_more (i : Nat) (h : i ≠ 0) (p : List UInt8) : parR i p = othP p := by
  unfold parR othP
  rw [show bytR i = plnB from by funext c; unfold bytR; rw [if_neg h]]
  simp [h]
theorem cont_snoc (l : List UInt8) (x : UInt8) : (l ++ [x]).contains 46 = (l.contains 46 || x == 46) := by
  rw [Bool.eq_iff_iff]
  simp only [List.contains_eq_mem, List.mem_append, List.mem_singleton, decide_eq_true_eq, Bool.or_eq_true, beq_iff_eq]
  constructor
  · rintro (h | h)
    · exact .inl h
    · exact .inr h.symm
  · rintro (h | h)
    · exact .inl h
    · exact .inr h.symm
theorem path_all (l : List UInt8) (h : l.length ≤ 200) : pathL l = true ↔ ∀ k (hk : k < (partsL l).length), parR k (partsL l)[k] = true := by
  unfold pathL
  rw [decide_eq_true h, Bool.true_and]
  cases hp : partsL l with
  | nil => exact absurd hp (partsL_ne l)
  | cons x t =>
    simp only [Bool.and_eq_true]
    constructor
    · rintro ⟨h1, h2⟩ k hk
      cases k with
      | zero => rw [parR_zero]; exact h1
      | succ k => rw [parR_more _ (by omega)]; exact List.all_eq_true.1 h2 _ (by simp)
    · intro h
      refine ⟨by have := h 0 (by simp); rw [parR_zero] at this; exact this, List.all_eq_true.2 fun p hm => ?_⟩
      obtain ⟨k, hk, rfl⟩ := List.getElem_of_mem hm
      have := h (k + 1) (by simpa using hk)
      rw [parR_more _ (by omega)] at this
      exact this
theorem parts_at (s : ByteArray) (k : Nat) (hk : k < (rpB s s.size).length) : (rpB s s.size)[k].data.toList = (partsL s.data.toList)[k]'(by rw [rpB_all] at hk; simpa using hk) := by
  simp only [rpB_all, List.getElem_map]; rfl
theorem path_parR (s : ByteArray) (h : s.size ≤ 200) : pathL s.data.toList = true ↔ ∀ k (hk : k < (rpB s s.size).length), parR k (rpB s s.size)[k].data.toList = true := by
  rw [path_all _ (by rw [sl_len]; exact h)]
  constructor
  · intro hh k hk; rw [parts_at s k hk]; exact hh k _
  · intro hh k hk; have := hh k (by rw [rpB_all]; simpa using hk); rw [parts_at] at this; exact this
theorem u8_eq (c : UInt8) (n : Nat) (hn : n < 256) : (((c.toNat : Nat) : Int) == (n : Int)) = (c == UInt8.ofNat n) := by
  rw [Bool.eq_iff_iff, beq_iff_eq, beq_iff_eq]
  constructor
  · intro h; exact UInt8.toNat_inj.1 (by rw [UInt8.toNat_ofNat']; omega)
  · intro h; rw [h, UInt8.toNat_ofNat']; omega
set_option maxHeartbeats 8000000 in
set_option maxRecDepth 100000 in
theorem rpath_any (s : ByteArray) (w : World) : Calls Tryd.prog 15 #[.string s] w fun e w' => e = .returned (.bool (pathL s.data.toList)) ∧ Below w.heap.size w w' := by
  by_cases hs : s.size ≤ 200
  · have g200 : ¬ (200 : Int) < (s.size : Int) := by omega
    have HRP := hidM (fun V => rparts_any s V (by omega))
    have HPP := hidM (path_parR s hs)
    have HPZ := hidM (rpB_size s s.size)
    have hpl := (rpB_len s s.size).1
    have hpl0 := (rpB_len s s.size).2
    generalize rpB s s.size = ps at *
    generalize pathL s.data.toList = R at *
    go_enter Tryd.func15, Tryd.ntmps15
    go_wp2_with fail
    refine (HRP.out _).mono ?_
    rintro _ w2 ⟨⟨v2, hown, rfl⟩, hb2⟩
    obtain ⟨a, c, rfl, hsh⟩ := hown.shape
    obtain ⟨g, rfl, _, hg, hat⟩ := hsh (by intro e; rw [e] at hpl0; simp at hpl0)
    have HAT := hidM hat
    have HB2 := hidM hb2
    clear hown hsh hat hb2 HRP
    obtain ⟨n, hn⟩ : ∃ n, n = ps.length := ⟨_, rfl⟩
    rw [← hn] at hpl ⊢
    have HN := hidM hn
    clear hn hpl0
    go_wp2
    go_loopw [3, 4, 5, 6, 7, 14, 15, 16, 17, 18, 19, 20, 21, 22, 23, 24, 25, 26, 27, 28, 29, 30, 31, 32, 33, 34, 35, 36, 37, 38, 39, 40, 41, 42, 43, 44, 45, 46, 47, 48, 49, 50, 51, 52, 53, 54, 55, 56, 57, 58, 59, 60, 61, 62, 63, 64, 65, 66, 67, 68, 69, 70, 71, 72, 73, 74, 75, 76, 77, 78, 79, 80, 81, 82, 83, 84, 85, 86, 87, 88, 89, 90, 91, 92, 93, 94, 95, 96, 97, 98, 99, 100] (fun _ _ _ _ _ v14 _ _ _ _ _ _ _ _ _ _ _ _ _ _ _ _ _ _ _ _ _ _ _ _ _ _ _ _ _ _ _ _ _ _ _ _ _ _ _ _ _ _ _ _ _ _ _ _ _ _ _ _ _ _ _ _ _ _ _ _ _ _ _ _ _ _ _ _ _ _ _ _ _ _ _ _ _ _ _ _ _ _ _ _ _ _ wr => ∃ k : Nat, k ≤ n ∧ v14 = .int .i64 (k : Int) ∧ (∀ m (hm : m < ps.length), m < k → parR m ps[m].data.toList = true) ∧ wr = w2) (fun _ _ _ _ _ v14 _ _ _ _ _ _ _ _ _ _ _ _ _ _ _ _ _ _ _ _ _ _ _ _ _ _ _ _ _ _ _ _ _ _ _ _ _ _ _ _ _ _ _ _ _ _ _ _ _ _ _ _ _ _ _ _ _ _ _ _ _ _ _ _ _ _ _ _ _ _ _ _ _ _ _ _ _ _ _ _ _ _ _ _ _ _ _ => n - (intOf v14).toNat)
    case atStart => exact ⟨0, Nat.zero_le _, rfl, fun m _ h => by omega, rfl⟩
    case round =>
      obtain ⟨k, hk, rfl, hd, hw⟩ := hrel
      have HD := hidM hd
      clear hd
      subst hw
      by_cases hlt : k < n
      · have kk : (k : Int) < (n : Int) := by omega
        have hkp : k < ps.length := by rw [← HN.out]; exact hlt
        have hc := HAT.out k hkp
        have hz := HPZ.out ps[k] (List.getElem_mem _)
        have HNO : Hid (parR k ps[k].data.toList = false → R = false) := fun h => Bool.eq_false_iff.2 fun hR => by
          have := HPP.out.1 hR k hkp
          rw [h] at this; cases this
        have HNX : Hid (parR k ps[k].data.toList = true → ∀ m (hm : m < ps.length), m < k + 1 → parR m ps[m].data.toList = true) := fun h m hm hmk => by
          by_cases e : m = k
          · subst e; exact h
          · exact HD.out m hm (by omega)
        clear HD
        generalize ps[k] = X at *
        have HNU : Hid (bndL X.data.toList = false → R = false) := fun h => HNO.out (by unfold parR; rw [h]; rfl)
        by_cases h0 : X.size = 0
        · have b0 : X.toList.isEmpty = true := by rw [Lib.toList_data, List.length_eq_zero_iff.1 (show X.data.toList.length = 0 by rw [sl_len]; exact h0)]; rfl
          have HN2 := hidM (HNU.out (by rw [List.length_eq_zero_iff.1 (show X.data.toList.length = 0 by rw [sl_len]; exact h0)]; rfl))
          clear h0
          go_wp2
          go_ret
          exact ⟨by rw [HN2.out]; rfl, HB2.out⟩
        have b0 : X.toList.isEmpty = false := by
          rw [Lib.toList_data]
          cases hl : X.data.toList with
          | nil => exact absurd (by rw [← sl_len, hl]; rfl) h0
          | cons _ _ => rfl
        obtain ⟨xm, hxm⟩ : ∃ xm, X.size = xm + 1 := ⟨X.size - 1, by omega⟩
        have e0 : (0 : Int) < (X.size : Int) := by omega
        have e1 : (X.size : Int) - 1 = (xm : Int) := by omega
        have e2 : (xm : Int) < (X.size : Int) := by omega
        have hxl : xm < X.size := by omega
        have hx0 : 0 < X.size := by omega
        have HHD : Hid (X.data.toList.head? = some X[0]) := by unfold Hid; rw [List.head?_eq_getElem?, ba_at X 0 hx0]
        have HLS : Hid (X.data.toList.getLast? = some X[xm]) := by unfold Hid; rw [List.getLast?_eq_getElem?, sl_len, hxm, show xm + 1 - 1 = xm from rfl, ba_at X xm hxl]
        have HBN : Hid (bndL X.data.toList = (!(X[0] == 46) && !(X[xm] == 46))) := by
          unfold Hid bndL
          rw [HHD.out, HLS.out, ← Lib.toList_data, b0]; rfl
        have t0 : ((((X[0].toNat : Nat) : Int)) == 46) = (X[0] == 46) := u8_eq _ 46 (by omega)
        have t1 : ((((X[xm].toNat : Nat) : Int)) == 46) = (X[xm] == 46) := u8_eq _ 46 (by omega)
        have t2 : ((((X[0].toNat : Nat) : Int)) == 45) = (X[0] == 45) := u8_eq _ 45 (by omega)
        have HPR : Hid (parR k X.data.toList = (bndL X.data.toList && X.data.toList.all (bytR k) && (!(k == 0) || (X.data.toList.contains 46 && !(X[0] == 45))))) := by
          unfold Hid parR
          rw [HHD.out]; rfl
        clear h0 HHD HLS
        have HXM := hidM hxm
        clear hxm
        generalize (X[0] == 46) = T0 at *
        generalize (X[xm] == 46) = T1 at *
        generalize (X[0] == 45) = T2 at *
        cases T0 with
        | true =>
          have HN2 := hidM (HNU.out (by rw [HBN.out]; rfl))
          clear HNU HNO HNX HBN HPR t1 t2
          go_wp2
          go_ret
          exact ⟨by rw [HN2.out]; rfl, HB2.out⟩
        | false =>
        cases T1 with
        | true =>
          have HN2 := hidM (HNU.out (by rw [HBN.out]; rfl))
          clear HNU HNO HNX HBN HPR t2
          go_wp2
          go_ret
          exact ⟨by rw [HN2.out]; rfl, HB2.out⟩
        | false =>
        have HPQ : Hid (parR k X.data.toList = (X.data.toList.all (bytR k) && (!(k == 0) || (X.data.toList.contains 46 && !T2)))) := by unfold Hid; rw [HPR.out, HBN.out]; rfl
        clear HBN HPR HNU
        obtain ⟨W2, hW2⟩ : ∃ V : World, V = wr := ⟨_, rfl⟩
        subst hW2
        go_wp2
        go_loopw [5, 6, 7, 34, 35, 36, 37, 38, 39, 40, 41, 42, 43, 44, 45, 46, 47, 48, 49, 50, 51, 52, 53, 54, 55, 56, 57, 58, 59, 60, 61, 62, 63, 64, 65, 66, 67, 68, 69, 70, 71, 72, 73, 74, 75, 76, 77, 78, 79, 80, 81, 82, 83, 84, 85, 86, 87, 88] (fun v5 v6 _ _ _ _ _ _ _ _ _ _ _ _ _ _ _ _ _ _ _ _ _ _ _ _ _ _ _ _ _ _ _ _ _ _ _ _ _ _ _ _ _ _ _ _ _ _ _ _ _ _ _ _ _ _ _ _ wr => ∃ (j : Nat) (D : Bool), j ≤ X.size ∧ v6 = .int .i64 (j : Int) ∧ v5 = .bool D ∧ (X.data.toList.take j).contains 46 = D ∧ (X.data.toList.take j).all (bytR k) = true ∧ wr = W2) (fun _ v6 _ _ _ _ _ _ _ _ _ _ _ _ _ _ _ _ _ _ _ _ _ _ _ _ _ _ _ _ _ _ _ _ _ _ _ _ _ _ _ _ _ _ _ _ _ _ _ _ _ _ _ _ _ _ _ _ _ => X.size - (intOf v6).toNat)
        case atStart => exact ⟨0, false, Nat.zero_le _, rfl, rfl, rfl, rfl, rfl⟩
        case round =>
          obtain ⟨j, D, hj, rfl, rfl, hD, hall, hw⟩ := hrel
          have HDJ := hidM hD
          have HAL := hidM hall
          clear hD hall
          subst hw
          by_cases hjl : j < X.size
          · have jj : (j : Int) < (X.size : Int) := by omega
            have HT1 : Hid ((X.data.toList.take (j + 1)).contains 46 = (D || X[j] == 46)) := by
              unfold Hid
              rw [take_one X j hjl, cont_snoc, HDJ.out]
            have HT2 : Hid ((X.data.toList.take (j + 1)).all (bytR k) = bytR k X[j]) := by
              unfold Hid
              rw [take_one X j hjl, List.all_append, HAL.out]
              simp
            have HBAD : Hid (bytR k X[j] = false → R = false) := fun h => HNO.out (by
              rw [HPQ.out, show X.data.toList.all (bytR k) = false from List.all_eq_false.2 ⟨_, getL X j hjl, by rw [h]; exact Bool.false_ne_true⟩]; rfl)
            have HFB : Hid (bytR k X[j] = if k = 0 then fstB X[j] else plnB X[j]) := rfl
            have t46 : ((((X[j].toNat : Nat) : Int)) == 46) = (X[j] == 46) := u8_eq _ 46 (by omega)
            have HF1 := hidM (fstB_of X[j])
            have HF2 := hidM (plnB_of X[j])
            have hcn := X[j].toNat_lt
            clear HNO HNX HPQ HAL HDJ t0 t1 t2
            generalize bytR k X[j] = BB at *
            generalize plnB X[j] = FP at *
            generalize fstB X[j] = FB at *
            generalize (X[j] == 46) = E46 at *
            clear hc
            cases D
            · as_aux_lemma =>
                rcases (show (0 ≤ X[j].toNat ∧ X[j].toNat ≤ 44) ∨ (45 ≤ X[j].toNat ∧ X[j].toNat ≤ 45) ∨ (46 ≤ X[j].toNat ∧ X[j].toNat ≤ 46) ∨ (47 ≤ X[j].toNat ∧ X[j].toNat ≤ 47) ∨ (48 ≤ X[j].toNat ∧ X[j].toNat ≤ 57) ∨ (58 ≤ X[j].toNat ∧ X[j].toNat ≤ 64) ∨ (65 ≤ X[j].toNat ∧ X[j].toNat ≤ 90) ∨ (91 ≤ X[j].toNat ∧ X[j].toNat ≤ 94) ∨ (95 ≤ X[j].toNat ∧ X[j].toNat ≤ 95) ∨ (96 ≤ X[j].toNat ∧ X[j].toNat ≤ 96) ∨ (97 ≤ X[j].toNat ∧ X[j].toNat ≤ 122) ∨ (123 ≤ X[j].toNat ∧ X[j].toNat ≤ 125) ∨ (126 ≤ X[j].toNat ∧ X[j].toNat ≤ 126) ∨ (127 ≤ X[j].toNat ∧ X[j].toNat ≤ 255) by omega) with h | h | h | h | h | h | h | h | h | h | h | h | h | h
                · obtain ⟨h1, h2⟩ := h
                  have b0 : decide ((97 : Int) ≤ (X[j].toNat : Int)) = false := by simp; omega
                  have b1 : decide ((X[j].toNat : Int) ≤ 122) = true := by simp; omega
                  have b2 : decide ((48 : Int) ≤ (X[j].toNat : Int)) = false := by simp; omega
                  have b3 : decide ((X[j].toNat : Int) ≤ 57) = true := by simp; omega
                  have b4 : decide ((65 : Int) ≤ (X[j].toNat : Int)) = false := by simp; omega
                  have b5 : decide ((X[j].toNat : Int) ≤ 90) = true := by simp; omega
                  have q0 : ((X[j].toNat : Int) == 46) = false := by simp; omega
                  have q1 : ((X[j].toNat : Int) == 45) = false := by simp; omega
                  have q2 : ((X[j].toNat : Int) == 95) = false := by simp; omega
                  have q3 : ((X[j].toNat : Int) == 126) = false := by simp; omega
                  have hFB : FB = false := by rw [HF1.out, Bool.eq_iff_iff]; simp; omega
                  have hFP : FP = false := by rw [HF2.out, hFB, Bool.eq_iff_iff]; simp; omega
                  have hE : E46 = false := by rw [← t46]; exact q0
                  subst hE
                  rw [hFB, hFP] at HFB
                  clear h1 h2 hFB hFP HF1 HF2 t46 hcn
                  have HN2 := hidM (HBAD.out (by rw [HFB.out]; split <;> rfl))
                  clear HBAD HFB HT1 HT2
                  by_cases hk0 : k = 0
                  · have z0 : ((k : Int) == 0) = true := by rw [hk0]; rfl
                    clear hk0
                    go_wp2
                    go_ret
                    exact ⟨by rw [HN2.out]; rfl, HB2.out⟩
                  · have z0 : ((k : Int) == 0) = false := by simp; omega
                    clear hk0
                    go_wp2
                    go_ret
                    exact ⟨by rw [HN2.out]; rfl, HB2.out⟩
                · obtain ⟨h1, h2⟩ := h
                  have b0 : decide ((97 : Int) ≤ (X[j].toNat : Int)) = false := by simp; omega
                  have b1 : decide ((X[j].toNat : Int) ≤ 122) = true := by simp; omega
                  have b2 : decide ((48 : Int) ≤ (X[j].toNat : Int)) = false := by simp; omega
                  have b3 : decide ((X[j].toNat : Int) ≤ 57) = true := by simp; omega
                  have b4 : decide ((65 : Int) ≤ (X[j].toNat : Int)) = false := by simp; omega
                  have b5 : decide ((X[j].toNat : Int) ≤ 90) = true := by simp; omega
                  have q0 : ((X[j].toNat : Int) == 46) = false := by simp; omega
                  have q1 : ((X[j].toNat : Int) == 45) = true := by simp; omega
                  have q2 : ((X[j].toNat : Int) == 95) = false := by simp; omega
                  have q3 : ((X[j].toNat : Int) == 126) = false := by simp; omega
                  have hFB : FB = true := by rw [HF1.out, Bool.eq_iff_iff]; simp; omega
                  have hFP : FP = true := by rw [HF2.out, hFB, Bool.eq_iff_iff]; simp
                  have hE : E46 = false := by rw [← t46]; exact q0
                  subst hE
                  rw [hFB, hFP] at HFB
                  clear h1 h2 hFB hFP HF1 HF2 t46 hcn
                  have HG : Hid (BB = true) := by unfold Hid; rw [HFB.out]; split <;> rfl
                  rw [HG.out] at HT2
                  clear HBAD HFB
                  go_wp2
                  go_roundw
                  case rel => exact ⟨j + 1, _, by omega, by go_num, rfl, by rw [HT1.out]; rfl, HT2.out, trivial⟩
                  case measure => (show X.size - ((j : Int) + 1).toNat < X.size - ((j : Int)).toNat); omega
                · obtain ⟨h1, h2⟩ := h
                  have b0 : decide ((97 : Int) ≤ (X[j].toNat : Int)) = false := by simp; omega
                  have b1 : decide ((X[j].toNat : Int) ≤ 122) = true := by simp; omega
                  have b2 : decide ((48 : Int) ≤ (X[j].toNat : Int)) = false := by simp; omega
                  have b3 : decide ((X[j].toNat : Int) ≤ 57) = true := by simp; omega
                  have b4 : decide ((65 : Int) ≤ (X[j].toNat : Int)) = false := by simp; omega
                  have b5 : decide ((X[j].toNat : Int) ≤ 90) = true := by simp; omega
                  have q0 : ((X[j].toNat : Int) == 46) = true := by simp; omega
                  have q1 : ((X[j].toNat : Int) == 45) = false := by simp; omega
                  have q2 : ((X[j].toNat : Int) == 95) = false := by simp; omega
                  have q3 : ((X[j].toNat : Int) == 126) = false := by simp; omega
                  have hFB : FB = true := by rw [HF1.out, Bool.eq_iff_iff]; simp; omega
                  have hFP : FP = true := by rw [HF2.out, hFB, Bool.eq_iff_iff]; simp
                  have hE : E46 = true := by rw [← t46]; exact q0
                  subst hE
                  rw [hFB, hFP] at HFB
                  clear h1 h2 hFB hFP HF1 HF2 t46 hcn
                  have HG : Hid (BB = true) := by unfold Hid; rw [HFB.out]; split <;> rfl
                  rw [HG.out] at HT2
                  clear HBAD HFB
                  go_wp2
                  go_roundw
                  case rel => exact ⟨j + 1, _, by omega, by go_num, rfl, by rw [HT1.out]; rfl, HT2.out, trivial⟩
                  case measure => (show X.size - ((j : Int) + 1).toNat < X.size - ((j : Int)).toNat); omega
                · obtain ⟨h1, h2⟩ := h
                  have b0 : decide ((97 : Int) ≤ (X[j].toNat : Int)) = false := by simp; omega
                  have b1 : decide ((X[j].toNat : Int) ≤ 122) = true := by simp; omega
                  have b2 : decide ((48 : Int) ≤ (X[j].toNat : Int)) = false := by simp; omega
                  have b3 : decide ((X[j].toNat : Int) ≤ 57) = true := by simp; omega
                  have b4 : decide ((65 : Int) ≤ (X[j].toNat : Int)) = false := by simp; omega
                  have b5 : decide ((X[j].toNat : Int) ≤ 90) = true := by simp; omega
                  have q0 : ((X[j].toNat : Int) == 46) = false := by simp; omega
                  have q1 : ((X[j].toNat : Int) == 45) = false := by simp; omega
                  have q2 : ((X[j].toNat : Int) == 95) = false := by simp; omega
                  have q3 : ((X[j].toNat : Int) == 126) = false := by simp; omega
                  have hFB : FB = false := by rw [HF1.out, Bool.eq_iff_iff]; simp; omega
                  have hFP : FP = false := by rw [HF2.out, hFB, Bool.eq_iff_iff]; simp; omega
                  have hE : E46 = false := by rw [← t46]; exact q0
                  subst hE
                  rw [hFB, hFP] at HFB
                  clear h1 h2 hFB hFP HF1 HF2 t46 hcn
                  have HN2 := hidM (HBAD.out (by rw [HFB.out]; split <;> rfl))
                  clear HBAD HFB HT1 HT2
                  by_cases hk0 : k = 0
                  · have z0 : ((k : Int) == 0) = true := by rw [hk0]; rfl
                    clear hk0
                    go_wp2
                    go_ret
                    exact ⟨by rw [HN2.out]; rfl, HB2.out⟩
                  · have z0 : ((k : Int) == 0) = false := by simp; omega
                    clear hk0
                    go_wp2
                    go_ret
                    exact ⟨by rw [HN2.out]; rfl, HB2.out⟩
                · obtain ⟨h1, h2⟩ := h
                  have b0 : decide ((97 : Int) ≤ (X[j].toNat : Int)) = false := by simp; omega
                  have b1 : decide ((X[j].toNat : Int) ≤ 122) = true := by simp; omega
                  have b2 : decide ((48 : Int) ≤ (X[j].toNat : Int)) = true := by simp; omega
                  have b3 : decide ((X[j].toNat : Int) ≤ 57) = true := by simp; omega
                  have b4 : decide ((65 : Int) ≤ (X[j].toNat : Int)) = false := by simp; omega
                  have b5 : decide ((X[j].toNat : Int) ≤ 90) = true := by simp; omega
                  have q0 : ((X[j].toNat : Int) == 46) = false := by simp; omega
                  have q1 : ((X[j].toNat : Int) == 45) = false := by simp; omega
                  have q2 : ((X[j].toNat : Int) == 95) = false := by simp; omega
                  have q3 : ((X[j].toNat : Int) == 126) = false := by simp; omega
                  have hFB : FB = true := by rw [HF1.out, Bool.eq_iff_iff]; simp; omega
                  have hFP : FP = true := by rw [HF2.out, hFB, Bool.eq_iff_iff]; simp
                  have hE : E46 = false := by rw [← t46]; exact q0
                  subst hE
                  rw [hFB, hFP] at HFB
                  clear h1 h2 hFB hFP HF1 HF2 t46 hcn
                  have HG : Hid (BB = true) := by unfold Hid; rw [HFB.out]; split <;> rfl
                  rw [HG.out] at HT2
                  clear HBAD HFB
                  go_wp2
                  go_roundw
                  case rel => exact ⟨j + 1, _, by omega, by go_num, rfl, by rw [HT1.out]; rfl, HT2.out, trivial⟩
                  case measure => (show X.size - ((j : Int) + 1).toNat < X.size - ((j : Int)).toNat); omega
                · obtain ⟨h1, h2⟩ := h
                  have b0 : decide ((97 : Int) ≤ (X[j].toNat : Int)) = false := by simp; omega
                  have b1 : decide ((X[j].toNat : Int) ≤ 122) = true := by simp; omega
                  have b2 : decide ((48 : Int) ≤ (X[j].toNat : Int)) = true := by simp; omega
                  have b3 : decide ((X[j].toNat : Int) ≤ 57) = false := by simp; omega
                  have b4 : decide ((65 : Int) ≤ (X[j].toNat : Int)) = false := by simp; omega
                  have b5 : decide ((X[j].toNat : Int) ≤ 90) = true := by simp; omega
                  have q0 : ((X[j].toNat : Int) == 46) = false := by simp; omega
                  have q1 : ((X[j].toNat : Int) == 45) = false := by simp; omega
                  have q2 : ((X[j].toNat : Int) == 95) = false := by simp; omega
                  have q3 : ((X[j].toNat : Int) == 126) = false := by simp; omega
                  have hFB : FB = false := by rw [HF1.out, Bool.eq_iff_iff]; simp; omega
                  have hFP : FP = false := by rw [HF2.out, hFB, Bool.eq_iff_iff]; simp; omega
                  have hE : E46 = false := by rw [← t46]; exact q0
                  subst hE
                  rw [hFB, hFP] at HFB
                  clear h1 h2 hFB hFP HF1 HF2 t46 hcn
                  have HN2 := hidM (HBAD.out (by rw [HFB.out]; split <;> rfl))
                  clear HBAD HFB HT1 HT2
                  by_cases hk0 : k = 0
                  · have z0 : ((k : Int) == 0) = true := by rw [hk0]; rfl
                    clear hk0
                    go_wp2
                    go_ret
                    exact ⟨by rw [HN2.out]; rfl, HB2.out⟩
                  · have z0 : ((k : Int) == 0) = false := by simp; omega
                    clear hk0
                    go_wp2
                    go_ret
                    exact ⟨by rw [HN2.out]; rfl, HB2.out⟩
                · obtain ⟨h1, h2⟩ := h
                  have b0 : decide ((97 : Int) ≤ (X[j].toNat : Int)) = false := by simp; omega
                  have b1 : decide ((X[j].toNat : Int) ≤ 122) = true := by simp; omega
                  have b2 : decide ((48 : Int) ≤ (X[j].toNat : Int)) = true := by simp; omega
                  have b3 : decide ((X[j].toNat : Int) ≤ 57) = false := by simp; omega
                  have b4 : decide ((65 : Int) ≤ (X[j].toNat : Int)) = true := by simp; omega
                  have b5 : decide ((X[j].toNat : Int) ≤ 90) = true := by simp; omega
                  have q0 : ((X[j].toNat : Int) == 46) = false := by simp; omega
                  have q1 : ((X[j].toNat : Int) == 45) = false := by simp; omega
                  have q2 : ((X[j].toNat : Int) == 95) = false := by simp; omega
                  have q3 : ((X[j].toNat : Int) == 126) = false := by simp; omega
                  have hFB : FB = false := by rw [HF1.out, Bool.eq_iff_iff]; simp; omega
                  have hFP : FP = true := by rw [HF2.out, hFB, Bool.eq_iff_iff]; simp; omega
                  have hE : E46 = false := by rw [← t46]; exact q0
                  subst hE
                  rw [hFB, hFP] at HFB
                  clear h1 h2 hFB hFP HF1 HF2 t46 hcn
                  by_cases hk0 : k = 0
                  · have z0 : ((k : Int) == 0) = true := by rw [hk0]; rfl
                    have HN2 := hidM (HBAD.out (by rw [HFB.out, if_pos hk0]))
                    clear HBAD HFB hk0
                    go_wp2
                    go_ret
                    exact ⟨by rw [HN2.out]; rfl, HB2.out⟩
                  · have z0 : ((k : Int) == 0) = false := by simp; omega
                    rw [HFB.out, if_neg hk0] at HT2
                    clear HBAD HFB hk0
                    go_wp2
                    go_roundw
                    case rel => exact ⟨j + 1, _, by omega, by go_num, rfl, by rw [HT1.out]; rfl, HT2.out, trivial⟩
                    case measure => (show X.size - ((j : Int) + 1).toNat < X.size - ((j : Int)).toNat); omega
                · obtain ⟨h1, h2⟩ := h
                  have b0 : decide ((97 : Int) ≤ (X[j].toNat : Int)) = false := by simp; omega
                  have b1 : decide ((X[j].toNat : Int) ≤ 122) = true := by simp; omega
                  have b2 : decide ((48 : Int) ≤ (X[j].toNat : Int)) = true := by simp; omega
                  have b3 : decide ((X[j].toNat : Int) ≤ 57) = false := by simp; omega
                  have b4 : decide ((65 : Int) ≤ (X[j].toNat : Int)) = true := by simp; omega
                  have b5 : decide ((X[j].toNat : Int) ≤ 90) = false := by simp; omega
                  have q0 : ((X[j].toNat : Int) == 46) = false := by simp; omega
                  have q1 : ((X[j].toNat : Int) == 45) = false := by simp; omega
                  have q2 : ((X[j].toNat : Int) == 95) = false := by simp; omega
                  have q3 : ((X[j].toNat : Int) == 126) = false := by simp; omega
                  have hFB : FB = false := by rw [HF1.out, Bool.eq_iff_iff]; simp; omega
                  have hFP : FP = false := by rw [HF2.out, hFB, Bool.eq_iff_iff]; simp; omega
                  have hE : E46 = false := by rw [← t46]; exact q0
                  subst hE
                  rw [hFB, hFP] at HFB
                  clear h1 h2 hFB hFP HF1 HF2 t46 hcn
                  have HN2 := hidM (HBAD.out (by rw [HFB.out]; split <;> rfl))
                  clear HBAD HFB HT1 HT2
                  by_cases hk0 : k = 0
                  · have z0 : ((k : Int) == 0) = true := by rw [hk0]; rfl
                    clear hk0
                    go_wp2
                    go_ret
                    exact ⟨by rw [HN2.out]; rfl, HB2.out⟩
                  · have z0 : ((k : Int) == 0) = false := by simp; omega
                    clear hk0
                    go_wp2
                    go_ret
                    exact ⟨by rw [HN2.out]; rfl, HB2.out⟩
                · obtain ⟨h1, h2⟩ := h
                  have b0 : decide ((97 : Int) ≤ (X[j].toNat : Int)) = false := by simp; omega
                  have b1 : decide ((X[j].toNat : Int) ≤ 122) = true := by simp; omega
                  have b2 : decide ((48 : Int) ≤ (X[j].toNat : Int)) = true := by simp; omega
                  have b3 : decide ((X[j].toNat : Int) ≤ 57) = false := by simp; omega
                  have b4 : decide ((65 : Int) ≤ (X[j].toNat : Int)) = true := by simp; omega
                  have b5 : decide ((X[j].toNat : Int) ≤ 90) = false := by simp; omega
                  have q0 : ((X[j].toNat : Int) == 46) = false := by simp; omega
                  have q1 : ((X[j].toNat : Int) == 45) = false := by simp; omega
                  have q2 : ((X[j].toNat : Int) == 95) = true := by simp; omega
                  have q3 : ((X[j].toNat : Int) == 126) = false := by simp; omega
                  have hFB : FB = false := by rw [HF1.out, Bool.eq_iff_iff]; simp; omega
                  have hFP : FP = true := by rw [HF2.out, hFB, Bool.eq_iff_iff]; simp; omega
                  have hE : E46 = false := by rw [← t46]; exact q0
                  subst hE
                  rw [hFB, hFP] at HFB
                  clear h1 h2 hFB hFP HF1 HF2 t46 hcn
                  by_cases hk0 : k = 0
                  · have z0 : ((k : Int) == 0) = true := by rw [hk0]; rfl
                    have HN2 := hidM (HBAD.out (by rw [HFB.out, if_pos hk0]))
                    clear HBAD HFB hk0
                    go_wp2
                    go_ret
                    exact ⟨by rw [HN2.out]; rfl, HB2.out⟩
                  · have z0 : ((k : Int) == 0) = false := by simp; omega
                    rw [HFB.out, if_neg hk0] at HT2
                    clear HBAD HFB hk0
                    go_wp2
                    go_roundw
                    case rel => exact ⟨j + 1, _, by omega, by go_num, rfl, by rw [HT1.out]; rfl, HT2.out, trivial⟩
                    case measure => (show X.size - ((j : Int) + 1).toNat < X.size - ((j : Int)).toNat); omega
                · obtain ⟨h1, h2⟩ := h
                  have b0 : decide ((97 : Int) ≤ (X[j].toNat : Int)) = false := by simp; omega
                  have b1 : decide ((X[j].toNat : Int) ≤ 122) = true := by simp; omega
                  have b2 : decide ((48 : Int) ≤ (X[j].toNat : Int)) = true := by simp; omega
                  have b3 : decide ((X[j].toNat : Int) ≤ 57) = false := by simp; omega
                  have b4 : decide ((65 : Int) ≤ (X[j].toNat : Int)) = true := by simp; omega
                  have b5 : decide ((X[j].toNat : Int) ≤ 90) = false := by simp; omega
                  have q0 : ((X[j].toNat : Int) == 46) = false := by simp; omega
                  have q1 : ((X[j].toNat : Int) == 45) = false := by simp; omega
                  have q2 : ((X[j].toNat : Int) == 95) = false := by simp; omega
                  have q3 : ((X[j].toNat : Int) == 126) = false := by simp; omega
                  have hFB : FB = false := by rw [HF1.out, Bool.eq_iff_iff]; simp; omega
                  have hFP : FP = false := by rw [HF2.out, hFB, Bool.eq_iff_iff]; simp; omega
                  have hE : E46 = false := by rw [← t46]; exact q0
                  subst hE
                  rw [hFB, hFP] at HFB
                  clear h1 h2 hFB hFP HF1 HF2 t46 hcn
                  have HN2 := hidM (HBAD.out (by rw [HFB.out]; split <;> rfl))
                  clear HBAD HFB HT1 HT2
                  by_cases hk0 : k = 0
                  · have z0 : ((k : Int) == 0) = true := by rw [hk0]; rfl
                    clear hk0
                    go_wp2
                    go_ret
                    exact ⟨by rw [HN2.out]; rfl, HB2.out⟩
                  · have z0 : ((k : Int) == 0) = false := by simp; omega
                    clear hk0
                    go_wp2
                    go_ret
                    exact ⟨by rw [HN2.out]; rfl, HB2.out⟩
                · obtain ⟨h1, h2⟩ := h
                  have b0 : decide ((97 : Int) ≤ (X[j].toNat : Int)) = true := by simp; omega
                  have b1 : decide ((X[j].toNat : Int) ≤ 122) = true := by simp; omega
                  have b2 : decide ((48 : Int) ≤ (X[j].toNat : Int)) = true := by simp; omega
                  have b3 : decide ((X[j].toNat : Int) ≤ 57) = false := by simp; omega
                  have b4 : decide ((65 : Int) ≤ (X[j].toNat : Int)) = true := by simp; omega
                  have b5 : decide ((X[j].toNat : Int) ≤ 90) = false := by simp; omega
                  have q0 : ((X[j].toNat : Int) == 46) = false := by simp; omega
                  have q1 : ((X[j].toNat : Int) == 45) = false := by simp; omega
                  have q2 : ((X[j].toNat : Int) == 95) = false := by simp; omega
                  have q3 : ((X[j].toNat : Int) == 126) = false := by simp; omega
                  have hFB : FB = true := by rw [HF1.out, Bool.eq_iff_iff]; simp; omega
                  have hFP : FP = true := by rw [HF2.out, hFB, Bool.eq_iff_iff]; simp
                  have hE : E46 = false := by rw [← t46]; exact q0
                  subst hE
                  rw [hFB, hFP] at HFB
                  clear h1 h2 hFB hFP HF1 HF2 t46 hcn
                  have HG : Hid (BB = true) := by unfold Hid; rw [HFB.out]; split <;> rfl
                  rw [HG.out] at HT2
                  clear HBAD HFB
                  go_wp2
                  go_roundw
                  case rel => exact ⟨j + 1, _, by omega, by go_num, rfl, by rw [HT1.out]; rfl, HT2.out, trivial⟩
                  case measure => (show X.size - ((j : Int) + 1).toNat < X.size - ((j : Int)).toNat); omega
                · obtain ⟨h1, h2⟩ := h
                  have b0 : decide ((97 : Int) ≤ (X[j].toNat : Int)) = true := by simp; omega
                  have b1 : decide ((X[j].toNat : Int) ≤ 122) = false := by simp; omega
                  have b2 : decide ((48 : Int) ≤ (X[j].toNat : Int)) = true := by simp; omega
                  have b3 : decide ((X[j].toNat : Int) ≤ 57) = false := by simp; omega
                  have b4 : decide ((65 : Int) ≤ (X[j].toNat : Int)) = true := by simp; omega
                  have b5 : decide ((X[j].toNat : Int) ≤ 90) = false := by simp; omega
                  have q0 : ((X[j].toNat : Int) == 46) = false := by simp; omega
                  have q1 : ((X[j].toNat : Int) == 45) = false := by simp; omega
                  have q2 : ((X[j].toNat : Int) == 95) = false := by simp; omega
                  have q3 : ((X[j].toNat : Int) == 126) = false := by simp; omega
                  have hFB : FB = false := by rw [HF1.out, Bool.eq_iff_iff]; simp; omega
                  have hFP : FP = false := by rw [HF2.out, hFB, Bool.eq_iff_iff]; simp; omega
                  have hE : E46 = false := by rw [← t46]; exact q0
                  subst hE
                  rw [hFB, hFP] at HFB
                  clear h1 h2 hFB hFP HF1 HF2 t46 hcn
                  have HN2 := hidM (HBAD.out (by rw [HFB.out]; split <;> rfl))
                  clear HBAD HFB HT1 HT2
                  by_cases hk0 : k = 0
                  · have z0 : ((k : Int) == 0) = true := by rw [hk0]; rfl
                    clear hk0
                    go_wp2
                    go_ret
                    exact ⟨by rw [HN2.out]; rfl, HB2.out⟩
                  · have z0 : ((k : Int) == 0) = false := by simp; omega
                    clear hk0
                    go_wp2
                    go_ret
                    exact ⟨by rw [HN2.out]; rfl, HB2.out⟩
                · obtain ⟨h1, h2⟩ := h
                  have b0 : decide ((97 : Int) ≤ (X[j].toNat : Int)) = true := by simp; omega
                  have b1 : decide ((X[j].toNat : Int) ≤ 122) = false := by simp; omega
                  have b2 : decide ((48 : Int) ≤ (X[j].toNat : Int)) = true := by simp; omega
                  have b3 : decide ((X[j].toNat : Int) ≤ 57) = false := by simp; omega
                  have b4 : decide ((65 : Int) ≤ (X[j].toNat : Int)) = true := by simp; omega
                  have b5 : decide ((X[j].toNat : Int) ≤ 90) = false := by simp; omega
                  have q0 : ((X[j].toNat : Int) == 46) = false := by simp; omega
                  have q1 : ((X[j].toNat : Int) == 45) = false := by simp; omega
                  have q2 : ((X[j].toNat : Int) == 95) = false := by simp; omega
                  have q3 : ((X[j].toNat : Int) == 126) = true := by simp; omega
                  have hFB : FB = false := by rw [HF1.out, Bool.eq_iff_iff]; simp; omega
                  have hFP : FP = true := by rw [HF2.out, hFB, Bool.eq_iff_iff]; simp; omega
                  have hE : E46 = false := by rw [← t46]; exact q0
                  subst hE
                  rw [hFB, hFP] at HFB
                  clear h1 h2 hFB hFP HF1 HF2 t46 hcn
                  by_cases hk0 : k = 0
                  · have z0 : ((k : Int) == 0) = true := by rw [hk0]; rfl
                    have HN2 := hidM (HBAD.out (by rw [HFB.out, if_pos hk0]))
                    clear HBAD HFB hk0
                    go_wp2
                    go_ret
                    exact ⟨by rw [HN2.out]; rfl, HB2.out⟩
                  · have z0 : ((k : Int) == 0) = false := by simp; omega
                    rw [HFB.out, if_neg hk0] at HT2
                    clear HBAD HFB hk0
                    go_wp2
                    go_roundw
                    case rel => exact ⟨j + 1, _, by omega, by go_num, rfl, by rw [HT1.out]; rfl, HT2.out, trivial⟩
                    case measure => (show X.size - ((j : Int) + 1).toNat < X.size - ((j : Int)).toNat); omega
                · obtain ⟨h1, h2⟩ := h
                  have b0 : decide ((97 : Int) ≤ (X[j].toNat : Int)) = true := by simp; omega
                  have b1 : decide ((X[j].toNat : Int) ≤ 122) = false := by simp; omega
                  have b2 : decide ((48 : Int) ≤ (X[j].toNat : Int)) = true := by simp; omega
                  have b3 : decide ((X[j].toNat : Int) ≤ 57) = false := by simp; omega
                  have b4 : decide ((65 : Int) ≤ (X[j].toNat : Int)) = true := by simp; omega
                  have b5 : decide ((X[j].toNat : Int) ≤ 90) = false := by simp; omega
                  have q0 : ((X[j].toNat : Int) == 46) = false := by simp; omega
                  have q1 : ((X[j].toNat : Int) == 45) = false := by simp; omega
                  have q2 : ((X[j].toNat : Int) == 95) = false := by simp; omega
                  have q3 : ((X[j].toNat : Int) == 126) = false := by simp; omega
                  have hFB : FB = false := by rw [HF1.out, Bool.eq_iff_iff]; simp; omega
                  have hFP : FP = false := by rw [HF2.out, hFB, Bool.eq_iff_iff]; simp; omega
                  have hE : E46 = false := by rw [← t46]; exact q0
                  subst hE
                  rw [hFB, hFP] at HFB
                  clear h1 h2 hFB hFP HF1 HF2 t46 hcn
                  have HN2 := hidM (HBAD.out (by rw [HFB.out]; split <;> rfl))
                  clear HBAD HFB HT1 HT2
                  by_cases hk0 : k = 0
                  · have z0 : ((k : Int) == 0) = true := by rw [hk0]; rfl
                    clear hk0
                    go_wp2
                    go_ret
                    exact ⟨by rw [HN2.out]; rfl, HB2.out⟩
                  · have z0 : ((k : Int) == 0) = false := by simp; omega
                    clear hk0
                    go_wp2
                    go_ret
                    exact ⟨by rw [HN2.out]; rfl, HB2.out⟩
            · as_aux_lemma =>
                rcases (show (0 ≤ X[j].toNat ∧ X[j].toNat ≤ 44) ∨ (45 ≤ X[j].toNat ∧ X[j].toNat ≤ 45) ∨ (46 ≤ X[j].toNat ∧ X[j].toNat ≤ 46) ∨ (47 ≤ X[j].toNat ∧ X[j].toNat ≤ 47) ∨ (48 ≤ X[j].toNat ∧ X[j].toNat ≤ 57) ∨ (58 ≤ X[j].toNat ∧ X[j].toNat ≤ 64) ∨ (65 ≤ X[j].toNat ∧ X[j].toNat ≤ 90) ∨ (91 ≤ X[j].toNat ∧ X[j].toNat ≤ 94) ∨ (95 ≤ X[j].toNat ∧ X[j].toNat ≤ 95) ∨ (96 ≤ X[j].toNat ∧ X[j].toNat ≤ 96) ∨ (97 ≤ X[j].toNat ∧ X[j].toNat ≤ 122) ∨ (123 ≤ X[j].toNat ∧ X[j].toNat ≤ 125) ∨ (126 ≤ X[j].toNat ∧ X[j].toNat ≤ 126) ∨ (127 ≤ X[j].toNat ∧ X[j].toNat ≤ 255) by omega) with h | h | h | h | h | h | h | h | h | h | h | h | h | h
                · obtain ⟨h1, h2⟩ := h
                  have b0 : decide ((97 : Int) ≤ (X[j].toNat : Int)) = false := by simp; omega
                  have b1 : decide ((X[j].toNat : Int) ≤ 122) = true := by simp; omega
                  have b2 : decide ((48 : Int) ≤ (X[j].toNat : Int)) = false := by simp; omega
                  have b3 : decide ((X[j].toNat : Int) ≤ 57) = true := by simp; omega
                  have b4 : decide ((65 : Int) ≤ (X[j].toNat : Int)) = false := by simp; omega
                  have b5 : decide ((X[j].toNat : Int) ≤ 90) = true := by simp; omega
                  have q0 : ((X[j].toNat : Int) == 46) = false := by simp; omega
                  have q1 : ((X[j].toNat : Int) == 45) = false := by simp; omega
                  have q2 : ((X[j].toNat : Int) == 95) = false := by simp; omega
                  have q3 : ((X[j].toNat : Int) == 126) = false := by simp; omega
                  have hFB : FB = false := by rw [HF1.out, Bool.eq_iff_iff]; simp; omega
                  have hFP : FP = false := by rw [HF2.out, hFB, Bool.eq_iff_iff]; simp; omega
                  have hE : E46 = false := by rw [← t46]; exact q0
                  subst hE
                  rw [hFB, hFP] at HFB
                  clear h1 h2 hFB hFP HF1 HF2 t46 hcn
                  have HN2 := hidM (HBAD.out (by rw [HFB.out]; split <;> rfl))
                  clear HBAD HFB HT1 HT2
                  by_cases hk0 : k = 0
                  · have z0 : ((k : Int) == 0) = true := by rw [hk0]; rfl
                    clear hk0
                    go_wp2
                    go_ret
                    exact ⟨by rw [HN2.out]; rfl, HB2.out⟩
                  · have z0 : ((k : Int) == 0) = false := by simp; omega
                    clear hk0
                    go_wp2
                    go_ret
                    exact ⟨by rw [HN2.out]; rfl, HB2.out⟩
                · obtain ⟨h1, h2⟩ := h
                  have b0 : decide ((97 : Int) ≤ (X[j].toNat : Int)) = false := by simp; omega
                  have b1 : decide ((X[j].toNat : Int) ≤ 122) = true := by simp; omega
                  have b2 : decide ((48 : Int) ≤ (X[j].toNat : Int)) = false := by simp; omega
                  have b3 : decide ((X[j].toNat : Int) ≤ 57) = true := by simp; omega
                  have b4 : decide ((65 : Int) ≤ (X[j].toNat : Int)) = false := by simp; omega
                  have b5 : decide ((X[j].toNat : Int) ≤ 90) = true := by simp; omega
                  have q0 : ((X[j].toNat : Int) == 46) = false := by simp; omega
                  have q1 : ((X[j].toNat : Int) == 45) = true := by simp; omega
                  have q2 : ((X[j].toNat : Int) == 95) = false := by simp; omega
                  have q3 : ((X[j].toNat : Int) == 126) = false := by simp; omega
                  have hFB : FB = true := by rw [HF1.out, Bool.eq_iff_iff]; simp; omega
                  have hFP : FP = true := by rw [HF2.out, hFB, Bool.eq_iff_iff]; simp
                  have hE : E46 = false := by rw [← t46]; exact q0
                  subst hE
                  rw [hFB, hFP] at HFB
                  clear h1 h2 hFB hFP HF1 HF2 t46 hcn
                  have HG : Hid (BB = true) := by unfold Hid; rw [HFB.out]; split <;> rfl
                  rw [HG.out] at HT2
                  clear HBAD HFB
                  go_wp2
                  go_roundw
                  case rel => exact ⟨j + 1, _, by omega, by go_num, rfl, by rw [HT1.out]; rfl, HT2.out, trivial⟩
                  case measure => (show X.size - ((j : Int) + 1).toNat < X.size - ((j : Int)).toNat); omega
                · obtain ⟨h1, h2⟩ := h
                  have b0 : decide ((97 : Int) ≤ (X[j].toNat : Int)) = false := by simp; omega
                  have b1 : decide ((X[j].toNat : Int) ≤ 122) = true := by simp; omega
                  have b2 : decide ((48 : Int) ≤ (X[j].toNat : Int)) = false := by simp; omega
                  have b3 : decide ((X[j].toNat : Int) ≤ 57) = true := by simp; omega
                  have b4 : decide ((65 : Int) ≤ (X[j].toNat : Int)) = false := by simp; omega
                  have b5 : decide ((X[j].toNat : Int) ≤ 90) = true := by simp; omega
                  have q0 : ((X[j].toNat : Int) == 46) = true := by simp; omega
                  have q1 : ((X[j].toNat : Int) == 45) = false := by simp; omega
                  have q2 : ((X[j].toNat : Int) == 95) = false := by simp; omega
                  have q3 : ((X[j].toNat : Int) == 126) = false := by simp; omega
                  have hFB : FB = true := by rw [HF1.out, Bool.eq_iff_iff]; simp; omega
                  have hFP : FP = true := by rw [HF2.out, hFB, Bool.eq_iff_iff]; simp
                  have hE : E46 = true := by rw [← t46]; exact q0
                  subst hE
                  rw [hFB, hFP] at HFB
                  clear h1 h2 hFB hFP HF1 HF2 t46 hcn
                  have HG : Hid (BB = true) := by unfold Hid; rw [HFB.out]; split <;> rfl
                  rw [HG.out] at HT2
                  clear HBAD HFB
                  go_wp2
                  go_roundw
                  case rel => exact ⟨j + 1, _, by omega, by go_num, rfl, by rw [HT1.out]; rfl, HT2.out, trivial⟩
                  case measure => (show X.size - ((j : Int) + 1).toNat < X.size - ((j : Int)).toNat); omega
                · obtain ⟨h1, h2⟩ := h
                  have b0 : decide ((97 : Int) ≤ (X[j].toNat : Int)) = false := by simp; omega
                  have b1 : decide ((X[j].toNat : Int) ≤ 122) = true := by simp; omega
                  have b2 : decide ((48 : Int) ≤ (X[j].toNat : Int)) = false := by simp; omega
                  have b3 : decide ((X[j].toNat : Int) ≤ 57) = true := by simp; omega
                  have b4 : decide ((65 : Int) ≤ (X[j].toNat : Int)) = false := by simp; omega
                  have b5 : decide ((X[j].toNat : Int) ≤ 90) = true := by simp; omega
                  have q0 : ((X[j].toNat : Int) == 46) = false := by simp; omega
                  have q1 : ((X[j].toNat : Int) == 45) = false := by simp; omega
                  have q2 : ((X[j].toNat : Int) == 95) = false := by simp; omega
                  have q3 : ((X[j].toNat : Int) == 126) = false := by simp; omega
                  have hFB : FB = false := by rw [HF1.out, Bool.eq_iff_iff]; simp; omega
                  have hFP : FP = false := by rw [HF2.out, hFB, Bool.eq_iff_iff]; simp; omega
                  have hE : E46 = false := by rw [← t46]; exact q0
                  subst hE
                  rw [hFB, hFP] at HFB
                  clear h1 h2 hFB hFP HF1 HF2 t46 hcn
                  have HN2 := hidM (HBAD.out (by rw [HFB.out]; split <;> rfl))
                  clear HBAD HFB HT1 HT2
                  by_cases hk0 : k = 0
                  · have z0 : ((k : Int) == 0) = true := by rw [hk0]; rfl
                    clear hk0
                    go_wp2
                    go_ret
                    exact ⟨by rw [HN2.out]; rfl, HB2.out⟩
                  · have z0 : ((k : Int) == 0) = false := by simp; omega
                    clear hk0
                    go_wp2
                    go_ret
                    exact ⟨by rw [HN2.out]; rfl, HB2.out⟩
                · obtain ⟨h1, h2⟩ := h
                  have b0 : decide ((97 : Int) ≤ (X[j].toNat : Int)) = false := by simp; omega
                  have b1 : decide ((X[j].toNat : Int) ≤ 122) = true := by simp; omega
                  have b2 : decide ((48 : Int) ≤ (X[j].toNat : Int)) = true := by simp; omega
                  have b3 : decide ((X[j].toNat : Int) ≤ 57) = true := by simp; omega
                  have b4 : decide ((65 : Int) ≤ (X[j].toNat : Int)) = false := by simp; omega
                  have b5 : decide ((X[j].toNat : Int) ≤ 90) = true := by simp; omega
                  have q0 : ((X[j].toNat : Int) == 46) = false := by simp; omega
                  have q1 : ((X[j].toNat : Int) == 45) = false := by simp; omega
                  have q2 : ((X[j].toNat : Int) == 95) = false := by simp; omega
                  have q3 : ((X[j].toNat : Int) == 126) = false := by simp; omega
                  have hFB : FB = true := by rw [HF1.out, Bool.eq_iff_iff]; simp; omega
                  have hFP : FP = true := by rw [HF2.out, hFB, Bool.eq_iff_iff]; simp
                  have hE : E46 = false := by rw [← t46]; exact q0
                  subst hE
                  rw [hFB, hFP] at HFB
                  clear h1 h2 hFB hFP HF1 HF2 t46 hcn
                  have HG : Hid (BB = true) := by unfold Hid; rw [HFB.out]; split <;> rfl
                  rw [HG.out] at HT2
                  clear HBAD HFB
                  go_wp2
                  go_roundw
                  case rel => exact ⟨j + 1, _, by omega, by go_num, rfl, by rw [HT1.out]; rfl, HT2.out, trivial⟩
                  case measure => (show X.size - ((j : Int) + 1).toNat < X.size - ((j : Int)).toNat); omega
                · obtain ⟨h1, h2⟩ := h
                  have b0 : decide ((97 : Int) ≤ (X[j].toNat : Int)) = false := by simp; omega
                  have b1 : decide ((X[j].toNat : Int) ≤ 122) = true := by simp; omega
                  have b2 : decide ((48 : Int) ≤ (X[j].toNat : Int)) = true := by simp; omega
                  have b3 : decide ((X[j].toNat : Int) ≤ 57) = false := by simp; omega
                  have b4 : decide ((65 : Int) ≤ (X[j].toNat : Int)) = false := by simp; omega
                  have b5 : decide ((X[j].toNat : Int) ≤ 90) = true := by simp; omega
                  have q0 : ((X[j].toNat : Int) == 46) = false := by simp; omega
                  have q1 : ((X[j].toNat : Int) == 45) = false := by simp; omega
                  have q2 : ((X[j].toNat : Int) == 95) = false := by simp; omega
                  have q3 : ((X[j].toNat : Int) == 126) = false := by simp; omega
                  have hFB : FB = false := by rw [HF1.out, Bool.eq_iff_iff]; simp; omega
                  have hFP : FP = false := by rw [HF2.out, hFB, Bool.eq_iff_iff]; simp; omega
                  have hE : E46 = false := by rw [← t46]; exact q0
                  subst hE
                  rw [hFB, hFP] at HFB
                  clear h1 h2 hFB hFP HF1 HF2 t46 hcn
                  have HN2 := hidM (HBAD.out (by rw [HFB.out]; split <;> rfl))
                  clear HBAD HFB HT1 HT2
                  by_cases hk0 : k = 0
                  · have z0 : ((k : Int) == 0) = true := by rw [hk0]; rfl
                    clear hk0
                    go_wp2
                    go_ret
                    exact ⟨by rw [HN2.out]; rfl, HB2.out⟩
                  · have z0 : ((k : Int) == 0) = false := by simp; omega
                    clear hk0
                    go_wp2
                    go_ret
                    exact ⟨by rw [HN2.out]; rfl, HB2.out⟩
                · obtain ⟨h1, h2⟩ := h
                  have b0 : decide ((97 : Int) ≤ (X[j].toNat : Int)) = false := by simp; omega
                  have b1 : decide ((X[j].toNat : Int) ≤ 122) = true := by simp; omega
                  have b2 : decide ((48 : Int) ≤ (X[j].toNat : Int)) = true := by simp; omega
                  have b3 : decide ((X[j].toNat : Int) ≤ 57) = false := by simp; omega
                  have b4 : decide ((65 : Int) ≤ (X[j].toNat : Int)) = true := by simp; omega
                  have b5 : decide ((X[j].toNat : Int) ≤ 90) = true := by simp; omega
                  have q0 : ((X[j].toNat : Int) == 46) = false := by simp; omega
                  have q1 : ((X[j].toNat : Int) == 45) = false := by simp; omega
                  have q2 : ((X[j].toNat : Int) == 95) = false := by simp; omega
                  have q3 : ((X[j].toNat : Int) == 126) = false := by simp; omega
                  have hFB : FB = false := by rw [HF1.out, Bool.eq_iff_iff]; simp; omega
                  have hFP : FP = true := by rw [HF2.out, hFB, Bool.eq_iff_iff]; simp; omega
                  have hE : E46 = false := by rw [← t46]; exact q0
                  subst hE
                  rw [hFB, hFP] at HFB
                  clear h1 h2 hFB hFP HF1 HF2 t46 hcn
                  by_cases hk0 : k = 0
                  · have z0 : ((k : Int) == 0) = true := by rw [hk0]; rfl
                    have HN2 := hidM (HBAD.out (by rw [HFB.out, if_pos hk0]))
                    clear HBAD HFB hk0
                    go_wp2
                    go_ret
                    exact ⟨by rw [HN2.out]; rfl, HB2.out⟩
                  · have z0 : ((k : Int) == 0) = false := by simp; omega
                    rw [HFB.out, if_neg hk0] at HT2
                    clear HBAD HFB hk0
                    go_wp2
                    go_roundw
                    case rel => exact ⟨j + 1, _, by omega, by go_num, rfl, by rw [HT1.out]; rfl, HT2.out, trivial⟩
                    case measure => (show X.size - ((j : Int) + 1).toNat < X.size - ((j : Int)).toNat); omega
                · obtain ⟨h1, h2⟩ := h
                  have b0 : decide ((97 : Int) ≤ (X[j].toNat : Int)) = false := by simp; omega
                  have b1 : decide ((X[j].toNat : Int) ≤ 122) = true := by simp; omega
                  have b2 : decide ((48 : Int) ≤ (X[j].toNat : Int)) = true := by simp; omega
                  have b3 : decide ((X[j].toNat : Int) ≤ 57) = false := by simp; omega
                  have b4 : decide ((65 : Int) ≤ (X[j].toNat : Int)) = true := by simp; omega
                  have b5 : decide ((X[j].toNat : Int) ≤ 90) = false := by simp; omega
                  have q0 : ((X[j].toNat : Int) == 46) = false := by simp; omega
                  have q1 : ((X[j].toNat : Int) == 45) = false := by simp; omega
                  have q2 : ((X[j].toNat : Int) == 95) = false := by simp; omega
                  have q3 : ((X[j].toNat : Int) == 126) = false := by simp; omega
                  have hFB : FB = false := by rw [HF1.out, Bool.eq_iff_iff]; simp; omega
                  have hFP : FP = false := by rw [HF2.out, hFB, Bool.eq_iff_iff]; simp; omega
                  have hE : E46 = false := by rw [← t46]; exact q0
                  subst hE
                  rw [hFB, hFP] at HFB
                  clear h1 h2 hFB hFP HF1 HF2 t46 hcn
                  have HN2 := hidM (HBAD.out (by rw [HFB.out]; split <;> rfl))
                  clear HBAD HFB HT1 HT2
                  by_cases hk0 : k = 0
                  · have z0 : ((k : Int) == 0) = true := by rw [hk0]; rfl
                    clear hk0
                    go_wp2
                    go_ret
                    exact ⟨by rw [HN2.out]; rfl, HB2.out⟩
                  · have z0 : ((k : Int) == 0) = false := by simp; omega
                    clear hk0
                    go_wp2
                    go_ret
                    exact ⟨by rw [HN2.out]; rfl, HB2.out⟩
                · obtain ⟨h1, h2⟩ := h
                  have b0 : decide ((97 : Int) ≤ (X[j].toNat : Int)) = false := by simp; omega
                  have b1 : decide ((X[j].toNat : Int) ≤ 122) = true := by simp; omega
                  have b2 : decide ((48 : Int) ≤ (X[j].toNat : Int)) = true := by simp; omega
                  have b3 : decide ((X[j].toNat : Int) ≤ 57) = false := by simp; omega
                  have b4 : decide ((65 : Int) ≤ (X[j].toNat : Int)) = true := by simp; omega
                  have b5 : decide ((X[j].toNat : Int) ≤ 90) = false := by simp; omega
                  have q0 : ((X[j].toNat : Int) == 46) = false := by simp; omega
                  have q1 : ((X[j].toNat : Int) == 45) = false := by simp; omega
                  have q2 : ((X[j].toNat : Int) == 95) = true := by simp; omega
                  have q3 : ((X[j].toNat : Int) == 126) = false := by simp; omega
                  have hFB : FB = false := by rw [HF1.out, Bool.eq_iff_iff]; simp; omega
                  have hFP : FP = true := by rw [HF2.out, hFB, Bool.eq_iff_iff]; simp; omega
                  have hE : E46 = false := by rw [← t46]; exact q0
                  subst hE
                  rw [hFB, hFP] at HFB
                  clear h1 h2 hFB hFP HF1 HF2 t46 hcn
                  by_cases hk0 : k = 0
                  · have z0 : ((k : Int) == 0) = true := by rw [hk0]; rfl
                    have HN2 := hidM (HBAD.out (by rw [HFB.out, if_pos hk0]))
                    clear HBAD HFB hk0
                    go_wp2
                    go_ret
                    exact ⟨by rw [HN2.out]; rfl, HB2.out⟩
                  · have z0 : ((k : Int) == 0) = false := by simp; omega
                    rw [HFB.out, if_neg hk0] at HT2
                    clear HBAD HFB hk0
                    go_wp2
                    go_roundw
                    case rel => exact ⟨j + 1, _, by omega, by go_num, rfl, by rw [HT1.out]; rfl, HT2.out, trivial⟩
                    case measure => (show X.size - ((j : Int) + 1).toNat < X.size - ((j : Int)).toNat); omega
                · obtain ⟨h1, h2⟩ := h
                  have b0 : decide ((97 : Int) ≤ (X[j].toNat : Int)) = false := by simp; omega
                  have b1 : decide ((X[j].toNat : Int) ≤ 122) = true := by simp; omega
                  have b2 : decide ((48 : Int) ≤ (X[j].toNat : Int)) = true := by simp; omega
                  have b3 : decide ((X[j].toNat : Int) ≤ 57) = false := by simp; omega
                  have b4 : decide ((65 : Int) ≤ (X[j].toNat : Int)) = true := by simp; omega
                  have b5 : decide ((X[j].toNat : Int) ≤ 90) = false := by simp; omega
                  have q0 : ((X[j].toNat : Int) == 46) = false := by simp; omega
                  have q1 : ((X[j].toNat : Int) == 45) = false := by simp; omega
                  have q2 : ((X[j].toNat : Int) == 95) = false := by simp; omega
                  have q3 : ((X[j].toNat : Int) == 126) = false := by simp; omega
                  have hFB : FB = false := by rw [HF1.out, Bool.eq_iff_iff]; simp; omega
                  have hFP : FP = false := by rw [HF2.out, hFB, Bool.eq_iff_iff]; simp; omega
                  have hE : E46 = false := by rw [← t46]; exact q0
                  subst hE
                  rw [hFB, hFP] at HFB
                  clear h1 h2 hFB hFP HF1 HF2 t46 hcn
                  have HN2 := hidM (HBAD.out (by rw [HFB.out]; split <;> rfl))
                  clear HBAD HFB HT1 HT2
                  by_cases hk0 : k = 0
                  · have z0 : ((k : Int) == 0) = true := by rw [hk0]; rfl
                    clear hk0
                    go_wp2
                    go_ret
                    exact ⟨by rw [HN2.out]; rfl, HB2.out⟩
                  · have z0 : ((k : Int) == 0) = false := by simp; omega
                    clear hk0
                    go_wp2
                    go_ret
                    exact ⟨by rw [HN2.out]; rfl, HB2.out⟩
                · obtain ⟨h1, h2⟩ := h
                  have b0 : decide ((97 : Int) ≤ (X[j].toNat : Int)) = true := by simp; omega
                  have b1 : decide ((X[j].toNat : Int) ≤ 122) = true := by simp; omega
                  have b2 : decide ((48 : Int) ≤ (X[j].toNat : Int)) = true := by simp; omega
                  have b3 : decide ((X[j].toNat : Int) ≤ 57) = false := by simp; omega
                  have b4 : decide ((65 : Int) ≤ (X[j].toNat : Int)) = true := by simp; omega
                  have b5 : decide ((X[j].toNat : Int) ≤ 90) = false := by simp; omega
                  have q0 : ((X[j].toNat : Int) == 46) = false := by simp; omega
                  have q1 : ((X[j].toNat : Int) == 45) = false := by simp; omega
                  have q2 : ((X[j].toNat : Int) == 95) = false := by simp; omega
                  have q3 : ((X[j].toNat : Int) == 126) = false := by simp; omega
                  have hFB : FB = true := by rw [HF1.out, Bool.eq_iff_iff]; simp; omega
                  have hFP : FP = true := by rw [HF2.out, hFB, Bool.eq_iff_iff]; simp
                  have hE : E46 = false := by rw [← t46]; exact q0
                  subst hE
                  rw [hFB, hFP] at HFB
                  clear h1 h2 hFB hFP HF1 HF2 t46 hcn
                  have HG : Hid (BB = true) := by unfold Hid; rw [HFB.out]; split <;> rfl
                  rw [HG.out] at HT2
                  clear HBAD HFB
                  go_wp2
                  go_roundw
                  case rel => exact ⟨j + 1, _, by omega, by go_num, rfl, by rw [HT1.out]; rfl, HT2.out, trivial⟩
                  case measure => (show X.size - ((j : Int) + 1).toNat < X.size - ((j : Int)).toNat); omega
                · obtain ⟨h1, h2⟩ := h
                  have b0 : decide ((97 : Int) ≤ (X[j].toNat : Int)) = true := by simp; omega
                  have b1 : decide ((X[j].toNat : Int) ≤ 122) = false := by simp; omega
                  have b2 : decide ((48 : Int) ≤ (X[j].toNat : Int)) = true := by simp; omega
                  have b3 : decide ((X[j].toNat : Int) ≤ 57) = false := by simp; omega
                  have b4 : decide ((65 : Int) ≤ (X[j].toNat : Int)) = true := by simp; omega
                  have b5 : decide ((X[j].toNat : Int) ≤ 90) = false := by simp; omega
                  have q0 : ((X[j].toNat : Int) == 46) = false := by simp; omega
                  have q1 : ((X[j].toNat : Int) == 45) = false := by simp; omega
                  have q2 : ((X[j].toNat : Int) == 95) = false := by simp; omega
                  have q3 : ((X[j].toNat : Int) == 126) = false := by simp; omega
                  have hFB : FB = false := by rw [HF1.out, Bool.eq_iff_iff]; simp; omega
                  have hFP : FP = false := by rw [HF2.out, hFB, Bool.eq_iff_iff]; simp; omega
                  have hE : E46 = false := by rw [← t46]; exact q0
                  subst hE
                  rw [hFB, hFP] at HFB
                  clear h1 h2 hFB hFP HF1 HF2 t46 hcn
                  have HN2 := hidM (HBAD.out (by rw [HFB.out]; split <;> rfl))
                  clear HBAD HFB HT1 HT2
                  by_cases hk0 : k = 0
                  · have z0 : ((k : Int) == 0) = true := by rw [hk0]; rfl
                    clear hk0
                    go_wp2
                    go_ret
                    exact ⟨by rw [HN2.out]; rfl, HB2.out⟩
                  · have z0 : ((k : Int) == 0) = false := by simp; omega
                    clear hk0
                    go_wp2
                    go_ret
                    exact ⟨by rw [HN2.out]; rfl, HB2.out⟩
                · obtain ⟨h1, h2⟩ := h
                  have b0 : decide ((97 : Int) ≤ (X[j].toNat : Int)) = true := by simp; omega
                  have b1 : decide ((X[j].toNat : Int) ≤ 122) = false := by simp; omega
                  have b2 : decide ((48 : Int) ≤ (X[j].toNat : Int)) = true := by simp; omega
                  have b3 : decide ((X[j].toNat : Int) ≤ 57) = false := by simp; omega
                  have b4 : decide ((65 : Int) ≤ (X[j].toNat : Int)) = true := by simp; omega
                  have b5 : decide ((X[j].toNat : Int) ≤ 90) = false := by simp; omega
                  have q0 : ((X[j].toNat : Int) == 46) = false := by simp; omega
                  have q1 : ((X[j].toNat : Int) == 45) = false := by simp; omega
                  have q2 : ((X[j].toNat : Int) == 95) = false := by simp; omega
                  have q3 : ((X[j].toNat : Int) == 126) = true := by simp; omega
                  have hFB : FB = false := by rw [HF1.out, Bool.eq_iff_iff]; simp; omega
                  have hFP : FP = true := by rw [HF2.out, hFB, Bool.eq_iff_iff]; simp; omega
                  have hE : E46 = false := by rw [← t46]; exact q0
                  subst hE
                  rw [hFB, hFP] at HFB
                  clear h1 h2 hFB hFP HF1 HF2 t46 hcn
                  by_cases hk0 : k = 0
                  · have z0 : ((k : Int) == 0) = true := by rw [hk0]; rfl
                    have HN2 := hidM (HBAD.out (by rw [HFB.out, if_pos hk0]))
                    clear HBAD HFB hk0
                    go_wp2
                    go_ret
                    exact ⟨by rw [HN2.out]; rfl, HB2.out⟩
                  · have z0 : ((k : Int) == 0) = false := by simp; omega
                    rw [HFB.out, if_neg hk0] at HT2
                    clear HBAD HFB hk0
                    go_wp2
                    go_roundw
                    case rel => exact ⟨j + 1, _, by omega, by go_num, rfl, by rw [HT1.out]; rfl, HT2.out, trivial⟩
                    case measure => (show X.size - ((j : Int) + 1).toNat < X.size - ((j : Int)).toNat); omega
                · obtain ⟨h1, h2⟩ := h
                  have b0 : decide ((97 : Int) ≤ (X[j].toNat : Int)) = true := by simp; omega
                  have b1 : decide ((X[j].toNat : Int) ≤ 122) = false := by simp; omega
                  have b2 : decide ((48 : Int) ≤ (X[j].toNat : Int)) = true := by simp; omega
                  have b3 : decide ((X[j].toNat : Int) ≤ 57) = false := by simp; omega
                  have b4 : decide ((65 : Int) ≤ (X[j].toNat : Int)) = true := by simp; omega
                  have b5 : decide ((X[j].toNat : Int) ≤ 90) = false := by simp; omega
                  have q0 : ((X[j].toNat : Int) == 46) = false := by simp; omega
                  have q1 : ((X[j].toNat : Int) == 45) = false := by simp; omega
                  have q2 : ((X[j].toNat : Int) == 95) = false := by simp; omega
                  have q3 : ((X[j].toNat : Int) == 126) = false := by simp; omega
                  have hFB : FB = false := by rw [HF1.out, Bool.eq_iff_iff]; simp; omega
                  have hFP : FP = false := by rw [HF2.out, hFB, Bool.eq_iff_iff]; simp; omega
                  have hE : E46 = false := by rw [← t46]; exact q0
                  subst hE
                  rw [hFB, hFP] at HFB
                  clear h1 h2 hFB hFP HF1 HF2 t46 hcn
                  have HN2 := hidM (HBAD.out (by rw [HFB.out]; split <;> rfl))
                  clear HBAD HFB HT1 HT2
                  by_cases hk0 : k = 0
                  · have z0 : ((k : Int) == 0) = true := by rw [hk0]; rfl
                    clear hk0
                    go_wp2
                    go_ret
                    exact ⟨by rw [HN2.out]; rfl, HB2.out⟩
                  · have z0 : ((k : Int) == 0) = false := by simp; omega
                    clear hk0
                    go_wp2
                    go_ret
                    exact ⟨by rw [HN2.out]; rfl, HB2.out⟩
          · have jj : ¬ (j : Int) < (X.size : Int) := by omega
            have hcD : X.data.toList.contains 46 = D := by
              have := HDJ.out
              rwa [List.take_of_length_le (by rw [sl_len]; omega)] at this
            have hcA : X.data.toList.all (bytR k) = true := by
              have := HAL.out
              rwa [List.take_of_length_le (by rw [sl_len]; omega)] at this
            rw [hcD, hcA] at HPQ
            clear hcD hcA HDJ HAL
            by_cases hk0 : k = 0
            · have z0 : ((k : Int) == 0) = true := by rw [hk0]; rfl
              have HQ2 : Hid (parR k X.data.toList = (D && !T2)) := by unfold Hid; rw [HPQ.out, hk0]; simp
              clear hk0 HPQ
              cases D with
              | false =>
                have HN2 := hidM (HNO.out (by rw [HQ2.out]; rfl))
                clear HNO HNX HQ2
                go_wp2
                go_ret
                exact ⟨by rw [HN2.out]; rfl, HB2.out⟩
              | true =>
                cases T2 with
                | true =>
                  have HN2 := hidM (HNO.out (by rw [HQ2.out]; rfl))
                  clear HNO HNX HQ2
                  go_wp2
                  go_ret
                  exact ⟨by rw [HN2.out]; rfl, HB2.out⟩
                | false =>
                  have HN2 := hidM (HNX.out (by rw [HQ2.out]; rfl))
                  clear HNO HNX HQ2
                  go_wp2
                  go_roundw
                  case rel => exact ⟨k + 1, by omega, by go_num, HN2.out, trivial⟩
                  case measure => (show n - ((k : Int) + 1).toNat < n - ((k : Int)).toNat); omega
            · have z0 : ((k : Int) == 0) = false := by simp; omega
              have HN2 := hidM (HNX.out (by rw [HPQ.out]; simp [hk0]))
              clear HNO HNX HPQ hk0
              go_wp2
              go_roundw
              case rel => exact ⟨k + 1, by omega, by go_num, HN2.out, trivial⟩
              case measure => (show n - ((k : Int) + 1).toNat < n - ((k : Int)).toNat); omega
      · have HR : Hid (R = true) := HPP.out.2 fun m hm => HD.out m hm (by rw [← HN.out] at hm; omega)
        have kk : ¬ (k : Int) < (n : Int) := by omega
        go_wp2
        go_ret
        exact ⟨by rw [HR.out]; rfl, HB2.out⟩
  · have g200 : (200 : Int) < (s.size : Int) := by omega
    have HR : Hid (pathL s.data.toList = false) := by unfold Hid pathL; rw [decide_eq_false (by rw [sl_len]; omega)]; rfl
    go_enter Tryd.func15, Tryd.ntmps15
    go_wp2
    go_ret
    exact ⟨by rw [HR.out]; rfl, Below.refl _ _⟩
end Go.Proofs.YtgkjmmfpbcgmgaaDoor
