/-
  The law CartularyFrames, walked.
-/
import Derived.Test.YtkckobhpanghiaaDoorFrmA
namespace Go.Proofs.YtkckobhpanghiaaDoor
open Go.RowKit

def pF (n2 : Nat) (g : Nat → Bool) (k : Nat) : Bool := decide (k < n2) && g k
def tF (f : Nat → ByteArray) (k : Nat) : List UInt8 := (fewB (f k) 400).data.toList
theorem BoolsAt.here {w : World} {b o len : Nat} {g : Nat → Bool} (h : BoolsAt w (some ⟨b, o, none⟩) len g) (i : Nat) (hi : i < len) : w.cell? ⟨b, o + i, none⟩ = some (.bool (g i)) := by
  obtain ⟨b', o', he, hc⟩ := h.get i hi
  simp only [Option.some.injEq, Addr.mk.injEq, and_true] at he
  rw [he.1, he.2]
  exact hc
theorem FrameOf.six {x s : List UInt8} (h : FrameOf x s) : 6 ≤ x.length := by
  obtain ⟨Z, _, _, rfl⟩ := h
  simp only [List.length_append, List.length_cons, List.length_nil, zsum_len]
  omega
set_option maxHeartbeats 8000000 in
set_option maxRecDepth 100000 in
theorem frames_walk (a1 : Option Addr) (n1 c1 : Nat) (f : Nat → ByteArray) (a2 : Option Addr) (n2 c2 : Nat) (g : Nat → Bool) (w : World) (h1 : StrsAt w a1 n1 f) (h2 : BoolsAt w a2 n2 g) (hG : GOk w) :
    Calls Tryd.prog 13 #[.slice a1 n1 c1, .slice a2 n2 c2] w fun e w' => e = .returned (.bool true) ∧ Below w.heap.size w w' := by
  have HG := hidM hG
  have H1 := hidM h1
  have H2 := hidM h2
  have hm1 : n1 ≤ 9223372036854775807 := Nat.le_trans h1.1 (by unfold maxLen; omega)
  have hm2 : n2 ≤ 9223372036854775807 := Nat.le_trans h2.1 (by unfold maxLen; omega)
  clear hG h1 h2
  have HP := hidM (plain_any ⟨#[97]⟩ w (by decide))
  rw [show (⟨#[97]⟩ : ByteArray).data.toList = [97] from rfl, plain_a] at HP
  go_enter Tryd.func13, Tryd.ntmps13
  go_wp2_with fail
  refine HP.out.mono ?_
  rintro _ w0 ⟨rfl, hb0⟩
  have HB0 := hidM hb0
  clear hb0 HP
  by_cases hn8 : n1 ≤ 8
  · have k8 : (n1 : Int) ≤ 8 := by omega
    have k9 : ¬ (8 : Int) < (n1 : Int) := by omega
    go_wp2
    go_loopw [5, 7] (fun av iv wr => ∃ (i : Nat) (all : ByteArray), i ≤ n1 ∧ av = .string all ∧ iv = .int .i64 (i : Int) ∧ all.size ≤ 422 * i ∧ (∀ rest, RestF (pF n2 g) (tF f) n1 i rest → RestF (pF n2 g) (tF f) n1 0 (all.data.toList ++ rest)) ∧ Below w.heap.size w wr) (fun _ iv _ => n1 - (intOf iv).toNat)
    case atStart => exact ⟨0, ⟨#[]⟩, Nat.zero_le _, rfl, rfl, by decide, fun rest h => h, HB0.out⟩
    case round =>
      obtain ⟨i, all, hi, rfl, rfl, hal, hrest, hbl⟩ := hrel
      have HR := hidM hrest
      have HBL := hidM hbl
      clear hrest hbl HB0
      by_cases hlt : i < n1
      · have k1 : (i : Int) < (n1 : Int) := by omega
        obtain ⟨b1, o1, rfl, hc1⟩ := (H1.out.below HBL.out).get i (by omega)
        have i1 : (i : Int) < (n1 : Int) := by omega
        go_wp2_with fail
        refine (fewF_any (f i) 400 wr).mono ?_
        rintro _ w9 ⟨rfl, h9⟩
        rw [h9]
        clear h9 w9
        have hts := fewB_size (f i) 400
        have HT : Hid (tF f i = (fewB (f i) 400).data.toList) := rfl
        generalize fewB (f i) 400 = t at *
        have HTL : Hid (t.data.toList.length = t.size) := Array.length_toList
        by_cases h2 : i < n2
        · have k2 : (i : Int) < (n2 : Int) := by omega
          obtain ⟨b2, o2, rfl, hc2⟩ := (H2.out.below HBL.out).get i h2
          cases hg : g i with
          | true =>
            rw [hg] at hc2
            have HPF : Hid (pF n2 g i = true) := by unfold Hid pF; rw [hg]; simp [h2]
            clear hg
            as_aux_lemma =>
              go_wp2_with fail
              refine (plain_any t wr (by omega)).mono ?_
              rintro _ w2 ⟨rfl, hb2⟩
              have HB2 : Hid (Below w.heap.size w w2) := HBL.out.trans (hb2.mono HBL.out.size)
              clear hb2
              have hfr := frame_plain t.data.toList (by rw [HTL.out]; omega)
              generalize hX : (⟨(plainL t.data.toList).toArray⟩ : ByteArray) = X at *
              have hxl : X.data.toList = plainL t.data.toList := by rw [← hX]
              have hxs : X.size ≤ 422 := by
                have h : X.data.toList.length = X.size := Array.length_toList
                rw [← h, hxl]
                have := hfr.2
                rw [HTL.out] at this
                omega
              have HNX : Hid (∀ rest, RestF (pF n2 g) (tF f) n1 (i + 1) rest → RestF (pF n2 g) (tF f) n1 0 ((all ++ X : ByteArray).data.toList ++ rest)) := fun rest h => by
                rw [str_add, List.append_assoc]
                exact HR.out _ (.more i _ rest hlt (by rw [HPF.out, HT.out, hxl]; exact .inl ⟨rfl, hfr.1, hfr.2⟩) h)
              have HSZ : Hid ((all ++ X : ByteArray).size ≤ 422 * (i + 1)) := by unfold Hid; rw [ByteArray.size_append]; omega
              have hsum : all.size + X.size ≤ 5000 := by omega
              clear hX hxl hfr
              go_wp2
              go_roundw
              case rel => exact ⟨i + 1, all ++ X, by omega, rfl, by go_num, HSZ.out, HNX.out, HB2.out⟩
              case measure => (show n1 - ((i : Int) + 1).toNat < n1 - ((i : Int)).toNat); omega
          | false =>
            rw [hg] at hc2
            have HPF : Hid (pF n2 g i = false) := by unfold Hid pF; rw [hg]; simp
            clear hg
            as_aux_lemma =>
              go_wp2_with fail
              refine (zwrite_any t wr (by omega)).mono ?_
              rintro _ w2 ⟨⟨X1, rfl, hf1, hs1, _⟩, hb2⟩
              have HB2 : Hid (Below w.heap.size w w2) := HBL.out.trans (hb2.mono HBL.out.size)
              have HF1 := hidM hf1
              clear hb2 hf1
              go_wp2_with fail
              refine (zwrite_any X1 w2 (by omega)).mono ?_
              rintro _ w3 ⟨⟨X, rfl, hf2, hs2, _⟩, hb3⟩
              have HB3 : Hid (Below w.heap.size w w3) := HB2.out.trans (hb3.mono HB2.out.size)
              have HF2 := hidM hf2
              clear hb3 hf2
              have hx1l : X1.data.toList.length = X1.size := Array.length_toList
              have hx2l : X.data.toList.length = X.size := Array.length_toList
              have HNX : Hid (∀ rest, RestF (pF n2 g) (tF f) n1 (i + 1) rest → RestF (pF n2 g) (tF f) n1 0 ((all ++ X : ByteArray).data.toList ++ rest)) := fun rest h => by
                rw [str_add, List.append_assoc]
                exact HR.out _ (.more i _ rest hlt (by rw [HPF.out, HT.out]; exact .inr ⟨rfl, X1.data.toList, HF1.out, HF2.out, by rw [hx1l, HTL.out]; exact hs1, by rw [hx2l, HTL.out]; omega⟩) h)
              have HSZ : Hid ((all ++ X : ByteArray).size ≤ 422 * (i + 1)) := by unfold Hid; rw [ByteArray.size_append]; omega
              have hsum : all.size + X.size ≤ 5000 := by omega
              clear hx1l hx2l
              go_wp2
              go_roundw
              case rel => exact ⟨i + 1, all ++ X, by omega, rfl, by go_num, HSZ.out, HNX.out, HB3.out⟩
              case measure => (show n1 - ((i : Int) + 1).toNat < n1 - ((i : Int)).toNat); omega
        · have k2 : ¬ (i : Int) < (n2 : Int) := by omega
          have HPF : Hid (pF n2 g i = false) := by unfold Hid pF; simp [h2]
          as_aux_lemma =>
            go_wp2_with fail
            refine (zwrite_any t wr (by omega)).mono ?_
            rintro _ w2 ⟨⟨X1, rfl, hf1, hs1, _⟩, hb2⟩
            have HB2 : Hid (Below w.heap.size w w2) := HBL.out.trans (hb2.mono HBL.out.size)
            have HF1 := hidM hf1
            clear hb2 hf1
            go_wp2_with fail
            refine (zwrite_any X1 w2 (by omega)).mono ?_
            rintro _ w3 ⟨⟨X, rfl, hf2, hs2, _⟩, hb3⟩
            have HB3 : Hid (Below w.heap.size w w3) := HB2.out.trans (hb3.mono HB2.out.size)
            have HF2 := hidM hf2
            clear hb3 hf2
            have hx1l : X1.data.toList.length = X1.size := Array.length_toList
            have hx2l : X.data.toList.length = X.size := Array.length_toList
            have HNX : Hid (∀ rest, RestF (pF n2 g) (tF f) n1 (i + 1) rest → RestF (pF n2 g) (tF f) n1 0 ((all ++ X : ByteArray).data.toList ++ rest)) := fun rest h => by
              rw [str_add, List.append_assoc]
              exact HR.out _ (.more i _ rest hlt (by rw [HPF.out, HT.out]; exact .inr ⟨rfl, X1.data.toList, HF1.out, HF2.out, by rw [hx1l, HTL.out]; exact hs1, by rw [hx2l, HTL.out]; omega⟩) h)
            have HSZ : Hid ((all ++ X : ByteArray).size ≤ 422 * (i + 1)) := by unfold Hid; rw [ByteArray.size_append]; omega
            have hsum : all.size + X.size ≤ 5000 := by omega
            clear hx1l hx2l
            go_wp2
            go_roundw
            case rel => exact ⟨i + 1, all ++ X, by omega, rfl, by go_num, HSZ.out, HNX.out, HB3.out⟩
            case measure => (show n1 - ((i : Int) + 1).toNat < n1 - ((i : Int)).toNat); omega
      · as_aux_lemma =>
        have hin : i = n1 := by omega
        have k1 : ¬ (i : Int) < (n1 : Int) := by omega
        have HALL : Hid (RestF (pF n2 g) (tF f) n1 0 all.data.toList) := by
          have h := HR.out [] (by rw [hin]; exact .done)
          rw [List.append_nil] at h
          exact h
        have hals : all.size ≤ 3376 := by omega
        have hall0 : all.data.toList.length = all.size := Array.length_toList
        have HAS := hidM hall0
        clear HR hin hall0
        go_wp2
        go_loopw [9, 10] (fun av iv wr => ∃ (k A : Nat) (a r : List UInt8), k ≤ n1 ∧ av = .int .i64 (A : Int) ∧ iv = .int .i64 (k : Int) ∧ all.data.toList = a ++ r ∧ a.length = A ∧ RestF (pF n2 g) (tF f) n1 k r ∧ Below w.heap.size w wr) (fun _ iv _ => n1 - (intOf iv).toNat)
        case atStart => exact ⟨0, 0, [], _, Nat.zero_le _, rfl, rfl, rfl, rfl, HALL.out, HBL.out⟩
        case round =>
          obtain ⟨k, A, a, r, hk, rfl, rfl, hall, haA, hrest, hbl⟩ := hrel
          have HAE := hidM hall
          have HAA := hidM haA
          have HRS := hidM hrest
          have HB := hidM hbl
          have HGR := hidM (HG.out.below hbl)
          have hAl : A ≤ all.size := by
            rw [← HAS.out, hall, List.length_append]
            omega
          clear hall haA hrest hbl HBL HALL
          by_cases hlt : k < n1
          · have k2 : (k : Int) < (n1 : Int) := by omega
            obtain ⟨x, r', hr, hfrm, hr'⟩ := HRS.out.next hlt
            have HALLX : Hid (all.data.toList = a ++ (x ++ r')) := by unfold Hid; rw [HAE.out, hr]
            have HRN := hidM hr'
            clear hr hr' HRS HAE
            obtain ⟨b1, o1, rfl, hc1⟩ := (H1.out.below HB.out).get k (by omega)
            have i1 : (k : Int) < (n1 : Int) := by omega
            obtain ⟨A2, hA2⟩ : ∃ A2, A2 = A + 2 := ⟨_, rfl⟩
            have q2 : (A : Int) + 2 = (A2 : Int) := by omega
            have HA2 : Hid (A2 = a.length + 2) := by unfold Hid; rw [HAA.out, hA2]
            clear hA2
            go_wp2_with fail
            refine (fewF_any (f k) 400 wr).mono ?_
            rintro _ w9 ⟨rfl, h9⟩
            rw [h9]
            clear h9 w9
            have hts := fewB_size (f k) 400
            have HT : Hid (tF f k = (fewB (f k) 400).data.toList) := rfl
            generalize fewB (f k) 400 = t at *
            have HTL : Hid (t.data.toList.length = t.size) := Array.length_toList
            by_cases h2 : k < n2
            · have k3 : (k : Int) < (n2 : Int) := by omega
              have k4 : ¬ (n2 : Int) ≤ (k : Int) := by omega
              obtain ⟨b2, o2, rfl, hc2⟩ := (H2.out.below HB.out).get k h2
              cases hg : g k with
              | true =>
                rw [hg] at hc2
                have HPF : Hid (pF n2 g k = true) := by unfold Hid pF; rw [hg]; simp [h2]
                have HGK := hidM hg
                clear hg
                as_aux_lemma =>
                  rcases hfrm with ⟨_, hfx, hxle⟩ | ⟨h0, _⟩
                  rotate_left
                  · rw [HPF.out] at h0; cases h0
                  rw [HT.out] at hfx hxle
                  have HFX := hidM hfx
                  have hx6 := hfx.six
                  clear hfx
                  obtain ⟨xl, hxl⟩ : ∃ xl, xl = x.length := ⟨_, rfl⟩
                  have HXL := hidM hxl
                  have y1 : ¬ (xl : Int) < 6 := by omega
                  have y2 : xl ≤ 500 := by rw [HTL.out] at hxle; omega
                  clear hxl hxle hx6
                  go_wp2_with fail
                  refine (zread_any all (A : Int) 9000 wr (by omega) HGR.out).mono ?_
                  rintro _ w5 ⟨⟨r5, hq5, rfl⟩, hb5⟩
                  rw [HALLX.out, ← HAA.out] at hq5
                  have h5 := frame_read HFX.out (M := 9000) (by rw [HTL.out]; omega) (by decide) hq5
                  rw [← HXL.out] at h5
                  subst h5
                  have HB5 : Hid (Below w.heap.size w w5) := HB.out.trans (hb5.mono HB.out.size)
                  have HG5 := hidM (HGR.out.below hb5)
                  have hc5 := (H2.out.below HB5.out).here k h2
                  rw [HGK.out] at hc5
                  clear hq5 hb5
                  simp only [string_back]
                  have HIN := hidM (fun W (hW : GOk W) => inflate_any all (A2 : Int) 9000 W (by omega) hW.1 hW.2)
                  go_wp2_with fail
                  refine (HIN.out _ HG5.out).mono ?_
                  rintro _ w7 ⟨⟨r7, hq7, rfl⟩, hb7⟩
                  rw [HALLX.out, HA2.out] at hq7
                  obtain ⟨m, hm6, h7⟩ := frame_inf HFX.out (M := 9000) (by rw [HTL.out]; omega) (by decide) hq7
                  subst h7
                  have hxm : xl = m + 6 := by rw [HXL.out]; exact hm6
                  have z1 : (xl : Int) - 6 = (m : Int) := by omega
                  have HB7 : Hid (Below w.heap.size w w7) := HB5.out.trans (hb7.mono HB5.out.size)
                  have hc7 := (H2.out.below HB7.out).here k h2
                  rw [HGK.out] at hc7
                  clear hq7 hb7 HIN hm6
                  obtain ⟨A3, hA3⟩ : ∃ A3, A3 = A + xl := ⟨_, rfl⟩
                  have z2 : (A : Int) + (xl : Int) = (A3 : Int) := by omega
                  have HA3 := hidM hA3
                  have HXM := hidM hxm
                  have b3 : A3 ≤ 20000 := by omega
                  clear hA3 hxm
                  simp only [string_back]
                  go_wp2
                  go_roundw
                  case rel => exact ⟨k + 1, A3, a ++ x, r', by omega, rfl, by go_num, by rw [HALLX.out, List.append_assoc], by rw [List.length_append, HAA.out, ← HXL.out, HA3.out], HRN.out, HB7.out⟩
                  case measure => (show n1 - ((k : Int) + 1).toNat < n1 - ((k : Int)).toNat); omega
              | false =>
                rw [hg] at hc2
                have HPF : Hid (pF n2 g k = false) := by unfold Hid pF; rw [hg]; simp
                have HGK := hidM hg
                clear hg
                as_aux_lemma =>
                  rcases hfrm with ⟨h0, _⟩ | ⟨_, x1, hf1, hfx, hl1, hl2⟩
                  · rw [HPF.out] at h0; cases h0
                  rw [HT.out] at hf1 hl1 hl2
                  have HFX := hidM hfx
                  have HF1 := hidM hf1
                  have hx6 := hfx.six
                  clear hfx hf1
                  rw [HTL.out] at hl1 hl2
                  obtain ⟨xl, hxl⟩ : ∃ xl, xl = x.length := ⟨_, rfl⟩
                  have HXL := hidM hxl
                  have y1 : ¬ (xl : Int) < 6 := by omega
                  have y2 : xl ≤ 500 := by omega
                  clear hxl hx6
                  obtain ⟨X1, hX1⟩ : ∃ X1 : ByteArray, X1.data.toList = x1 := ⟨⟨x1.toArray⟩, rfl⟩
                  have hX1s : X1.size = x1.length := by have h : X1.data.toList.length = X1.size := Array.length_toList; rw [← h, hX1]
                  have HX1 := hidM hX1
                  have y3 : X1.size ≤ 500 := by omega
                  have hX1b : (⟨x1.toArray⟩ : ByteArray) = X1 := by rw [← hX1]
                  clear hX1
                  go_wp2_with fail
                  refine (zread_any all (A : Int) 9000 wr (by omega) HGR.out).mono ?_
                  rintro _ w5 ⟨⟨r5, hq5, rfl⟩, hb5⟩
                  rw [HALLX.out, ← HAA.out] at hq5
                  have h5 := frame_read HFX.out (M := 9000) (by omega) (by decide) hq5
                  rw [← HXL.out] at h5
                  subst h5
                  have HB5 : Hid (Below w.heap.size w w5) := HB.out.trans (hb5.mono HB.out.size)
                  have HG5 := hidM (HGR.out.below hb5)
                  have hc5 := (H2.out.below HB5.out).here k h2
                  rw [HGK.out] at hc5
                  clear hq5 hb5
                  simp only [hX1b]
                  have HXS := hidM hX1s
                  clear hX1s
                  go_wp2_with fail
                  refine (zread_any X1 0 (t.size : Int) w5 (by omega) HG5.out).mono ?_
                  rintro _ w6 ⟨⟨r6, hq6, rfl⟩, hb6⟩
                  rw [HX1.out] at hq6
                  have h6 := frame_read (front := []) (back := []) HF1.out (M := t.size) (by rw [HTL.out]; exact Nat.le_refl _) (by omega) (by rw [List.nil_append, List.append_nil]; exact hq6)
                  rw [← HXS.out] at h6
                  subst h6
                  have HB6 : Hid (Below w.heap.size w w6) := HB5.out.trans (hb6.mono HB5.out.size)
                  have HG6 := hidM (HG5.out.below hb6)
                  have hc6 := (H2.out.below HB6.out).here k h2
                  rw [HGK.out] at hc6
                  clear hq6 hb6
                  simp only [string_back]
                  have HIN := hidM (fun W (hW : GOk W) => inflate_any all (A2 : Int) 9000 W (by omega) hW.1 hW.2)
                  go_wp2_with fail
                  refine (HIN.out _ HG6.out).mono ?_
                  rintro _ w7 ⟨⟨r7, hq7, rfl⟩, hb7⟩
                  rw [HALLX.out, HA2.out] at hq7
                  obtain ⟨m, hm6, h7⟩ := frame_inf HFX.out (M := 9000) (by omega) (by decide) hq7
                  subst h7
                  have hxm : xl = m + 6 := by rw [HXL.out]; exact hm6
                  have z1 : (xl : Int) - 6 = (m : Int) := by omega
                  have HB7 : Hid (Below w.heap.size w w7) := HB6.out.trans (hb7.mono HB6.out.size)
                  have hc7 := (H2.out.below HB7.out).here k h2
                  rw [HGK.out] at hc7
                  clear hq7 hb7 HIN hm6
                  obtain ⟨A3, hA3⟩ : ∃ A3, A3 = A + xl := ⟨_, rfl⟩
                  have z2 : (A : Int) + (xl : Int) = (A3 : Int) := by omega
                  have HA3 := hidM hA3
                  have HXM := hidM hxm
                  have b3 : A3 ≤ 20000 := by omega
                  clear hA3 hxm
                  simp only [hX1b]
                  go_wp2
                  go_roundw
                  case rel => exact ⟨k + 1, A3, a ++ x, r', by omega, rfl, by go_num, by rw [HALLX.out, List.append_assoc], by rw [List.length_append, HAA.out, ← HXL.out, HA3.out], HRN.out, HB7.out⟩
                  case measure => (show n1 - ((k : Int) + 1).toNat < n1 - ((k : Int)).toNat); omega
            · have k3 : ¬ (k : Int) < (n2 : Int) := by omega
              have k4 : (n2 : Int) ≤ (k : Int) := by omega
              have HPF : Hid (pF n2 g k = false) := by unfold Hid pF; simp [h2]
              as_aux_lemma =>
                rcases hfrm with ⟨h0, _⟩ | ⟨_, x1, hf1, hfx, hl1, hl2⟩
                · rw [HPF.out] at h0; cases h0
                rw [HT.out] at hf1 hl1 hl2
                have HFX := hidM hfx
                have HF1 := hidM hf1
                have hx6 := hfx.six
                clear hfx hf1
                rw [HTL.out] at hl1 hl2
                obtain ⟨xl, hxl⟩ : ∃ xl, xl = x.length := ⟨_, rfl⟩
                have HXL := hidM hxl
                have y1 : ¬ (xl : Int) < 6 := by omega
                have y2 : xl ≤ 500 := by omega
                clear hxl hx6
                obtain ⟨X1, hX1⟩ : ∃ X1 : ByteArray, X1.data.toList = x1 := ⟨⟨x1.toArray⟩, rfl⟩
                have hX1s : X1.size = x1.length := by have h : X1.data.toList.length = X1.size := Array.length_toList; rw [← h, hX1]
                have HX1 := hidM hX1
                have y3 : X1.size ≤ 500 := by omega
                have hX1b : (⟨x1.toArray⟩ : ByteArray) = X1 := by rw [← hX1]
                clear hX1
                go_wp2_with fail
                refine (zread_any all (A : Int) 9000 wr (by omega) HGR.out).mono ?_
                rintro _ w5 ⟨⟨r5, hq5, rfl⟩, hb5⟩
                rw [HALLX.out, ← HAA.out] at hq5
                have h5 := frame_read HFX.out (M := 9000) (by omega) (by decide) hq5
                rw [← HXL.out] at h5
                subst h5
                have HB5 : Hid (Below w.heap.size w w5) := HB.out.trans (hb5.mono HB.out.size)
                have HG5 := hidM (HGR.out.below hb5)
                clear hq5 hb5
                simp only [hX1b]
                have HXS := hidM hX1s
                clear hX1s
                go_wp2_with fail
                refine (zread_any X1 0 (t.size : Int) w5 (by omega) HG5.out).mono ?_
                rintro _ w6 ⟨⟨r6, hq6, rfl⟩, hb6⟩
                rw [HX1.out] at hq6
                have h6 := frame_read (front := []) (back := []) HF1.out (M := t.size) (by rw [HTL.out]; exact Nat.le_refl _) (by omega) (by rw [List.nil_append, List.append_nil]; exact hq6)
                rw [← HXS.out] at h6
                subst h6
                have HB6 : Hid (Below w.heap.size w w6) := HB5.out.trans (hb6.mono HB5.out.size)
                have HG6 := hidM (HG5.out.below hb6)
                clear hq6 hb6
                simp only [string_back]
                have HIN := hidM (fun W (hW : GOk W) => inflate_any all (A2 : Int) 9000 W (by omega) hW.1 hW.2)
                go_wp2_with fail
                refine (HIN.out _ HG6.out).mono ?_
                rintro _ w7 ⟨⟨r7, hq7, rfl⟩, hb7⟩
                rw [HALLX.out, HA2.out] at hq7
                obtain ⟨m, hm6, h7⟩ := frame_inf HFX.out (M := 9000) (by omega) (by decide) hq7
                subst h7
                have hxm : xl = m + 6 := by rw [HXL.out]; exact hm6
                have z1 : (xl : Int) - 6 = (m : Int) := by omega
                have HB7 : Hid (Below w.heap.size w w7) := HB6.out.trans (hb7.mono HB6.out.size)
                clear hq7 hb7 HIN hm6
                obtain ⟨A3, hA3⟩ : ∃ A3, A3 = A + xl := ⟨_, rfl⟩
                have z2 : (A : Int) + (xl : Int) = (A3 : Int) := by omega
                have HA3 := hidM hA3
                have HXM := hidM hxm
                have b3 : A3 ≤ 20000 := by omega
                clear hA3 hxm
                simp only [hX1b]
                go_wp2
                go_roundw
                case rel => exact ⟨k + 1, A3, a ++ x, r', by omega, rfl, by go_num, by rw [HALLX.out, List.append_assoc], by rw [List.length_append, HAA.out, ← HXL.out, HA3.out], HRN.out, HB7.out⟩
                case measure => (show n1 - ((k : Int) + 1).toNat < n1 - ((k : Int)).toNat); omega
          · have k2 : ¬ (k : Int) < (n1 : Int) := by omega
            have hnil := HRS.out.nil hlt
            have HEND : Hid (A = all.size) := by unfold Hid; rw [← HAS.out, HAE.out, hnil, List.append_nil, HAA.out]
            have k3 : ((A : Int) == (all.size : Int)) = true := beq_iff_eq.2 (by have := HEND.out; omega)
            clear hnil
            go_wp2
            go_ret
            exact ⟨rfl, HB.out⟩
  · have k8 : (8 : Int) < (n1 : Int) := by omega
    go_wp2
    go_loopw [5, 7] (fun av iv wr => ∃ (i : Nat) (all : ByteArray), i ≤ 8 ∧ av = .string all ∧ iv = .int .i64 (i : Int) ∧ all.size ≤ 422 * i ∧ (∀ rest, RestF (pF n2 g) (tF f) 8 i rest → RestF (pF n2 g) (tF f) 8 0 (all.data.toList ++ rest)) ∧ Below w.heap.size w wr) (fun _ iv _ => 8 - (intOf iv).toNat)
    case atStart => exact ⟨0, ⟨#[]⟩, Nat.zero_le _, rfl, rfl, by decide, fun rest h => h, HB0.out⟩
    case round =>
      obtain ⟨i, all, hi, rfl, rfl, hal, hrest, hbl⟩ := hrel
      have HR := hidM hrest
      have HBL := hidM hbl
      clear hrest hbl HB0
      by_cases hlt : i < 8
      · have k1 : (i : Int) < 8 := by omega
        obtain ⟨b1, o1, rfl, hc1⟩ := (H1.out.below HBL.out).get i (by omega)
        have i1 : (i : Int) < (n1 : Int) := by omega
        go_wp2_with fail
        refine (fewF_any (f i) 400 wr).mono ?_
        rintro _ w9 ⟨rfl, h9⟩
        rw [h9]
        clear h9 w9
        have hts := fewB_size (f i) 400
        have HT : Hid (tF f i = (fewB (f i) 400).data.toList) := rfl
        generalize fewB (f i) 400 = t at *
        have HTL : Hid (t.data.toList.length = t.size) := Array.length_toList
        by_cases h2 : i < n2
        · have k2 : (i : Int) < (n2 : Int) := by omega
          obtain ⟨b2, o2, rfl, hc2⟩ := (H2.out.below HBL.out).get i h2
          cases hg : g i with
          | true =>
            rw [hg] at hc2
            have HPF : Hid (pF n2 g i = true) := by unfold Hid pF; rw [hg]; simp [h2]
            clear hg
            as_aux_lemma =>
              go_wp2_with fail
              refine (plain_any t wr (by omega)).mono ?_
              rintro _ w2 ⟨rfl, hb2⟩
              have HB2 : Hid (Below w.heap.size w w2) := HBL.out.trans (hb2.mono HBL.out.size)
              clear hb2
              have hfr := frame_plain t.data.toList (by rw [HTL.out]; omega)
              generalize hX : (⟨(plainL t.data.toList).toArray⟩ : ByteArray) = X at *
              have hxl : X.data.toList = plainL t.data.toList := by rw [← hX]
              have hxs : X.size ≤ 422 := by
                have h : X.data.toList.length = X.size := Array.length_toList
                rw [← h, hxl]
                have := hfr.2
                rw [HTL.out] at this
                omega
              have HNX : Hid (∀ rest, RestF (pF n2 g) (tF f) 8 (i + 1) rest → RestF (pF n2 g) (tF f) 8 0 ((all ++ X : ByteArray).data.toList ++ rest)) := fun rest h => by
                rw [str_add, List.append_assoc]
                exact HR.out _ (.more i _ rest hlt (by rw [HPF.out, HT.out, hxl]; exact .inl ⟨rfl, hfr.1, hfr.2⟩) h)
              have HSZ : Hid ((all ++ X : ByteArray).size ≤ 422 * (i + 1)) := by unfold Hid; rw [ByteArray.size_append]; omega
              have hsum : all.size + X.size ≤ 5000 := by omega
              clear hX hxl hfr
              go_wp2
              go_roundw
              case rel => exact ⟨i + 1, all ++ X, by omega, rfl, by go_num, HSZ.out, HNX.out, HB2.out⟩
              case measure => (show 8 - ((i : Int) + 1).toNat < 8 - ((i : Int)).toNat); omega
          | false =>
            rw [hg] at hc2
            have HPF : Hid (pF n2 g i = false) := by unfold Hid pF; rw [hg]; simp
            clear hg
            as_aux_lemma =>
              go_wp2_with fail
              refine (zwrite_any t wr (by omega)).mono ?_
              rintro _ w2 ⟨⟨X1, rfl, hf1, hs1, _⟩, hb2⟩
              have HB2 : Hid (Below w.heap.size w w2) := HBL.out.trans (hb2.mono HBL.out.size)
              have HF1 := hidM hf1
              clear hb2 hf1
              go_wp2_with fail
              refine (zwrite_any X1 w2 (by omega)).mono ?_
              rintro _ w3 ⟨⟨X, rfl, hf2, hs2, _⟩, hb3⟩
              have HB3 : Hid (Below w.heap.size w w3) := HB2.out.trans (hb3.mono HB2.out.size)
              have HF2 := hidM hf2
              clear hb3 hf2
              have hx1l : X1.data.toList.length = X1.size := Array.length_toList
              have hx2l : X.data.toList.length = X.size := Array.length_toList
              have HNX : Hid (∀ rest, RestF (pF n2 g) (tF f) 8 (i + 1) rest → RestF (pF n2 g) (tF f) 8 0 ((all ++ X : ByteArray).data.toList ++ rest)) := fun rest h => by
                rw [str_add, List.append_assoc]
                exact HR.out _ (.more i _ rest hlt (by rw [HPF.out, HT.out]; exact .inr ⟨rfl, X1.data.toList, HF1.out, HF2.out, by rw [hx1l, HTL.out]; exact hs1, by rw [hx2l, HTL.out]; omega⟩) h)
              have HSZ : Hid ((all ++ X : ByteArray).size ≤ 422 * (i + 1)) := by unfold Hid; rw [ByteArray.size_append]; omega
              have hsum : all.size + X.size ≤ 5000 := by omega
              clear hx1l hx2l
              go_wp2
              go_roundw
              case rel => exact ⟨i + 1, all ++ X, by omega, rfl, by go_num, HSZ.out, HNX.out, HB3.out⟩
              case measure => (show 8 - ((i : Int) + 1).toNat < 8 - ((i : Int)).toNat); omega
        · have k2 : ¬ (i : Int) < (n2 : Int) := by omega
          have HPF : Hid (pF n2 g i = false) := by unfold Hid pF; simp [h2]
          as_aux_lemma =>
            go_wp2_with fail
            refine (zwrite_any t wr (by omega)).mono ?_
            rintro _ w2 ⟨⟨X1, rfl, hf1, hs1, _⟩, hb2⟩
            have HB2 : Hid (Below w.heap.size w w2) := HBL.out.trans (hb2.mono HBL.out.size)
            have HF1 := hidM hf1
            clear hb2 hf1
            go_wp2_with fail
            refine (zwrite_any X1 w2 (by omega)).mono ?_
            rintro _ w3 ⟨⟨X, rfl, hf2, hs2, _⟩, hb3⟩
            have HB3 : Hid (Below w.heap.size w w3) := HB2.out.trans (hb3.mono HB2.out.size)
            have HF2 := hidM hf2
            clear hb3 hf2
            have hx1l : X1.data.toList.length = X1.size := Array.length_toList
            have hx2l : X.data.toList.length = X.size := Array.length_toList
            have HNX : Hid (∀ rest, RestF (pF n2 g) (tF f) 8 (i + 1) rest → RestF (pF n2 g) (tF f) 8 0 ((all ++ X : ByteArray).data.toList ++ rest)) := fun rest h => by
              rw [str_add, List.append_assoc]
              exact HR.out _ (.more i _ rest hlt (by rw [HPF.out, HT.out]; exact .inr ⟨rfl, X1.data.toList, HF1.out, HF2.out, by rw [hx1l, HTL.out]; exact hs1, by rw [hx2l, HTL.out]; omega⟩) h)
            have HSZ : Hid ((all ++ X : ByteArray).size ≤ 422 * (i + 1)) := by unfold Hid; rw [ByteArray.size_append]; omega
            have hsum : all.size + X.size ≤ 5000 := by omega
            clear hx1l hx2l
            go_wp2
            go_roundw
            case rel => exact ⟨i + 1, all ++ X, by omega, rfl, by go_num, HSZ.out, HNX.out, HB3.out⟩
            case measure => (show 8 - ((i : Int) + 1).toNat < 8 - ((i : Int)).toNat); omega
      · as_aux_lemma =>
        have hin : i = 8 := by omega
        have k1 : ¬ (i : Int) < 8 := by omega
        have HALL : Hid (RestF (pF n2 g) (tF f) 8 0 all.data.toList) := by
          have h := HR.out [] (by rw [hin]; exact .done)
          rw [List.append_nil] at h
          exact h
        have hals : all.size ≤ 3376 := by omega
        have hall0 : all.data.toList.length = all.size := Array.length_toList
        have HAS := hidM hall0
        clear HR hin hall0
        go_wp2
        go_loopw [9, 10] (fun av iv wr => ∃ (k A : Nat) (a r : List UInt8), k ≤ 8 ∧ av = .int .i64 (A : Int) ∧ iv = .int .i64 (k : Int) ∧ all.data.toList = a ++ r ∧ a.length = A ∧ RestF (pF n2 g) (tF f) 8 k r ∧ Below w.heap.size w wr) (fun _ iv _ => 8 - (intOf iv).toNat)
        case atStart => exact ⟨0, 0, [], _, Nat.zero_le _, rfl, rfl, rfl, rfl, HALL.out, HBL.out⟩
        case round =>
          obtain ⟨k, A, a, r, hk, rfl, rfl, hall, haA, hrest, hbl⟩ := hrel
          have HAE := hidM hall
          have HAA := hidM haA
          have HRS := hidM hrest
          have HB := hidM hbl
          have HGR := hidM (HG.out.below hbl)
          have hAl : A ≤ all.size := by
            rw [← HAS.out, hall, List.length_append]
            omega
          clear hall haA hrest hbl HBL HALL
          by_cases hlt : k < 8
          · have k2 : (k : Int) < 8 := by omega
            obtain ⟨x, r', hr, hfrm, hr'⟩ := HRS.out.next hlt
            have HALLX : Hid (all.data.toList = a ++ (x ++ r')) := by unfold Hid; rw [HAE.out, hr]
            have HRN := hidM hr'
            clear hr hr' HRS HAE
            obtain ⟨b1, o1, rfl, hc1⟩ := (H1.out.below HB.out).get k (by omega)
            have i1 : (k : Int) < (n1 : Int) := by omega
            obtain ⟨A2, hA2⟩ : ∃ A2, A2 = A + 2 := ⟨_, rfl⟩
            have q2 : (A : Int) + 2 = (A2 : Int) := by omega
            have HA2 : Hid (A2 = a.length + 2) := by unfold Hid; rw [HAA.out, hA2]
            clear hA2
            go_wp2_with fail
            refine (fewF_any (f k) 400 wr).mono ?_
            rintro _ w9 ⟨rfl, h9⟩
            rw [h9]
            clear h9 w9
            have hts := fewB_size (f k) 400
            have HT : Hid (tF f k = (fewB (f k) 400).data.toList) := rfl
            generalize fewB (f k) 400 = t at *
            have HTL : Hid (t.data.toList.length = t.size) := Array.length_toList
            by_cases h2 : k < n2
            · have k3 : (k : Int) < (n2 : Int) := by omega
              have k4 : ¬ (n2 : Int) ≤ (k : Int) := by omega
              obtain ⟨b2, o2, rfl, hc2⟩ := (H2.out.below HB.out).get k h2
              cases hg : g k with
              | true =>
                rw [hg] at hc2
                have HPF : Hid (pF n2 g k = true) := by unfold Hid pF; rw [hg]; simp [h2]
                have HGK := hidM hg
                clear hg
                as_aux_lemma =>
                  rcases hfrm with ⟨_, hfx, hxle⟩ | ⟨h0, _⟩
                  rotate_left
                  · rw [HPF.out] at h0; cases h0
                  rw [HT.out] at hfx hxle
                  have HFX := hidM hfx
                  have hx6 := hfx.six
                  clear hfx
                  obtain ⟨xl, hxl⟩ : ∃ xl, xl = x.length := ⟨_, rfl⟩
                  have HXL := hidM hxl
                  have y1 : ¬ (xl : Int) < 6 := by omega
                  have y2 : xl ≤ 500 := by rw [HTL.out] at hxle; omega
                  clear hxl hxle hx6
                  go_wp2_with fail
                  refine (zread_any all (A : Int) 9000 wr (by omega) HGR.out).mono ?_
                  rintro _ w5 ⟨⟨r5, hq5, rfl⟩, hb5⟩
                  rw [HALLX.out, ← HAA.out] at hq5
                  have h5 := frame_read HFX.out (M := 9000) (by rw [HTL.out]; omega) (by decide) hq5
                  rw [← HXL.out] at h5
                  subst h5
                  have HB5 : Hid (Below w.heap.size w w5) := HB.out.trans (hb5.mono HB.out.size)
                  have HG5 := hidM (HGR.out.below hb5)
                  have hc5 := (H2.out.below HB5.out).here k h2
                  rw [HGK.out] at hc5
                  clear hq5 hb5
                  simp only [string_back]
                  have HIN := hidM (fun W (hW : GOk W) => inflate_any all (A2 : Int) 9000 W (by omega) hW.1 hW.2)
                  go_wp2_with fail
                  refine (HIN.out _ HG5.out).mono ?_
                  rintro _ w7 ⟨⟨r7, hq7, rfl⟩, hb7⟩
                  rw [HALLX.out, HA2.out] at hq7
                  obtain ⟨m, hm6, h7⟩ := frame_inf HFX.out (M := 9000) (by rw [HTL.out]; omega) (by decide) hq7
                  subst h7
                  have hxm : xl = m + 6 := by rw [HXL.out]; exact hm6
                  have z1 : (xl : Int) - 6 = (m : Int) := by omega
                  have HB7 : Hid (Below w.heap.size w w7) := HB5.out.trans (hb7.mono HB5.out.size)
                  have hc7 := (H2.out.below HB7.out).here k h2
                  rw [HGK.out] at hc7
                  clear hq7 hb7 HIN hm6
                  obtain ⟨A3, hA3⟩ : ∃ A3, A3 = A + xl := ⟨_, rfl⟩
                  have z2 : (A : Int) + (xl : Int) = (A3 : Int) := by omega
                  have HA3 := hidM hA3
                  have HXM := hidM hxm
                  have b3 : A3 ≤ 20000 := by omega
                  clear hA3 hxm
                  simp only [string_back]
                  go_wp2
                  go_roundw
                  case rel => exact ⟨k + 1, A3, a ++ x, r', by omega, rfl, by go_num, by rw [HALLX.out, List.append_assoc], by rw [List.length_append, HAA.out, ← HXL.out, HA3.out], HRN.out, HB7.out⟩
                  case measure => (show 8 - ((k : Int) + 1).toNat < 8 - ((k : Int)).toNat); omega
              | false =>
                rw [hg] at hc2
                have HPF : Hid (pF n2 g k = false) := by unfold Hid pF; rw [hg]; simp
                have HGK := hidM hg
                clear hg
                as_aux_lemma =>
                  rcases hfrm with ⟨h0, _⟩ | ⟨_, x1, hf1, hfx, hl1, hl2⟩
                  · rw [HPF.out] at h0; cases h0
                  rw [HT.out] at hf1 hl1 hl2
                  have HFX := hidM hfx
                  have HF1 := hidM hf1
                  have hx6 := hfx.six
                  clear hfx hf1
                  rw [HTL.out] at hl1 hl2
                  obtain ⟨xl, hxl⟩ : ∃ xl, xl = x.length := ⟨_, rfl⟩
                  have HXL := hidM hxl
                  have y1 : ¬ (xl : Int) < 6 := by omega
                  have y2 : xl ≤ 500 := by omega
                  clear hxl hx6
                  obtain ⟨X1, hX1⟩ : ∃ X1 : ByteArray, X1.data.toList = x1 := ⟨⟨x1.toArray⟩, rfl⟩
                  have hX1s : X1.size = x1.length := by have h : X1.data.toList.length = X1.size := Array.length_toList; rw [← h, hX1]
                  have HX1 := hidM hX1
                  have y3 : X1.size ≤ 500 := by omega
                  have hX1b : (⟨x1.toArray⟩ : ByteArray) = X1 := by rw [← hX1]
                  clear hX1
                  go_wp2_with fail
                  refine (zread_any all (A : Int) 9000 wr (by omega) HGR.out).mono ?_
                  rintro _ w5 ⟨⟨r5, hq5, rfl⟩, hb5⟩
                  rw [HALLX.out, ← HAA.out] at hq5
                  have h5 := frame_read HFX.out (M := 9000) (by omega) (by decide) hq5
                  rw [← HXL.out] at h5
                  subst h5
                  have HB5 : Hid (Below w.heap.size w w5) := HB.out.trans (hb5.mono HB.out.size)
                  have HG5 := hidM (HGR.out.below hb5)
                  have hc5 := (H2.out.below HB5.out).here k h2
                  rw [HGK.out] at hc5
                  clear hq5 hb5
                  simp only [hX1b]
                  have HXS := hidM hX1s
                  clear hX1s
                  go_wp2_with fail
                  refine (zread_any X1 0 (t.size : Int) w5 (by omega) HG5.out).mono ?_
                  rintro _ w6 ⟨⟨r6, hq6, rfl⟩, hb6⟩
                  rw [HX1.out] at hq6
                  have h6 := frame_read (front := []) (back := []) HF1.out (M := t.size) (by rw [HTL.out]; exact Nat.le_refl _) (by omega) (by rw [List.nil_append, List.append_nil]; exact hq6)
                  rw [← HXS.out] at h6
                  subst h6
                  have HB6 : Hid (Below w.heap.size w w6) := HB5.out.trans (hb6.mono HB5.out.size)
                  have HG6 := hidM (HG5.out.below hb6)
                  have hc6 := (H2.out.below HB6.out).here k h2
                  rw [HGK.out] at hc6
                  clear hq6 hb6
                  simp only [string_back]
                  have HIN := hidM (fun W (hW : GOk W) => inflate_any all (A2 : Int) 9000 W (by omega) hW.1 hW.2)
                  go_wp2_with fail
                  refine (HIN.out _ HG6.out).mono ?_
                  rintro _ w7 ⟨⟨r7, hq7, rfl⟩, hb7⟩
                  rw [HALLX.out, HA2.out] at hq7
                  obtain ⟨m, hm6, h7⟩ := frame_inf HFX.out (M := 9000) (by omega) (by decide) hq7
                  subst h7
                  have hxm : xl = m + 6 := by rw [HXL.out]; exact hm6
                  have z1 : (xl : Int) - 6 = (m : Int) := by omega
                  have HB7 : Hid (Below w.heap.size w w7) := HB6.out.trans (hb7.mono HB6.out.size)
                  have hc7 := (H2.out.below HB7.out).here k h2
                  rw [HGK.out] at hc7
                  clear hq7 hb7 HIN hm6
                  obtain ⟨A3, hA3⟩ : ∃ A3, A3 = A + xl := ⟨_, rfl⟩
                  have z2 : (A : Int) + (xl : Int) = (A3 : Int) := by omega
                  have HA3 := hidM hA3
                  have HXM := hidM hxm
                  have b3 : A3 ≤ 20000 := by omega
                  clear hA3 hxm
                  simp only [hX1b]
                  go_wp2
                  go_roundw
                  case rel => exact ⟨k + 1, A3, a ++ x, r', by omega, rfl, by go_num, by rw [HALLX.out, List.append_assoc], by rw [List.length_append, HAA.out, ← HXL.out, HA3.out], HRN.out, HB7.out⟩
                  case measure => (show 8 - ((k : Int) + 1).toNat < 8 - ((k : Int)).toNat); omega
            · have k3 : ¬ (k : Int) < (n2 : Int) := by omega
              have k4 : (n2 : Int) ≤ (k : Int) := by omega
              have HPF : Hid (pF n2 g k = false) := by unfold Hid pF; simp [h2]
              as_aux_lemma =>
                rcases hfrm with ⟨h0, _⟩ | ⟨_, x1, hf1, hfx, hl1, hl2⟩
                · rw [HPF.out] at h0; cases h0
                rw [HT.out] at hf1 hl1 hl2
                have HFX := hidM hfx
                have HF1 := hidM hf1
                have hx6 := hfx.six
                clear hfx hf1
                rw [HTL.out] at hl1 hl2
                obtain ⟨xl, hxl⟩ : ∃ xl, xl = x.length := ⟨_, rfl⟩
                have HXL := hidM hxl
                have y1 : ¬ (xl : Int) < 6 := by omega
                have y2 : xl ≤ 500 := by omega
                clear hxl hx6
                obtain ⟨X1, hX1⟩ : ∃ X1 : ByteArray, X1.data.toList = x1 := ⟨⟨x1.toArray⟩, rfl⟩
                have hX1s : X1.size = x1.length := by have h : X1.data.toList.length = X1.size := Array.length_toList; rw [← h, hX1]
                have HX1 := hidM hX1
                have y3 : X1.size ≤ 500 := by omega
                have hX1b : (⟨x1.toArray⟩ : ByteArray) = X1 := by rw [← hX1]
                clear hX1
                go_wp2_with fail
                refine (zread_any all (A : Int) 9000 wr (by omega) HGR.out).mono ?_
                rintro _ w5 ⟨⟨r5, hq5, rfl⟩, hb5⟩
                rw [HALLX.out, ← HAA.out] at hq5
                have h5 := frame_read HFX.out (M := 9000) (by omega) (by decide) hq5
                rw [← HXL.out] at h5
                subst h5
                have HB5 : Hid (Below w.heap.size w w5) := HB.out.trans (hb5.mono HB.out.size)
                have HG5 := hidM (HGR.out.below hb5)
                clear hq5 hb5
                simp only [hX1b]
                have HXS := hidM hX1s
                clear hX1s
                go_wp2_with fail
                refine (zread_any X1 0 (t.size : Int) w5 (by omega) HG5.out).mono ?_
                rintro _ w6 ⟨⟨r6, hq6, rfl⟩, hb6⟩
                rw [HX1.out] at hq6
                have h6 := frame_read (front := []) (back := []) HF1.out (M := t.size) (by rw [HTL.out]; exact Nat.le_refl _) (by omega) (by rw [List.nil_append, List.append_nil]; exact hq6)
                rw [← HXS.out] at h6
                subst h6
                have HB6 : Hid (Below w.heap.size w w6) := HB5.out.trans (hb6.mono HB5.out.size)
                have HG6 := hidM (HG5.out.below hb6)
                clear hq6 hb6
                simp only [string_back]
                have HIN := hidM (fun W (hW : GOk W) => inflate_any all (A2 : Int) 9000 W (by omega) hW.1 hW.2)
                go_wp2_with fail
                refine (HIN.out _ HG6.out).mono ?_
                rintro _ w7 ⟨⟨r7, hq7, rfl⟩, hb7⟩
                rw [HALLX.out, HA2.out] at hq7
                obtain ⟨m, hm6, h7⟩ := frame_inf HFX.out (M := 9000) (by omega) (by decide) hq7
                subst h7
                have hxm : xl = m + 6 := by rw [HXL.out]; exact hm6
                have z1 : (xl : Int) - 6 = (m : Int) := by omega
                have HB7 : Hid (Below w.heap.size w w7) := HB6.out.trans (hb7.mono HB6.out.size)
                clear hq7 hb7 HIN hm6
                obtain ⟨A3, hA3⟩ : ∃ A3, A3 = A + xl := ⟨_, rfl⟩
                have z2 : (A : Int) + (xl : Int) = (A3 : Int) := by omega
                have HA3 := hidM hA3
                have HXM := hidM hxm
                have b3 : A3 ≤ 20000 := by omega
                clear hA3 hxm
                simp only [hX1b]
                go_wp2
                go_roundw
                case rel => exact ⟨k + 1, A3, a ++ x, r', by omega, rfl, by go_num, by rw [HALLX.out, List.append_assoc], by rw [List.length_append, HAA.out, ← HXL.out, HA3.out], HRN.out, HB7.out⟩
                case measure => (show 8 - ((k : Int) + 1).toNat < 8 - ((k : Int)).toNat); omega
          · have k2 : ¬ (k : Int) < 8 := by omega
            have hnil := HRS.out.nil hlt
            have HEND : Hid (A = all.size) := by unfold Hid; rw [← HAS.out, HAE.out, hnil, List.append_nil, HAA.out]
            have k3 : ((A : Int) == (all.size : Int)) = true := beq_iff_eq.2 (by have := HEND.out; omega)
            clear hnil
            go_wp2
            go_ret
            exact ⟨rfl, HB.out⟩
end Go.Proofs.YtkckobhpanghiaaDoor
