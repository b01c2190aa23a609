/-
  How many files stand under a folder, in two folders of the same files alike.
-/
import Derived.Test.YtolohndbbnbfbaaDoorTurnM
namespace Go.Proofs.YtolohndbbnbfbaaDoor
open Go.RowKit

structure Two (w : World) (q1 b1 c1 q2 b2 c2 : Nat) (gs : List FileB) : Prop where
  one : Folder w q1 b1 0 c1 gs
  two : Folder w q2 b2 0 c2 gs
theorem Two.below {w w' : World} {q1 b1 c1 q2 b2 c2 : Nat} {gs : List FileB} (h : Two w q1 b1 c1 q2 b2 c2 gs) (hb : Below w.heap.size w w') : Two w' q1 b1 c1 q2 b2 c2 gs := ⟨h.one.below hb, h.two.below hb⟩
theorem list_front (gs : List FileB) (p : ByteArray) (h : p.size = 0 ∨ cleanB p = true) : listL gs p = itemsF (frontOf p).size (undF gs (frontOf p)) := by
  by_cases h0 : p.size = 0
  · unfold listL
    rw [if_pos h0, front_zero h0, und_all]; rfl
  · have hc := h.resolve_left h0
    have hs : (p ++ slashB).size = p.size + 1 := by rw [ByteArray.size_append]; rfl
    unfold listL frontOf
    rw [if_neg h0, if_neg h0, if_pos hc, hs]
theorem listE_le (gs : List FileB) (p : ByteArray) : listE gs p ≤ 7 := by
  unfold listE
  split
  · omega
  · split
    · split <;> omega
    · omega
set_option maxRecDepth 100000 in
set_option maxHeartbeats 12800000 in
theorem found_any (q1 b1 c1 q2 b2 c2 : Nat) (gs : List FileB) (hr : RiseS gs) (hcl : ∀ f ∈ gs, cleanB f.1 = true) (hl : gs.length ≤ 1000) : ∀ (M : Nat) (fol : ByteArray) (w : World), Two w q1 b1 c1 q2 b2 c2 gs → (fol.size = 0 ∨ cleanB fol = true) → 201 ≤ fol.size + M →
    Calls Tryd.prog 27 #[.pointer (some ⟨q1, 0, none⟩), .pointer (some ⟨q2, 0, none⟩), .string fol] w fun e w' => e = .returned (.int .i64 ((undF gs (frontOf fol)).length : Nat)) ∧ Below w.heap.size w w' := by
  intro M
  induction M with
  | zero =>
    intro fol w _ hc hM
    rcases hc with hc | hc
    · omega
    · have := clean_size hc; omega
  | succ M ih =>
    intro fol w hT hc hM
    have HIH : Hid (∀ fol' W, Two W q1 b1 c1 q2 b2 c2 gs → (fol'.size = 0 ∨ cleanB fol' = true) → fol.size < fol'.size → Calls Tryd.prog 27 #[.pointer (some ⟨q1, 0, none⟩), .pointer (some ⟨q2, 0, none⟩), .string fol'] W fun e w' => e = .returned (.int .i64 ((undF gs (frontOf fol')).length : Nat)) ∧ Below W.heap.size W w') :=
      fun fol' W h1 h2 h3 => ih fol' W h1 h2 (by omega)
    clear ih
    have HT := hidM hT
    have HRS := hidM hr
    have hfs200 : fol.size ≤ 200 := by
      rcases hc with hc | hc
      · omega
      · exact clean_size hc
    have HPS : Hid (∀ f ∈ gs, f.1.size ≤ 200) := fun f hf => clean_size (hcl f hf)
    have HBEG : Hid (∀ f ∈ undF gs (frontOf fol), beginsF (frontOf fol) f = true) := fun f hf => (List.mem_filter.1 hf).2
    have HRU : Hid (Rise (undF gs (frontOf fol))) := (riseS_und hr _).rise
    have HLF := hidM (list_front gs fol hc)
    have HND : Hid ((itemsF (frontOf fol).size (undF gs (frontOf fol))).Nodup) := (items_all HRU.out HBEG.out).1
    have HMEM : Hid (∀ x, x ∈ itemsF (frontOf fol).size (undF gs (frontOf fol)) ↔ ∃ f ∈ undF gs (frontOf fol), itemOf (frontOf fol).size f = x) := (items_all HRU.out HBEG.out).2
    have HALL := hidM (cntK_all HRU.out HBEG.out)
    have HLL : Hid ((itemsF (frontOf fol).size (undF gs (frontOf fol))).length ≤ 1000) := by
      have h1 := itemsF_len (frontOf fol).size (undF gs (frontOf fol)) (undF gs (frontOf fol)).length (Nat.le_refl _)
      rw [List.take_of_length_le (Nat.le_refl _)] at h1
      exact Nat.le_trans h1 (Nat.le_trans (List.length_filter_le _ _) hl)
    have HLI1 := hidM (fun W h => List_any q1 b1 0 c1 gs fol W h (by omega) hr.rise HPS.out)
    have HLI2 := hidM (fun W h => List_any q2 b2 0 c2 gs fol W h (by omega) hr.rise HPS.out)
    unfold ListRet at HLI1 HLI2
    rw [HLF.out] at HLI1 HLI2
    have hle := listE_le gs fol
    generalize listE gs fol = E at *
    generalize hLdef : itemsF (frontOf fol).size (undF gs (frontOf fol)) = L at *
    have hLl := HLL.out
    clear hLdef hr hT hM HLF HLL HBEG HRU
    go_enter Tryd.func27, Tryd.ntmps27
    go_wp2_with fail
    refine (HLI1.out _ HT.out.one).mono ?_
    rintro _ w1 ⟨⟨va, hva, rfl⟩, hb1⟩
    have HT1 := hidM (HT.out.below hb1)
    have HVA := hidM hva.strs
    have HB1 := hidM hb1
    clear hva hb1
    go_wp2_with fail
    refine (HLI2.out _ HT1.out.two).mono ?_
    rintro _ w2 ⟨⟨vb, hvb, rfl⟩, hb2⟩
    have hT2 := hidM (HT1.out.below hb2)
    have HVA2 := hidM (HVA.out.below hb2)
    have HVB2 := hidM hvb.strs
    have HBW : Hid (Below w.heap.size w w2) := HB1.out.trans (hb2.mono HB1.out.size)
    clear hvb hb2 HVA HLI1 HLI2 HT HT1 HB1
    obtain ⟨aa, ca, rfl, hsa⟩ := HVA2.out
    obtain ⟨ab, cb, rfl, hsb⟩ := HVB2.out
    have HS1 : Hid (∀ W, Below w2.heap.size w2 W → ∀ m (h : m < L.length), ∃ g, aa = some ⟨g, 0, none⟩ ∧ W.cell? ⟨g, m, none⟩ = some (.string L[m])) := fun W hW m h => by
      obtain ⟨g, h1, h2, h3⟩ := hsa (fun hh => by rw [hh] at h; simp at h)
      exact ⟨g, h1, h3.below hW h2 m h⟩
    have HS2 : Hid (∀ W, Below w2.heap.size w2 W → ∀ m (h : m < L.length), ∃ g, ab = some ⟨g, 0, none⟩ ∧ W.cell? ⟨g, m, none⟩ = some (.string L[m])) := fun W hW m h => by
      obtain ⟨g, h1, h2, h3⟩ := hsb (fun hh => by rw [hh] at h; simp at h)
      exact ⟨g, h1, h3.below hW h2 m h⟩
    clear hsa hsb HVA2 HVB2
    by_cases h0 : fol.size = 0
    · have e2 : (fol.toList == []) = true := by
        rw [ByteArray.toList_eq]
        have h9 := Lib.size_eq fol
        rw [h0] at h9
        rw [List.eq_nil_of_length_eq_zero h9.symm]; rfl
      go_wp2_with fail
      go_loopw [11, 44] (fun nv kv wr => ∃ (k : Nat), k ≤ L.length ∧ kv = .int .i64 k ∧ nv = .int .i64 (cntK (frontOf fol).size (undF gs (frontOf fol)) L k : Nat) ∧ Below w2.heap.size w2 wr) (fun _ kv _ => L.length - (intOf kv).toNat)
      case atStart => exact ⟨0, Nat.zero_le _, rfl, by rw [cntK_zero]; rfl, Below.refl _ _⟩
      case round =>
        obtain ⟨k, hk, rfl, rfl, hbr⟩ := hrel
        have HB := hidM hbr
        clear hbr
        by_cases hlt : k < L.length
        · have kk : (k : Int) < (L.length : Int) := by omega
          have HTW := hidM (hT2.out.below HB.out)
          have y1 := HS1.out wr HB.out k hlt
          have y2 := HS2.out wr HB.out k hlt
          obtain ⟨g1, rfl, y1⟩ := y1
          obtain ⟨g2, rfl, y2⟩ := y2
          obtain ⟨f, hf, hfe⟩ := (HMEM.out L[k]).1 (List.getElem_mem hlt)
          have hx0 := item_ne hcl hf
          have hxs := (item_size hcl hf).1
          have hfs := (item_size hcl hf).2
          have HCS := hidM (cntK_succ (frontOf fol).size (undF gs (frontOf fol)) L HND.out k hlt)
          have HFILE := hidM (fun h47 => item_file HRS.out.apart hf h47)
          have HFOLD := hidM (fun (a : List UInt8) ha => (item_folder hf (a := a) ha).1)
          have HTF := hidM (fun (a : List UInt8) (ha : firstL (restL (frontOf fol).size f) = a ++ [47]) (P : ByteArray) hP => turn_folder hcl hf ha (P := P) hP)
          have HDAT := hidM (itemOf_data (frontOf fol).size f)
          rw [hfe] at hx0 hxs HFILE HFOLD HTF HDAT
          have hfg : f ∈ gs := (List.mem_filter.1 hf).1
          generalize L[k] = X at *
          have HPX : Hid (X = frontOf fol ++ X) := by unfold Hid; rw [front_zero h0]; exact ba_eq (by simp)
          have e1 : (X.toList == []) = false := by
            rw [ByteArray.toList_eq]
            refine beq_false_of_ne fun h => ?_
            have h8 := Lib.size_eq X
            rw [h] at h8
            simp only [List.length_nil] at h8
            omega
          obtain ⟨j, hj⟩ : ∃ j, j = X.size - 1 := ⟨_, rfl⟩
          have HJ : Hid (X.size = j + 1) := by unfold Hid; omega
          have j1 : (X.size : Int) - 1 = (j : Int) := by omega
          have j2 : (j : Int) < (X.size : Int) := by omega
          have jl : j < X.size := by omega
          have HLAST : Hid (X.data.toList = X.data.toList.dropLast ++ [X[j]'jl]) := by
            have := last_byte hx0
            unfold Hid
            simpa only [hj] using this
          obtain ⟨ch, hch⟩ : ∃ ch, ch = (X[j]'jl).toNat := ⟨_, rfl⟩
          have HCH := hidM hch
          have r0 : ((X[j]'jl).toNat : Int) = (ch : Int) := by omega
          clear hj hch hf hfe
          by_cases h47 : ch = 47
          · have HA : Hid (∃ a, firstL (restL (frontOf fol).size f) = a ++ [47]) := by
              refine ⟨X.data.toList.dropLast, ?_⟩
              rw [← HDAT.out, HLAST.out]
              have : X[j]'jl = 47 := by rw [← UInt8.toNat_inj]; rw [HCH.out] at h47; exact h47
              rw [this]; simp
            have r47 : ((X[j]'jl).toNat : Int) = 47 := by rw [r0, h47]; rfl
            clear r0
            obtain ⟨a, ha⟩ := HA.out
            obtain ⟨hG1, hG2, hG3, hP0⟩ := HTF.out a ha X HPX.out
            have HCX := hidM (HFOLD.out a ha)
            rw [← HPX.out] at HCX
            have HREC := hidM (HIH.out (X.extract 0 (X.size - 1)) wr HTW.out (.inr hG1) hG3)
            rw [hG2] at HREC
            have hun : (undF gs X).length ≤ 1000 := Nat.le_trans (List.length_filter_le _ _) hl
            have hcn : cntK (frontOf fol).size (undF gs (frontOf fol)) L k ≤ 1000 := by
              unfold cntK
              exact Nat.le_trans (List.length_filter_le _ _) (Nat.le_trans (List.length_filter_le _ _) hl)
            rw [HCX.out] at HCS
            generalize (undF gs X).length = R at *
            generalize cntK (frontOf fol).size (undF gs (frontOf fol)) L k = C at *
            have qd : decide ((R : Int) < 0) = false := by simp
            clear h47 hG1 hG2 hG3 ha
            rw [show X.size - 1 = j by have := HJ.out; omega] at HREC
            go_wp2_with fail
            refine HREC.out.mono ?_
            rintro _ w3 ⟨rfl, hb3⟩
            have HB3 : Hid (Below w2.heap.size w2 w3) := HB.out.trans (hb3.mono HB.out.size)
            clear hb3
            go_wp2_with fail
            go_roundw
            case rel => exact ⟨k + 1, by omega, by go_num, by rw [HCS.out]; go_num, HB3.out⟩
            case measure => (show L.length - ((k : Int) + 1).toNat < L.length - ((k : Int)).toNat); omega
          · have HNA : Hid (∀ a, firstL (restL (frontOf fol).size f) ≠ a ++ [47]) := fun a ha => by
              rw [← HDAT.out, HLAST.out] at ha
              have := (List.append_inj' ha rfl).2
              have h9 : X[j]'jl = 47 := by simpa using this
              rw [HCH.out, h9] at h47; exact h47 rfl
            have qc : ((ch : Int) == 47) = false := by simp; omega
            have HFI := hidM (HFILE.out HNA.out)
            rw [HFI.out.2] at HCS
            have hcn : cntK (frontOf fol).size (undF gs (frontOf fol)) L k ≤ 1000 := by
              unfold cntK
              exact Nat.le_trans (List.length_filter_le _ _) (Nat.le_trans (List.length_filter_le _ _) hl)
            generalize cntK (frontOf fol).size (undF gs (frontOf fol)) L k = C at *
            have HPF : Hid (f.1 = X) := by unfold Hid; rw [HFI.out.1]; exact HPX.out.symm
            have HG1 := hidM (Get_any q1 b1 0 c1 gs X wr HTW.out.1 (by omega) HRS.out.rise)
            clear h47
            go_wp2_with fail
            refine HG1.out.mono ?_
            rintro _ w3 ⟨hg, hb3⟩
            have HTW3 := hidM (HTW.out.below hb3)
            have HB3 : Hid (Below w2.heap.size w2 w3) := HB.out.trans (hb3.mono HB.out.size)
            clear hb3
            rcases hg with ⟨u1, hu1, hue1, rfl⟩ | ⟨hno, _⟩
            · have HU1 : Hid (u1 = f) := apart_eq HRS.out.apart hu1 hfg (by rw [hue1, HPF.out])
              have hu2 := HU1.out
              subst hu2
              clear hu1 hue1 HU1
              go_wp2_with fail
              refine (Get_any q2 b2 0 c2 gs X w3 HTW3.out.2 (by omega) HRS.out.rise).mono ?_
              rintro _ w4 ⟨hg, hb4⟩
              have HB4 : Hid (Below w2.heap.size w2 w4) := HB3.out.trans (hb4.mono HB3.out.size)
              clear hb4
              rcases hg with ⟨u3, hu3, hue3, rfl⟩ | ⟨hno, _⟩
              · have HU3 : Hid (u3 = u1) := apart_eq HRS.out.apart hu3 hfg (by rw [hue3, HPF.out])
                have hu4 := HU3.out
                subst hu4
                clear hu3 hue3 HU3
                go_wp2_with fail
                go_roundw
                case rel => exact ⟨k + 1, by omega, by go_num, by rw [HCS.out]; go_num, HB4.out⟩
                case measure => (show L.length - ((k : Int) + 1).toNat < L.length - ((k : Int)).toNat); omega
              · exact absurd HPF.out (hno _ hfg)
            · exact absurd HPF.out (hno _ hfg)
        · obtain rfl : k = L.length := by omega
          rw [HALL.out]
          go_wp2_with fail
          go_ret
          exact ⟨rfl, HBW.out.trans (HB.out.mono HBW.out.size)⟩
    · have e2 : (fol.toList == []) = false := by
        rw [ByteArray.toList_eq]
        refine beq_false_of_ne fun h => h0 ?_
        rw [Lib.size_eq, h]; rfl
      go_wp2_with fail
      go_loopw [11, 44] (fun nv kv wr => ∃ (k : Nat), k ≤ L.length ∧ kv = .int .i64 k ∧ nv = .int .i64 (cntK (frontOf fol).size (undF gs (frontOf fol)) L k : Nat) ∧ Below w2.heap.size w2 wr) (fun _ kv _ => L.length - (intOf kv).toNat)
      case atStart => exact ⟨0, Nat.zero_le _, rfl, by rw [cntK_zero]; rfl, Below.refl _ _⟩
      case round =>
        obtain ⟨k, hk, rfl, rfl, hbr⟩ := hrel
        have HB := hidM hbr
        clear hbr
        by_cases hlt : k < L.length
        · have kk : (k : Int) < (L.length : Int) := by omega
          have HTW := hidM (hT2.out.below HB.out)
          have y1 := HS1.out wr HB.out k hlt
          have y2 := HS2.out wr HB.out k hlt
          obtain ⟨g1, rfl, y1⟩ := y1
          obtain ⟨g2, rfl, y2⟩ := y2
          obtain ⟨f, hf, hfe⟩ := (HMEM.out L[k]).1 (List.getElem_mem hlt)
          have hx0 := item_ne hcl hf
          have hxs := (item_size hcl hf).1
          have hfs := (item_size hcl hf).2
          have HCS := hidM (cntK_succ (frontOf fol).size (undF gs (frontOf fol)) L HND.out k hlt)
          have HFILE := hidM (fun h47 => item_file HRS.out.apart hf h47)
          have HFOLD := hidM (fun (a : List UInt8) ha => (item_folder hf (a := a) ha).1)
          have HTF := hidM (fun (a : List UInt8) (ha : firstL (restL (frontOf fol).size f) = a ++ [47]) (P : ByteArray) hP => turn_folder hcl hf ha (P := P) hP)
          have HDAT := hidM (itemOf_data (frontOf fol).size f)
          rw [hfe] at hx0 hxs HFILE HFOLD HTF HDAT
          have hfg : f ∈ gs := (List.mem_filter.1 hf).1
          generalize L[k] = X at *
          have p1 : ¬ 9223372036854775807 < fol.size + 1 := by omega
          have p2 : ¬ 9223372036854775807 < fol.size + 1 + X.size := by omega
          have HPX : Hid (fol ++ { data := #[47] } ++ X = frontOf fol ++ X) := by unfold Hid frontOf slashB; rw [if_neg h0]
          have e1 : (X.toList == []) = false := by
            rw [ByteArray.toList_eq]
            refine beq_false_of_ne fun h => ?_
            have h8 := Lib.size_eq X
            rw [h] at h8
            simp only [List.length_nil] at h8
            omega
          obtain ⟨j, hj⟩ : ∃ j, j = X.size - 1 := ⟨_, rfl⟩
          have HJ : Hid (X.size = j + 1) := by unfold Hid; omega
          have j1 : (X.size : Int) - 1 = (j : Int) := by omega
          have j2 : (j : Int) < (X.size : Int) := by omega
          have jl : j < X.size := by omega
          have HLAST : Hid (X.data.toList = X.data.toList.dropLast ++ [X[j]'jl]) := by
            have := last_byte hx0
            unfold Hid
            simpa only [hj] using this
          obtain ⟨ch, hch⟩ : ∃ ch, ch = (X[j]'jl).toNat := ⟨_, rfl⟩
          have HCH := hidM hch
          have r0 : ((X[j]'jl).toNat : Int) = (ch : Int) := by omega
          clear hj hch hf hfe
          by_cases h47 : ch = 47
          · have HA : Hid (∃ a, firstL (restL (frontOf fol).size f) = a ++ [47]) := by
              refine ⟨X.data.toList.dropLast, ?_⟩
              rw [← HDAT.out, HLAST.out]
              have : X[j]'jl = 47 := by rw [← UInt8.toNat_inj]; rw [HCH.out] at h47; exact h47
              rw [this]; simp
            have r47 : ((X[j]'jl).toNat : Int) = 47 := by rw [r0, h47]; rfl
            clear r0
            obtain ⟨a, ha⟩ := HA.out
            obtain ⟨hG1, hG2, hG3, hP0⟩ := HTF.out a ha (fol ++ { data := #[47] } ++ X) HPX.out
            have HCX := hidM (HFOLD.out a ha)
            rw [← HPX.out] at HCX
            have HREC := hidM (HIH.out ((fol ++ { data := #[47] } ++ X).extract 0 ((fol ++ { data := #[47] } ++ X).size - 1)) wr HTW.out (.inr hG1) hG3)
            rw [hG2] at HREC
            have hun : (undF gs (fol ++ { data := #[47] } ++ X)).length ≤ 1000 := Nat.le_trans (List.length_filter_le _ _) hl
            have hcn : cntK (frontOf fol).size (undF gs (frontOf fol)) L k ≤ 1000 := by
              unfold cntK
              exact Nat.le_trans (List.length_filter_le _ _) (Nat.le_trans (List.length_filter_le _ _) hl)
            rw [HCX.out] at HCS
            generalize (undF gs (fol ++ { data := #[47] } ++ X)).length = R at *
            generalize cntK (frontOf fol).size (undF gs (frontOf fol)) L k = C at *
            have qd : decide ((R : Int) < 0) = false := by simp
            clear h47 hG1 hG2 hG3 ha
            go_upto_region 20 with fail
            clear p1 p2
            have hps : (fol ++ { data := #[47] } ++ X).size ≤ 401 := by
              rw [ByteArray.size_append, ByteArray.size_append]
              show fol.size + 1 + X.size ≤ 401
              omega
            generalize fol ++ { data := #[47] } ++ X = PP at *
            generalize fol ++ { data := #[47] } = FS at *
            obtain ⟨z, hz⟩ : ∃ z, z = PP.size - 1 := ⟨_, rfl⟩
            rw [← hz] at HREC
            have z1 : (PP.size : Int) - 1 = (z : Int) := by omega
            have z2 : (z : Int) ≤ (PP.size : Int) := by omega
            have z3 : z ≤ 401 := by omega
            clear hz
            go_wp2_with fail
            refine HREC.out.mono ?_
            rintro _ w3 ⟨rfl, hb3⟩
            have HB3 : Hid (Below w2.heap.size w2 w3) := HB.out.trans (hb3.mono HB.out.size)
            clear hb3
            go_wp2_with fail
            go_roundw
            case rel => exact ⟨k + 1, by omega, by go_num, by rw [HCS.out]; go_num, HB3.out⟩
            case measure => (show L.length - ((k : Int) + 1).toNat < L.length - ((k : Int)).toNat); omega
          · have HNA : Hid (∀ a, firstL (restL (frontOf fol).size f) ≠ a ++ [47]) := fun a ha => by
              rw [← HDAT.out, HLAST.out] at ha
              have := (List.append_inj' ha rfl).2
              have h9 : X[j]'jl = 47 := by simpa using this
              rw [HCH.out, h9] at h47; exact h47 rfl
            have qc : ((ch : Int) == 47) = false := by simp; omega
            have HFI := hidM (HFILE.out HNA.out)
            rw [HFI.out.2] at HCS
            have hcn : cntK (frontOf fol).size (undF gs (frontOf fol)) L k ≤ 1000 := by
              unfold cntK
              exact Nat.le_trans (List.length_filter_le _ _) (Nat.le_trans (List.length_filter_le _ _) hl)
            generalize cntK (frontOf fol).size (undF gs (frontOf fol)) L k = C at *
            have HPF : Hid (f.1 = (fol ++ { data := #[47] } ++ X)) := by unfold Hid; rw [HFI.out.1]; exact HPX.out.symm
            have HG1 := hidM (Get_any q1 b1 0 c1 gs (fol ++ { data := #[47] } ++ X) wr HTW.out.1 (by omega) HRS.out.rise)
            clear h47
            go_upto_region 15 with fail
            clear p1 p2
            generalize fol ++ { data := #[47] } ++ X = PP at *
            generalize fol ++ { data := #[47] } = FS at *
            go_wp2_with fail
            refine HG1.out.mono ?_
            rintro _ w3 ⟨hg, hb3⟩
            have HTW3 := hidM (HTW.out.below hb3)
            have HB3 : Hid (Below w2.heap.size w2 w3) := HB.out.trans (hb3.mono HB.out.size)
            clear hb3
            rcases hg with ⟨u1, hu1, hue1, rfl⟩ | ⟨hno, _⟩
            · have HU1 : Hid (u1 = f) := apart_eq HRS.out.apart hu1 hfg (by rw [hue1, HPF.out])
              have hu2 := HU1.out
              subst hu2
              clear hu1 hue1 HU1
              go_wp2_with fail
              refine (Get_any q2 b2 0 c2 gs PP w3 HTW3.out.2 (by omega) HRS.out.rise).mono ?_
              rintro _ w4 ⟨hg, hb4⟩
              have HB4 : Hid (Below w2.heap.size w2 w4) := HB3.out.trans (hb4.mono HB3.out.size)
              clear hb4
              rcases hg with ⟨u3, hu3, hue3, rfl⟩ | ⟨hno, _⟩
              · have HU3 : Hid (u3 = u1) := apart_eq HRS.out.apart hu3 hfg (by rw [hue3, HPF.out])
                have hu4 := HU3.out
                subst hu4
                clear hu3 hue3 HU3
                go_wp2_with fail
                go_roundw
                case rel => exact ⟨k + 1, by omega, by go_num, by rw [HCS.out]; go_num, HB4.out⟩
                case measure => (show L.length - ((k : Int) + 1).toNat < L.length - ((k : Int)).toNat); omega
              · exact absurd HPF.out (hno _ hfg)
            · exact absurd HPF.out (hno _ hfg)
        · obtain rfl : k = L.length := by omega
          rw [HALL.out]
          go_wp2_with fail
          go_ret
          exact ⟨rfl, HBW.out.trans (HB.out.mono HBW.out.size)⟩
end Go.Proofs.YtolohndbbnbfbaaDoor
