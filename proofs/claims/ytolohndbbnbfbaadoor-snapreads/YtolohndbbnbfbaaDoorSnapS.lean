/-
  SnapBeginnings: with a longer beginning fewer paths are told, all of those with the shorter one.
-/
import Derived.Test.YtolohndbbnbfbaaDoorSnapR
namespace Go.Proofs.YtolohndbbnbfbaaDoor
open Go.RowKit

theorem filter_at {α : Type} (q : α → Bool) (l : List α) (i : Nat) (h : i < l.length) (hq : q l[i] = true) : (l.filter q)[((l.take i).filter q).length]? = some l[i] := by
  have e : l.filter q = (l.take i).filter q ++ l[i] :: (l.drop (i + 1)).filter q := by
    conv => lhs; rw [← List.take_append_drop i l, List.drop_eq_getElem_cons h]
    rw [List.filter_append, List.filter_cons, if_pos hq]
  rw [e, List.getElem?_append_right (Nat.le_refl _)]
  simp
theorem filter_count {α : Type} (q : α → Bool) (l : List α) (i : Nat) (h : i < l.length) : ((l.take (i + 1)).filter q).length = ((l.take i).filter q).length + if q l[i] then 1 else 0 := by
  rw [List.take_succ_eq_append_getElem h, List.filter_append, List.length_append]
  by_cases hq : q l[i] = true <;> simp [hq]
theorem begins_more {p m : ByteArray} {f : FileB} (h : beginsF (p ++ m) f = true) : beginsF p f = true := by
  unfold beginsF Lib.hasPrefix at *
  rw [List.isPrefixOf_iff_prefix] at *
  refine List.IsPrefix.trans ?_ h
  have : (p ++ m).data.toList = p.data.toList ++ m.data.toList := by simp
  rw [this]
  exact List.prefix_append _ _
theorem und_more (fs : List FileB) (p m : ByteArray) : undF fs (p ++ m) = (undF fs p).filter (beginsF (p ++ m)) := by
  unfold undF
  rw [List.filter_filter]
  refine List.filter_congr fun f _ => ?_
  by_cases h : beginsF (p ++ m) f = true
  · rw [h, begins_more h]; rfl
  · have : beginsF (p ++ m) f = false := by simpa using h
    rw [this]; rfl
theorem begins_extract {p : ByteArray} {f : FileB} (h : beginsF p f = true) : f.1.extract 0 p.size = p := by
  refine ba_eq ?_
  rw [Lib.extract_data]
  have := List.prefix_iff_eq_take.1 (List.isPrefixOf_iff_prefix.1 h)
  simp only [List.drop_zero, Nat.sub_zero]
  rw [Lib.size_eq]
  exact this.symm
theorem und_all (fs : List FileB) : undF fs ⟨#[]⟩ = fs := by
  unfold undF
  rw [List.filter_eq_self]
  intro f _
  rfl
theorem riseS_und {fs : List FileB} (h : RiseS fs) (p : ByteArray) : RiseS (undF fs p) := List.Pairwise.filter _ h
theorem sizeF_each (fs : List FileB) (M : Nat) (h : ∀ f ∈ fs, f.2.size ≤ M) : sizeF fs ≤ fs.length * M := by
  induction fs with
  | nil => simp [sizeF]
  | cons f fs ih =>
    have h1 := h f List.mem_cons_self
    have h2 := ih (fun g hg => h g (List.mem_cons_of_mem _ hg))
    unfold sizeF at *
    rw [List.map_cons, List.sum_cons, List.length_cons, Nat.add_mul]; omega
theorem size_few (fs : List FileB) (n : Nat) (hn : n ≤ 2000) (h : ∀ f ∈ fs, f.2.size ≤ 140737488355328) : sizeF (fs.take n) ≤ 4611686018427387904 := by
  have h1 := sizeF_each (fs.take n) 140737488355328 (fun f hf => h f (List.mem_of_mem_take hf))
  have h2 : (fs.take n).length ≤ n := by simp; omega
  have h3 := Nat.mul_le_mul_right 140737488355328 h2
  omega
theorem less_cmp0 (x : List UInt8) : ∀ y, Op.bytesLess x y = decide (Lib.compareBytes x y < 0) := by
  induction x with
  | nil => intro y; cases y <;> simp [Op.bytesLess, Lib.compareBytes]
  | cons a x ih =>
    intro y
    cases y with
    | nil => simp [Op.bytesLess, Lib.compareBytes]
    | cons b y =>
      rw [cmp_cons, Op.bytesLess, ih y]
      by_cases h1 : a.toNat < b.toNat
      · have : a < b := (u8_lt a b).2 h1
        rw [if_pos h1]; simp [this]
      · have h1' : ¬ a < b := fun h => h1 ((u8_lt a b).1 h)
        rw [if_neg h1]
        by_cases h2 : b.toNat < a.toNat
        · have : (a == b) = false := beq_false_of_ne fun h => by rw [h] at h2; omega
          rw [if_pos h2, this]; simp [h1']
        · have : a = b := by rw [← UInt8.toNat_inj]; omega
          rw [if_neg h2, this]; simp
theorem less_cmp {a b : ByteArray} (h : Lib.compareBytes a.data.toList b.data.toList < 0) : Op.bytesLess a.toList b.toList = true := by
  rw [ByteArray.toList_eq, ByteArray.toList_eq, less_cmp0]
  simpa using h
set_option maxHeartbeats 3200000 in
theorem beginnings_walk (v : Value) (fs : List FileB) (front more : ByteArray) (w : World) (hV : FilesV w v fs) (hsz : ∀ f ∈ fs, f.2.size ≤ 140737488355328) (hs1 : front.size ≤ 140737488355328) (hs2 : more.size ≤ 140737488355328) :
    Calls Tryd.prog 6 #[v, .string front, .string more] w fun e w' => e = .returned (.bool true) ∧ Below w.heap.size w w' := by
  have HFW := hidM (few_any v 60 fs w hV (by decide))
  have HSZ : Hid (sizeF (fs.take 60) ≤ 4611686018427387904) := size_few fs 60 (by decide) hsz
  have htl : (fs.take 60).length ≤ 60 := by simp; omega
  generalize fs.take 60 = us at *
  clear hV hsz
  go_enter Tryd.func6, Tryd.ntmps6
  go_wp2_with fail
  refine HFW.out.mono ?_
  rintro _ w1 ⟨⟨g, cap, rfl, hg1, hg2, hcap, hH⟩, hb1⟩
  have HF := hidM (FilesAt.of_holds hH)
  have HB1 := hidM hb1
  clear hH hb1
  go_wp2_with fail
  refine (new_any g 0 cap us w1 hg2 HF.out HSZ.out (by omega)).mono ?_
  rintro _ w2 ⟨hp, hb2⟩
  have HB2 : Hid (Below w.heap.size w w2) := HB1.out.trans (hb2.mono HB1.out.size)
  clear hb2
  rcases hp with ⟨_, rfl⟩ | ⟨_, _, rfl⟩ | ⟨_, _, gs, q, b, c, hperm, hrs, hF, _, _, rfl⟩
  · unfold newR
    go_wp2_with fail
    refine (awake7_any _).mono ?_
    rintro _ w3 ⟨rfl, hb3⟩
    go_wp2_with fail
    go_ret
    exact ⟨rfl, HB2.out.trans (hb3.mono HB2.out.size)⟩
  · unfold newR
    go_wp2_with fail
    refine (awake7_any _).mono ?_
    rintro _ w3 ⟨rfl, hb3⟩
    go_wp2_with fail
    go_ret
    exact ⟨rfl, HB2.out.trans (hb3.mono HB2.out.size)⟩
  have hgl : gs.length ≤ 60 := by rw [hperm.length_eq]; exact htl
  have HRS := hidM hrs
  have HFO := hidM hF
  clear hperm hrs hF HF HFW HSZ
  unfold newR
  go_wp2_with fail
  refine (Under_any q b 0 c gs front _ HFO.out (by omega) HRS.out.rise).mono ?_
  rintro _ w3 ⟨⟨va, hva, rfl⟩, hb3⟩
  have HF3 := hidM (HFO.out.below hb3)
  have HA3 := hidM hva.strs
  have HB3 : Hid (Below w.heap.size w w3) := HB2.out.trans (hb3.mono HB2.out.size)
  clear hva hb3
  go_wp2_with fail
  refine (Under_any q b 0 c gs (front ++ more) _ HF3.out (by omega) HRS.out.rise).mono ?_
  rintro _ w4 ⟨⟨vb, hvb, rfl⟩, hb4⟩
  have HF4 := hidM (HF3.out.below hb4)
  have HA4 := hidM (HA3.out.below hb4)
  have HC4 := hidM hvb.strs
  have HB4 : Hid (Below w.heap.size w w4) := HB3.out.trans (hb4.mono HB3.out.size)
  clear hvb hb4 HA3
  obtain ⟨a1, c1, rfl, hs1⟩ := HA4.out
  obtain ⟨a2, c2, rfl, hs2⟩ := HC4.out
  have HS1 := hidM hs1
  have HS2 := hidM hs2
  clear hs1 hs2 HA4 HC4
  have HM := hidM (und_more gs front more)
  have HRA := hidM (riseS_und HRS.out front)
  have HAB : Hid (∀ f ∈ undF gs front, beginsF front f = true) := fun f hf => (List.mem_filter.1 hf).2
  have HP1 : Hid ((pathsL (undF gs front)).length = (undF gs front).length) := by unfold Hid pathsL; simp
  have HP2 : Hid ((pathsL (undF gs (front ++ more))).length = (undF gs (front ++ more)).length) := by unfold Hid pathsL; simp
  have hAl : (undF gs front).length ≤ 60 := Nat.le_trans (List.length_filter_le _ _) hgl
  rw [HP1.out, HP2.out]
  have HG1 : Hid (∀ i (h : i < (undF gs front).length), ∃ g, a1 = some ⟨g, 0, none⟩ ∧ w4.cell? ⟨g, i, none⟩ = some (.string (undF gs front)[i].1)) := fun i h => by
    obtain ⟨g, h1, _, h2⟩ := HS1.out (fun hh => by have := HP1.out; rw [hh] at this; simp at this; omega)
    have := h2 i (by rw [HP1.out]; exact h)
    exact ⟨g, h1, by rw [this]; simp [pathsL]⟩
  have HG2 : Hid (∀ i (h : i < (undF gs (front ++ more)).length), ∃ g, a2 = some ⟨g, 0, none⟩ ∧ w4.cell? ⟨g, i, none⟩ = some (.string (undF gs (front ++ more))[i].1)) := fun i h => by
    obtain ⟨g, h1, _, h2⟩ := HS2.out (fun hh => by have := HP2.out; rw [hh] at this; simp at this; omega)
    have := h2 i (by rw [HP2.out]; exact h)
    exact ⟨g, h1, by rw [this]; simp [pathsL]⟩
  clear HS1 HS2 HP1 HP2
  rw [HM.out] at HG2
  rw [HM.out]
  generalize undF gs front = A at *
  generalize hqq : beginsF (front ++ more) = qq at *
  have HQ : Hid (∀ f : FileB, qq f = beginsF (front ++ more) f) := fun f => by rw [hqq]
  clear hqq HM
  generalize hBl : A.filter qq = Bl at *
  have HBL := hidM hBl
  have hBll : Bl.length ≤ 60 := by rw [← hBl]; exact Nat.le_trans (List.length_filter_le _ _) hAl
  clear hBl
  go_wp2_with fail
  go_loopw [11, 12, 13, 41] (fun kv _ _ iv wr => ∃ (i : Nat), i ≤ A.length ∧ iv = .int .i64 i ∧ kv = .int .i64 (((A.take i).filter qq).length : Nat) ∧ wr = w4) (fun _ _ _ i _ => A.length - (intOf i).toNat)
  case atStart => exact ⟨0, Nat.zero_le _, rfl, rfl, rfl⟩
  case round =>
    obtain ⟨i, hi, rfl, rfl, rfl⟩ := hrel
    by_cases hlt : i < A.length
    · have kk : (i : Int) < (A.length : Int) := by omega
      obtain ⟨g1, rfl, d1⟩ := HG1.out i hlt
      have hbeg := HAB.out A[i] (List.getElem_mem hlt)
      have e1 : decide ((A[i].1.size : Int) < (front.size : Int)) = false := by have := begins_size hbeg; simp; omega
      have e1' : (front.size : Int) ≤ (A[i].1.size : Int) := by have := begins_size hbeg; omega
      have e2 : ((A[i].1.extract 0 front.size).toList == front.toList) = true := by rw [begins_extract hbeg]; simp
      clear hbeg
      have HC := hidM (filter_count qq A i hlt)
      have HRA2 := HRA
      by_cases hq : qq A[i] = true
      · have HAT := hidM (filter_at qq A i hlt hq)
        rw [HBL.out] at HAT
        rw [hq, if_pos rfl] at HC
        obtain ⟨hkl, hke⟩ := List.getElem?_eq_some_iff.1 HAT.out
        generalize hkk : ((A.take i).filter qq).length = k at *
        obtain ⟨g2, rfl, d2⟩ := HG2.out k hkl
        have k2 : (k : Int) < (Bl.length : Int) := by omega
        rw [hke] at d2
        clear hke HAT hkk hq
        by_cases hi0 : i = 0
        · subst hi0
          generalize A[0].1 = X at *
          go_wp2_with fail
          go_roundw
          case rel => exact ⟨1, by omega, by go_num, by rw [HC.out]; go_num, trivial⟩
          case measure => (show A.length - ((0 : Int) + 1).toNat < A.length - ((0 : Int)).toNat); omega
        · obtain ⟨j, hj⟩ : ∃ j, j = i - 1 := ⟨_, rfl⟩
          have hjl : j < A.length := by omega
          have r1 : (i : Int) - 1 = (j : Int) := by omega
          have r2 : (j : Int) < (A.length : Int) := by omega
          have r3 : decide ((0 : Int) < (i : Int)) = true := by simp; omega
          have HLT : Hid (cmpF A[j] A[i] < 0) := List.pairwise_iff_getElem.1 HRA.out j i hjl hlt (by omega)
          obtain ⟨g1', hg', d3⟩ := HG1.out j hjl
          obtain rfl : g1 = g1' := by simpa using hg'
          clear hg' hj
          unfold cmpF at HLT
          have e3 := less_cmp HLT.out
          generalize A[i].1 = X at *
          generalize A[j].1 = Y at *
          go_wp2_with fail
          go_roundw
          case rel => exact ⟨i + 1, by omega, by go_num, by rw [HC.out]; go_num, trivial⟩
          case measure => (show A.length - ((i : Int) + 1).toNat < A.length - ((i : Int)).toNat); omega
      · have hq' : qq A[i] = false := by simpa using hq
        rw [hq', if_neg (by decide), Nat.add_zero] at HC
        have HNE : Hid (∀ f ∈ Bl, f.1 ≠ A[i].1) := fun f hf he => by
          rw [← HBL.out] at hf
          have h1 := (List.mem_filter.1 hf).2
          rw [HQ.out] at h1 hq'
          unfold beginsF at h1 hq'
          rw [he, hq'] at h1
          cases h1
        generalize ((A.take i).filter qq).length = k at *
        clear hq hq'
        by_cases hkl : k < Bl.length
        · obtain ⟨g2, rfl, d2⟩ := HG2.out k hkl
          have k2 : (k : Int) < (Bl.length : Int) := by omega
          have e4 : (Bl[k].1.toList == A[i].1.toList) = false := by
            rw [ByteArray.toList_eq, ByteArray.toList_eq]
            exact beq_false_of_ne fun h => HNE.out _ (List.getElem_mem hkl) (ba_eq h)
          generalize Bl[k].1 = Z at *
          by_cases hi0 : i = 0
          · subst hi0
            generalize A[0].1 = X at *
            go_wp2_with fail
            go_roundw
            case rel => exact ⟨1, by omega, by go_num, by rw [HC.out]; rfl, trivial⟩
            case measure => (show A.length - ((0 : Int) + 1).toNat < A.length - ((0 : Int)).toNat); omega
          · obtain ⟨j, hj⟩ : ∃ j, j = i - 1 := ⟨_, rfl⟩
            have hjl : j < A.length := by omega
            have r1 : (i : Int) - 1 = (j : Int) := by omega
            have r2 : (j : Int) < (A.length : Int) := by omega
            have r3 : decide ((0 : Int) < (i : Int)) = true := by simp; omega
            have HLT : Hid (cmpF A[j] A[i] < 0) := List.pairwise_iff_getElem.1 HRA.out j i hjl hlt (by omega)
            obtain ⟨g1', hg', d3⟩ := HG1.out j hjl
            obtain rfl : g1 = g1' := by simpa using hg'
            clear hg' hj
            unfold cmpF at HLT
            have e3 := less_cmp HLT.out
            generalize A[i].1 = X at *
            generalize A[j].1 = Y at *
            go_wp2_with fail
            go_roundw
            case rel => exact ⟨i + 1, by omega, by go_num, by rw [HC.out]; rfl, trivial⟩
            case measure => (show A.length - ((i : Int) + 1).toNat < A.length - ((i : Int)).toNat); omega
        · have k2 : decide ((k : Int) < (Bl.length : Int)) = false := by simp; omega
          by_cases hi0 : i = 0
          · subst hi0
            generalize A[0].1 = X at *
            go_wp2_with fail
            go_roundw
            case rel => exact ⟨1, by omega, by go_num, by rw [HC.out]; rfl, trivial⟩
            case measure => (show A.length - ((0 : Int) + 1).toNat < A.length - ((0 : Int)).toNat); omega
          · obtain ⟨j, hj⟩ : ∃ j, j = i - 1 := ⟨_, rfl⟩
            have hjl : j < A.length := by omega
            have r1 : (i : Int) - 1 = (j : Int) := by omega
            have r2 : (j : Int) < (A.length : Int) := by omega
            have r3 : decide ((0 : Int) < (i : Int)) = true := by simp; omega
            have HLT : Hid (cmpF A[j] A[i] < 0) := List.pairwise_iff_getElem.1 HRA.out j i hjl hlt (by omega)
            obtain ⟨g1', hg', d3⟩ := HG1.out j hjl
            obtain rfl : g1 = g1' := by simpa using hg'
            clear hg' hj
            unfold cmpF at HLT
            have e3 := less_cmp HLT.out
            generalize A[i].1 = X at *
            generalize A[j].1 = Y at *
            go_wp2_with fail
            go_roundw
            case rel => exact ⟨i + 1, by omega, by go_num, by rw [HC.out]; rfl, trivial⟩
            case measure => (show A.length - ((i : Int) + 1).toNat < A.length - ((i : Int)).toNat); omega
    · obtain rfl : i = A.length := by omega
      rw [List.take_of_length_le (Nat.le_refl _), HBL.out]
      have HU := hidM (fun W hW => Under_any q b 0 c gs ⟨#[]⟩ W hW (by omega) HRS.out.rise)
      rw [und_all] at HU
      have HPL : Hid ((pathsL gs).length = gs.length) := by unfold Hid pathsL; simp
      have e9 : ((Bl.length : Int) == (Bl.length : Int)) = true := by simp
      go_wp2_with fail
      refine (awake7_any _).mono ?_
      rintro _ w5 ⟨rfl, hb5⟩
      have HF5 := hidM (HF4.out.below hb5)
      have HB5 : Hid (Below w.heap.size w w5) := HB4.out.trans (hb5.mono HB4.out.size)
      clear hb5
      go_wp2_with fail
      refine (HU.out _ HF5.out).mono ?_
      rintro _ w6 ⟨⟨vu, hvu, rfl⟩, hb6⟩
      have HF6 := hidM (HF5.out.below hb6)
      have HB6 : Hid (Below w.heap.size w w6) := HB5.out.trans (hb6.mono HB5.out.size)
      obtain ⟨au, cu, hvv, _⟩ := hvu.strs
      rw [HPL.out] at hvv
      subst hvv
      clear hb6 hvu
      go_wp2_with fail
      refine (len_any q b 0 c gs _ HF6.out).mono ?_
      rintro _ w7 ⟨rfl, rfl⟩
      go_wp2_with fail
      go_ret
      exact ⟨by simp, HB6.out⟩
end Go.Proofs.YtolohndbbnbfbaaDoor
