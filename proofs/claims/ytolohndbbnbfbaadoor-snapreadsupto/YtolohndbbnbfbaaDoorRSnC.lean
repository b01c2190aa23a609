/-
  The document's answer of snap: may these files stand together?
-/
import Derived.Test.YtolohndbbnbfbaaDoorRSnB
namespace Go.Proofs.YtolohndbbnbfbaaDoor
open Go.RowKit

set_option maxHeartbeats 1600000 in
theorem rbegins_any (f : FileB) (p : ByteArray) (w : World) :
    Calls Tryd.prog 52 #[.string f.1, .string p] w fun e w' => e = .returned (.bool (beginsF p f)) ∧ w' = w := by
  have HR : Hid ((decide (p.size ≤ f.1.size) && ((f.1.extract 0 p.size).toList == p.toList)) = beginsF p f) := Lib.hasPrefix_raw f.1 p
  generalize f.1 = X at *
  by_cases h : p.size ≤ X.size
  · have g : decide ((p.size : Int) ≤ (X.size : Int)) = true := by simp; omega
    have g2 : (p.size : Int) ≤ (X.size : Int) := by omega
    have HR2 : Hid (((X.extract 0 p.size).toList == p.toList) = beginsF p f) := by
      have := HR.out
      rwa [show decide (p.size ≤ X.size) = true by simpa using h, Bool.true_and] at this
    go_enter Tryd.func52, Tryd.ntmps52
    go_wp2_with fail
    go_ret
    exact ⟨by rw [← HR2.out]; rfl, rfl⟩
  · have g : decide ((p.size : Int) ≤ (X.size : Int)) = false := by simp; omega
    have HR2 : Hid (beginsF p f = false) := by
      have := HR.out
      rw [show decide (p.size ≤ X.size) = false by simpa using h, Bool.false_and] at this
      exact this.symm
    go_enter Tryd.func52, Tryd.ntmps52
    go_wp2_with fail
    go_ret
    exact ⟨by rw [HR2.out]; rfl, rfl⟩
/-- file t may stand beside the first m others -/
def FineTo (fs : List FileB) (f : FileB) (k m : Nat) : Prop := ∀ t (h : t < fs.length), t < m → t ≠ k → fs[t].1 ≠ f.1 ∧ beginsF (f.1 ++ slashB) fs[t] = false
def CheckPost (fs : List FileB) (e : Ending) : Prop := (bigF fs ∧ e = .returned (.int .i64 2)) ∨ (¬ bigF fs ∧ ¬ OkF fs ∧ e = .returned (.int .i64 4)) ∨ (¬ bigF fs ∧ OkF fs ∧ e = .returned (.int .i64 0))
theorem fine_ok {fs : List FileB} (h : ∀ k (hk : k < fs.length), cleanB fs[k].1 = true ∧ FineTo fs fs[k] k fs.length) : OkF fs := by
  refine ⟨fun f hf => ?_, List.pairwise_iff_getElem.2 fun i j hi hj hij => ?_, fun f hf g hg => ?_⟩
  · obtain ⟨t, ht, rfl⟩ := List.mem_iff_getElem.1 hf
    exact (h t ht).1
  · exact fun e => ((h j hj).2 i hi hi (by omega)).1 e
  · obtain ⟨t, ht, rfl⟩ := List.mem_iff_getElem.1 hf
    obtain ⟨s, hs, rfl⟩ := List.mem_iff_getElem.1 hg
    by_cases hst : s = t
    · subst hst
      refine Bool.eq_false_iff.2 fun h9 => ?_
      have h8 := begins_size h9
      rw [ByteArray.size_append] at h8
      have : slashB.size = 1 := rfl
      omega
    · exact ((h t ht).2 s hs hs hst).2
theorem fine_no {fs : List FileB} (ho : OkF fs) {k t : Nat} (hk : k < fs.length) (ht : t < fs.length) (hne : t ≠ k) : fs[t].1 ≠ fs[k].1 ∧ beginsF (fs[k].1 ++ slashB) fs[t] = false := by
  refine ⟨fun e => ?_, ho.2.2 _ (List.getElem_mem hk) _ (List.getElem_mem ht)⟩
  by_cases h : t < k
  · exact List.pairwise_iff_getElem.1 ho.2.1 t k ht hk h e
  · exact List.pairwise_iff_getElem.1 ho.2.1 k t hk ht (by omega) e.symm
set_option maxRecDepth 100000 in
set_option maxHeartbeats 6400000 in
theorem rcheck7_any (b off c : Nat) (fs : List FileB) (w : World) (hb : b < w.heap.size) (hf : FilesAt w b off fs) (hs : sizeF fs ≤ 4611686018427387904) (hl : fs.length ≤ 1000000) :
    Calls Tryd.prog 14 #[.slice (some ⟨b, off, none⟩) fs.length c] w fun e w' => CheckPost fs e ∧ Below w.heap.size w w' := by
  have HF := hidM hf
  clear hf
  go_enter Tryd.func14, Tryd.ntmps14
  go_wp2_with fail
  go_loopw [3, 5, 12] (fun v _ i wr => ∃ (k : Nat), k ≤ fs.length ∧ i = .int .i64 k ∧ v = .int .i64 (sizeF (fs.take k) : Nat) ∧ Below w.heap.size w wr) (fun _ _ i _ => fs.length - (intOf i).toNat)
  case atStart => exact ⟨0, Nat.zero_le _, rfl, rfl, Below.refl _ _⟩
  case round =>
    obtain ⟨k, hk, rfl, rfl, hb2⟩ := hrel
    have HB := hidM hb2
    clear hb2
    by_cases hlt : k < fs.length
    · have kk : (k : Int) < (fs.length : Int) := by omega
      have hc1 := (HF.out.below HB.out hb k hlt).1
      have hc2 := (HF.out.below HB.out hb k hlt).2
      have HT := hidM (sizeF_take fs k hlt)
      have h1 := sizeF_le fs k
      have h2 := sizeF_le fs (k + 1)
      rw [HT.out] at h2
      generalize sizeF (fs.take k) = S at *
      generalize fs[k].1 = P at *
      generalize fs[k].2 = D at *
      go_wp2_with fail
      go_roundw
      case rel => exact ⟨k + 1, by omega, by go_num, by rw [HT.out]; go_num, HB.out.alloc HB.out.size _⟩
      case measure => (show fs.length - ((k : Int) + 1).toNat < fs.length - ((k : Int)).toNat); omega
    · obtain rfl : k = fs.length := by omega
      rw [List.take_of_length_le (Nat.le_refl _)]
      by_cases h1 : 2000 < fs.length
      · have g1 : decide ((2000 : Int) < (fs.length : Int)) = true := by simp; omega
        have HE : Hid (bigF fs) := .inl h1
        go_wp2_with fail
        go_ret
        exact ⟨.inl ⟨HE.out, rfl⟩, HB.out⟩
      have g1 : decide ((2000 : Int) < (fs.length : Int)) = false := by simp; omega
      by_cases h2 : 4194304 < sizeF fs
      · have g2 : decide ((4194304 : Int) < (sizeF fs : Int)) = true := by simp; omega
        have HE : Hid (bigF fs) := .inr h2
        go_wp2_with fail
        go_ret
        exact ⟨.inl ⟨HE.out, rfl⟩, HB.out⟩
      have g2 : decide ((4194304 : Int) < (sizeF fs : Int)) = false := by simp; omega
      have HE : Hid (¬ bigF fs) := fun h => by rcases h with h | h <;> omega
      generalize wr = w0 at *
      go_wp2_with fail
      go_loopw [31] (fun i wr => ∃ (k : Nat), k ≤ fs.length ∧ i = .int .i64 k ∧ (∀ t (h : t < fs.length), t < k → cleanB fs[t].1 = true ∧ FineTo fs fs[t] t fs.length) ∧ Below w.heap.size w wr) (fun i _ => fs.length - (intOf i).toNat)
      case atStart => exact ⟨0, Nat.zero_le _, rfl, fun t _ h => by omega, HB.out⟩
      case round =>
        obtain ⟨k, hk, rfl, hd, hbr⟩ := hrel
        have HD := hidM hd
        have HBR := hidM hbr
        have hsr := hbr.size
        clear hd hbr
        by_cases hlt : k < fs.length
        · have kk : (k : Int) < (fs.length : Int) := by omega
          have c1 := (HF.out.below HBR.out hb k hlt).1
          have c2 := (HF.out.below HBR.out hb k hlt).2
          have HCN := hidM (fun W => rclean_any fs[k].1 W)
          obtain ⟨fk, hfk⟩ : ∃ fk : FileB, fk = fs[k] := ⟨_, rfl⟩
          have HFK := hidM hfk
          rw [← hfk] at c1 c2 HCN
          clear hfk
          have HBA : Hid (Below w.heap.size w (wr.alloc (.cells #[.string fk.1, .string fk.2] 32))) := HBR.out.alloc hsr _
          cases hcl : cleanB fk.1
          · have HNO : Hid (¬ OkF fs) := fun ho => by
              have := ho.1 fs[k] (List.getElem_mem hlt)
              rw [← HFK.out, hcl] at this; cases this
            rw [hcl] at HCN
            clear hcl
            go_wp2_with fail
            refine (HCN.out _).mono ?_
            rintro _ w3 ⟨rfl, hb3⟩
            go_wp2_with fail
            go_ret
            exact ⟨.inr (.inl ⟨HE.out, HNO.out, rfl⟩), HBA.out.trans (hb3.mono HBA.out.size)⟩
          · have HCL := hidM hcl
            have hsz := clean_size hcl
            rw [hcl] at HCN
            clear hcl
            go_wp2_with fail
            refine (HCN.out _).mono ?_
            rintro _ w3 ⟨rfl, hb3⟩
            have HB3 : Hid (Below w.heap.size w w3) := HBA.out.trans (hb3.mono HBA.out.size)
            have hP : wr.heap.size < w3.heap.size := by have := hb3.size; simp at this; omega
            have z0 : w3.cell? ⟨wr.heap.size, 0, none⟩ = some (.string fk.1) := (hb3.cell (p := ⟨wr.heap.size, 0, none⟩) (by simp)).trans (by simp)
            have HZ0 := hidM z0
            clear hb3 z0 c1 c2 HCN HBA hsr
            generalize wr.heap.size = P at *
            have HBEG := hidM (fun (f : FileB) W => rbegins_any f (fk.1 ++ { data := #[47] }) W)
            have HNOK : Hid (∀ t (h : t < fs.length), t ≠ k → (fs[t].1 = fk.1 ∨ beginsF (fk.1 ++ { data := #[47] }) fs[t] = true) → ¬ OkF fs) := fun t h hne hor ho => by
              have := fine_no ho hlt h hne
              rw [← HFK.out] at this
              rcases hor with h9 | h9
              · exact this.1 h9
              · have h8 := this.2
                unfold slashB at h8
                rw [h8] at h9; cases h9
            have HFIN : Hid (FineTo fs fk k fs.length → ∀ t (h : t < fs.length), t < k + 1 → cleanB fs[t].1 = true ∧ FineTo fs fs[t] t fs.length) := fun hfn t h ht => by
              by_cases h5 : t < k
              · exact HD.out t h h5
              · have : t = k := by omega
                subst this
                rw [← HFK.out]; exact ⟨HCL.out, hfn⟩
            have HFS : Hid (∀ m (h : m < fs.length), FineTo fs fk k m → (m ≠ k → fs[m].1 ≠ fk.1 ∧ beginsF (fk.1 ++ { data := #[47] }) fs[m] = false) → FineTo fs fk k (m + 1)) := fun m h h1 h2 t ht h3 h4 => by
              by_cases h5 : t < m
              · exact h1 t ht h5 h4
              · have : t = m := by omega
                subst this; exact h2 h4
            clear HD HFK HCL
            generalize fk.1 = X at *
            go_wp2_with fail
            go_loopw [42] (fun i wx => ∃ (m : Nat), m ≤ fs.length ∧ i = .int .i64 m ∧ FineTo fs fk k m ∧ Below w3.heap.size w3 wx) (fun i _ => fs.length - (intOf i).toNat)
            case atStart => exact ⟨0, Nat.zero_le _, rfl, fun t _ h => by omega, Below.refl _ _⟩
            case round =>
              obtain ⟨m, hm, rfl, hfn, hbx⟩ := hrel
              have HFN := hidM hfn
              have HBX := hidM hbx
              have hsx := hbx.size
              have HBWX : Hid (Below w.heap.size w wr) := HB3.out.trans (hbx.mono HB3.out.size)
              clear hfn hbx
              by_cases hml : m < fs.length
              · have mk : (m : Int) < (fs.length : Int) := by omega
                have y1 := (HF.out.below HBWX.out hb m hml).1
                have y2 := (HF.out.below HBWX.out hb m hml).2
                have zc : wr.cell? ⟨P, 0, none⟩ = some (.string X) := (HBX.out.cell (p := ⟨P, 0, none⟩) hP).trans HZ0.out
                have zc2 : (wr.alloc (.cells #[.string fs[m].1, .string fs[m].2] 32)).cell? ⟨P, 0, none⟩ = some (.string X) := Lib.cell?_alloc_some _ zc
                have HNK := hidM (HNOK.out m hml)
                have HNX := hidM (HFS.out m hml HFN.out)
                have HBG := hidM (fun W => HBEG.out fs[m] W)
                have HBA : Hid (Below w3.heap.size w3 (wr.alloc (.cells #[.string fs[m].1, .string fs[m].2] 32))) := HBX.out.alloc hsx _
                have HBA2 : Hid (Below w.heap.size w (wr.alloc (.cells #[.string fs[m].1, .string fs[m].2] 32))) := HBWX.out.alloc HBWX.out.size _
                generalize beginsF (X ++ { data := #[47] }) fs[m] = BB at *
                generalize fs[m].1 = Y at *
                generalize fs[m].2 = D at *
                clear zc
                by_cases hmk : m = k
                · subst hmk
                  have HN := hidM (HNX.out (fun h => absurd rfl h))
                  go_wp2_with fail
                  go_roundw
                  case rel => exact ⟨m + 1, by omega, by go_num, HN.out, HBA.out⟩
                  case measure => (show fs.length - ((m : Int) + 1).toNat < fs.length - ((m : Int)).toNat); omega
                · have qn : ((k : Int) == (m : Int)) = false := by simp; omega
                  have hkm : ¬ k = m := fun e => hmk e.symm
                  have qi : ¬ (k : Int) = (m : Int) := by omega
                  by_cases hYX : Y = X
                  · have HNO := hidM (HNK.out hmk (.inl hYX))
                    subst hYX
                    go_wp2_with fail
                    go_ret
                    exact ⟨.inr (.inl ⟨HE.out, HNO.out, rfl⟩), HBA2.out⟩
                  · have e1 : (Y.toList == X.toList) = false := by
                      rw [ByteArray.toList_eq, ByteArray.toList_eq]
                      exact beq_false_of_ne fun h => hYX (ba_eq h)
                    cases BB
                    · have HN := hidM (HNX.out (fun _ => ⟨hYX, rfl⟩))
                      clear hYX hmk
                      go_wp2_with fail
                      refine (HBG.out _).mono ?_
                      rintro _ w5 ⟨rfl, rfl⟩
                      go_wp2_with fail
                      go_roundw
                      case rel => exact ⟨m + 1, by omega, by go_num, HN.out, HBA.out⟩
                      case measure => (show fs.length - ((m : Int) + 1).toNat < fs.length - ((m : Int)).toNat); omega
                    · have HNO := hidM (HNK.out hmk (.inr rfl))
                      clear hYX hmk
                      go_wp2_with fail
                      refine (HBG.out _).mono ?_
                      rintro _ w5 ⟨rfl, rfl⟩
                      go_wp2_with fail
                      go_ret
                      exact ⟨.inr (.inl ⟨HE.out, HNO.out, rfl⟩), HBA2.out⟩
              · obtain rfl : m = fs.length := by omega
                have HN := hidM (HFIN.out HFN.out)
                go_wp2_with fail
                go_roundw
                case rel => exact ⟨k + 1, by omega, by go_num, HN.out, HBWX.out⟩
                case measure => (show fs.length - ((k : Int) + 1).toNat < fs.length - ((k : Int)).toNat); omega
        · have HOK : Hid (OkF fs) := fine_ok (fun t ht => HD.out t ht (by omega))
          have kk : ¬ (k : Int) < (fs.length : Int) := by omega
          go_wp2_with fail
          go_ret
          exact ⟨.inr (.inr ⟨HE.out, HOK.out, rfl⟩), HBR.out⟩
end Go.Proofs.YtolohndbbnbfbaaDoor
