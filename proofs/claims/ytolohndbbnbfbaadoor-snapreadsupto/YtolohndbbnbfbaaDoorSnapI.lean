/-
  Does a file stand where another one's path has a folder?
-/
import Derived.Test.YtolohndbbnbfbaaDoorSnapH
namespace Go.Proofs.YtolohndbbnbfbaaDoor
open Go.RowKit

def slashB : ByteArray := ⟨#[47]⟩
/-- no file's path, with a slash, begins another one's up to k -/
def FolTo (fs : List FileB) (k : Nat) : Prop := ∀ t (h : t < fs.length), t < k → undF fs (fs[t].1 ++ slashB) = []
open Classical in
noncomputable def folderB (fs : List FileB) : Bool := !decide (FolTo fs fs.length)
set_option maxHeartbeats 1600000 in
theorem asFolder_any (q b off c : Nat) (fs : List FileB) (w : World) (hF : Folder w q b off c fs) (hl : fs.length ≤ 1000000) (hr : Rise fs) (hp : ∀ f ∈ fs, f.1.size ≤ 200) :
    Calls Tryd.prog 51 #[.pointer (some ⟨q, 0, none⟩)] w fun e w' => e = .returned (.bool (folderB fs)) ∧ Below w.heap.size w w' := by
  have HFO := hidM hF
  have HP := hidM hp
  have HU := hidM (fun (W : World) (p : ByteArray) (hW : Folder W q b off c fs) => under_any q b off c fs p W hW hl (hr.mono p))
  have HRU := hidM (fun (p : ByteArray) (i : Nat) (hs : Spot fs p i) => runF_filter hr hs)
  have hc := hF.cell
  clear hF hp hr
  go_enter Tryd.func51, Tryd.ntmps51
  go_wp2_with fail
  go_loopw [4, 10] (fun _ i wr => ∃ (k : Nat), k ≤ fs.length ∧ i = .int .i64 k ∧ FolTo fs k ∧ Below w.heap.size w wr) (fun _ i _ => fs.length - (intOf i).toNat)
  case atStart => exact ⟨0, Nat.zero_le _, rfl, fun t _ h => by omega, Below.refl _ _⟩
  case round =>
    obtain ⟨k, hk, rfl, hd, hb⟩ := hrel
    have HD := hidM hd
    have HB := hidM hb
    have HF := hidM (HFO.out.below hb)
    clear hd hb
    by_cases hlt : k < fs.length
    · have kk : (k : Int) < (fs.length : Int) := by omega
      have c1 := (HF.out.files k hlt).1
      have c2 := (HF.out.files k hlt).2
      have hs := HP.out fs[k] (List.getElem_mem hlt)
      have HT : Hid (undF fs (fs[k].1 ++ slashB) ≠ [] → folderB fs = true) := fun hne => by
        unfold folderB
        simp only [Bool.not_eq_true', decide_eq_false_iff_not]
        exact fun h => hne (h k hlt hlt)
      have HN : Hid (undF fs (fs[k].1 ++ slashB) = [] → FolTo fs (k + 1)) := fun he t h ht => by
        by_cases h5 : t < k
        · exact HD.out t h h5
        · have : t = k := by omega
          subst this; exact he
      have HU2 := hidM (fun W hW => HU.out W (fs[k].1 ++ slashB) hW)
      have HR2 : Hid (∀ i, Spot fs (fs[k].1 ++ slashB) i → runF fs (fs[k].1 ++ slashB) i = (undF fs (fs[k].1 ++ slashB)).length) := fun i h9 => HRU.out _ i h9
      unfold slashB at HT HN HU2 HR2
      generalize fs[k].1 = X at *
      generalize fs[k].2 = D at *
      go_wp2_with fail
      refine (HU2.out _ (HF.out.below ((Below.refl _ _).alloc (Nat.le_refl _) _))).mono ?_
      rintro _ w2 ⟨⟨i, o, c', hsp, ho, hc', rfl⟩, hb2⟩
      have hrun := HR2.out i hsp
      have HB2 : Hid (Below w.heap.size w w2) := (HB.out.alloc HB.out.size _).trans (hb2.mono (by have := HB.out.size; simp; omega))
      rw [hrun]
      clear hsp ho hc' hb2 hrun
      by_cases he : undF fs (X ++ { data := #[47] }) = []
      · have HN2 := hidM (HN.out he)
        rw [he]
        go_wp2_with fail
        go_roundw
        case rel => exact ⟨k + 1, by omega, by go_num, HN2.out, HB2.out⟩
        case measure => (show fs.length - ((k : Int) + 1).toNat < fs.length - ((k : Int)).toNat); omega
      · have HT2 := hidM (HT.out he)
        have h0 : 0 < (undF fs (X ++ { data := #[47] })).length := List.length_pos_iff.2 he
        generalize (undF fs (X ++ { data := #[47] })).length = L at *
        have hg : decide ((0 : Int) < (L : Int)) = true := by simp; omega
        clear he
        go_wp2_with fail
        go_ret
        exact ⟨by rw [HT2.out]; rfl, HB2.out⟩
    · have HT : Hid (folderB fs = false) := by
        unfold Hid folderB
        simp only [Bool.not_eq_false', decide_eq_true_eq]
        intro t h _
        exact HD.out t h (by omega)
      obtain rfl : k = fs.length := by omega
      go_wp2_with fail
      go_ret
      exact ⟨by rw [HT.out]; rfl, HB.out⟩
theorem folder_iff {fs : List FileB} : folderB fs = false ↔ ∀ f ∈ fs, ∀ g ∈ fs, beginsF (f.1 ++ slashB) g = false := by
  unfold folderB
  simp only [Bool.not_eq_false', decide_eq_true_eq]
  constructor
  · intro h f hf g hg
    obtain ⟨t, ht, rfl⟩ := List.mem_iff_getElem.1 hf
    have := h t ht ht
    unfold undF at this
    have h2 := List.filter_eq_nil_iff.1 this g hg
    simpa using h2
  · intro h t ht _
    unfold undF
    rw [List.filter_eq_nil_iff]
    intro g hg
    rw [h _ (List.getElem_mem ht) g hg]; simp
end Go.Proofs.YtolohndbbnbfbaaDoor
