/-
  What stands in a folder; two lists held against each other.
-/
import Derived.Test.YtolohndbbnbfbaaDoorSnapN
namespace Go.Proofs.YtolohndbbnbfbaaDoor
open Go.RowKit

def listE (fs : List FileB) (p : ByteArray) : Nat := if p.size = 0 then 0 else if cleanB p then (if undF fs (p ++ slashB) = [] then 7 else 0) else 4
def listL (fs : List FileB) (p : ByteArray) : List ByteArray := if p.size = 0 then itemsF 0 fs else if cleanB p then itemsF (p.size + 1) (undF fs (p ++ slashB)) else []
def ListRet (w : World) (B : Nat) (fs : List FileB) (p : ByteArray) (e : Ending) : Prop := ∃ v, OwnS w B v (listL fs p) ∧ e = .returned (.tuple #[v, .int .i64 (listE fs p : Nat)])
theorem stepI_ne (acc : List ByteArray) (x : ByteArray) : stepI acc x ≠ [] := by
  unfold stepI
  split
  · rename_i h; intro he; rw [he] at h; simp at h
  · simp
theorem itemsF_nil {n : Nat} {us : List FileB} : itemsF n us = [] ↔ us = [] := by
  constructor
  · intro h
    refine Classical.byContradiction fun hne => ?_
    have h0 := List.length_pos_iff.2 hne
    have := itemsF_take n us (us.length - 1) (by omega)
    rw [show us.length - 1 + 1 = us.length by omega, List.take_of_length_le (Nat.le_refl _), h] at this
    exact stepI_ne _ _ this.symm
  · rintro rfl; rfl
theorem begins_size {p : ByteArray} {f : FileB} (h : beginsF p f = true) : p.size ≤ f.1.size := by
  have := (List.isPrefixOf_iff_prefix.1 h).length_le
  rwa [← Lib.size_eq, ← Lib.size_eq] at this
theorem own_mono {w : World} {B B' : Nat} {v : Value} {l : List ByteArray} (h : OwnS w B v l) (hB : B' ≤ B) : OwnS w B' v l := by
  refine ⟨h.1, ?_⟩
  rcases h.2 with hn | ⟨g, cap, cur, h1, h2, h3⟩
  · exact .inl hn
  · exact .inr ⟨g, cap, cur, h1, Nat.le_trans hB h2, h3⟩
set_option maxHeartbeats 1600000 in
theorem List_any (q b off c : Nat) (fs : List FileB) (p : ByteArray) (w : World) (hF : Folder w q b off c fs) (hl : fs.length ≤ 1000000) (hr : Rise fs) (hp : ∀ f ∈ fs, f.1.size ≤ 200) :
    Calls Tryd.prog 20 #[.pointer (some ⟨q, 0, none⟩), .string p] w fun e w' => ListRet w' w.heap.size fs p e ∧ Below w.heap.size w w' := by
  have HF := hidM hF
  have HR := hidM hr
  have HP := hidM hp
  clear hF hr hp
  by_cases h0 : p.size = 0
  · have hpe : p = ByteArray.empty := by
      refine ba_eq ?_
      have := Lib.size_eq p
      rw [h0] at this
      rw [List.eq_nil_of_length_eq_zero this.symm]; rfl
    have HL : Hid (listL fs p = itemsF 0 fs ∧ listE fs p = 0) := ⟨by unfold listL; rw [if_pos h0], by unfold listE; rw [if_pos h0]⟩
    have hc := HF.out.cell
    have HIT : Hid (Calls Tryd.prog 57 #[.slice (some ⟨b, off, none⟩) fs.length c, .string ⟨#[]⟩] w fun e w' => SlRet w' w.heap.size (itemsF 0 fs) e ∧ Below w.heap.size w w') :=
      items_any b off c fs ⟨#[]⟩ w HF.out.blt HF.out.files hl (fun f hf => ⟨Nat.zero_le _, by have := HP.out f hf; omega⟩)
    have e1 : (p.toList == []) = true := by rw [ByteArray.toList_eq, hpe]; rfl
    clear h0 hpe
    go_enter Tryd.func20, Tryd.ntmps20
    go_wp2_with fail
    refine HIT.out.mono ?_
    rintro _ w1 ⟨⟨v, hv, rfl⟩, hb1⟩
    have HV := hidM hv
    clear hv
    go_wp2_with fail
    go_ret2
    exact ⟨⟨v, by rw [HL.out.1]; exact HV.out, by rw [HL.out.2]; rfl⟩, hb1⟩
  have e1 : (p.toList == []) = false := by
    rw [ByteArray.toList_eq]
    refine beq_false_of_ne fun h => h0 ?_
    rw [Lib.size_eq, h]; rfl
  cases hcl : cleanB p
  · have HL : Hid (listL fs p = [] ∧ listE fs p = 4) := ⟨by unfold listL; rw [if_neg h0, hcl]; rfl, by unfold listE; rw [if_neg h0, hcl]; rfl⟩
    have HC := hidM (fun W => clean_any p W)
    rw [hcl] at HC
    clear h0 hcl
    go_enter Tryd.func20, Tryd.ntmps20
    go_wp2_with fail
    refine (HC.out _).mono ?_
    rintro _ w1 ⟨rfl, hb1⟩
    go_wp2_with fail
    go_ret2
    exact ⟨⟨_, by rw [HL.out.1]; exact World.ownsRow_nil _ _ _ _, by rw [HL.out.2]; rfl⟩, hb1⟩
  · have HL : Hid (listL fs p = itemsF (p.size + 1) (undF fs (p ++ slashB)) ∧ listE fs p = if undF fs (p ++ slashB) = [] then 7 else 0) := ⟨by unfold listL; rw [if_neg h0, hcl]; rfl, by unfold listE; rw [if_neg h0, hcl]; rfl⟩
    have HC := hidM (fun W => clean_any p W)
    have hps := clean_size hcl
    rw [hcl] at HC
    have HSZ : Hid ((p ++ slashB).size = p.size + 1) := by unfold Hid slashB; rw [ByteArray.size_append]; rfl
    have HIT := hidM (fun (W : World) (o c' : Nat) (hb : b < W.heap.size) (hf : FilesAt W b o (undF fs (p ++ slashB))) => items_any b o c' (undF fs (p ++ slashB)) (p ++ slashB) W hb hf (Nat.le_trans (List.length_filter_le _ _) hl) (fun f hf => by
      have h1 := List.mem_filter.1 hf
      exact ⟨begins_size h1.2, by have := HP.out f h1.1; omega⟩))
    rw [HSZ.out] at HIT
    have HUN := hidM (fun W (hW : Folder W q b off c fs) => under_files q b off c fs (p ++ slashB) W hW hl HR.out)
    have HNIL : Hid (itemsF (p.size + 1) (undF fs (p ++ slashB)) = [] ↔ undF fs (p ++ slashB) = []) := itemsF_nil
    unfold slashB at HIT HUN HL HNIL
    generalize itemsF (p.size + 1) (undF fs (p ++ { data := #[47] })) = IT at *
    generalize undF fs (p ++ { data := #[47] }) = us at *
    clear h0 hcl HSZ
    go_enter Tryd.func20, Tryd.ntmps20
    go_wp2_with fail
    refine (HC.out _).mono ?_
    rintro _ w1 ⟨rfl, hb1⟩
    have HB1 := hidM hb1
    clear hb1
    go_wp2_with fail
    refine (HUN.out _ (HF.out.below HB1.out)).mono ?_
    rintro _ w2 ⟨⟨o, c', hfa, hc', rfl⟩, hb2⟩
    have HB2 : Hid (Below w.heap.size w w2) := HB1.out.trans (hb2.mono HB1.out.size)
    have HFA := hidM hfa
    clear hfa hb2
    have hbl : b < w2.heap.size := Nat.lt_of_lt_of_le HF.out.blt HB2.out.size
    go_wp2_with fail
    refine (HIT.out _ o c' hbl HFA.out).mono ?_
    rintro _ w3 ⟨⟨v, hv, rfl⟩, hb3⟩
    have HB3 : Hid (Below w.heap.size w w3) := HB2.out.trans (hb3.mono HB2.out.size)
    have HO : Hid (OwnS w3 w2.heap.size v IT) := hv
    have hs2 := HB2.out.size
    obtain ⟨a, cp, rfl, _⟩ := hv.shape
    clear hb3 hv
    by_cases hus : us = []
    · have hIT := HNIL.out.2 hus
      subst hIT
      have HL2 : Hid (listL fs p = [] ∧ listE fs p = 7) := ⟨HL.out.1, by rw [HL.out.2, if_pos hus]⟩
      clear hus
      go_wp2_with fail
      go_ret2
      exact ⟨⟨_, by rw [HL2.out.1]; exact World.ownsRow_nil _ _ _ _, by rw [HL2.out.2]; rfl⟩, HB3.out⟩
    · have HL2 : Hid (listL fs p = IT ∧ listE fs p = 0) := ⟨HL.out.1, by rw [HL.out.2, if_neg hus]⟩
      have hne : ((IT.length : Int) == 0) = false := by
        have : IT ≠ [] := fun h => hus (HNIL.out.1 h)
        have := List.length_pos_iff.2 this
        simp; omega
      clear hus
      go_wp2_with fail
      go_ret2
      exact ⟨⟨_, by rw [HL2.out.1]; exact own_mono HO.out hs2, by rw [HL2.out.2]; rfl⟩, HB3.out⟩
end Go.Proofs.YtolohndbbnbfbaaDoor
