/-
  Taken over from another program: SnapI.
  Taken over from another program: SnapJ.
  Taken over from another program: SnapK.
  Taken over from another program: SnapL.
-/
import Derived.Test.YtlmeoahcpmikiaaGreatDoorJSnapH
import Derived.OwnWalk
namespace Go.Proofs.YtlmeoahcpmikiaaGreatDoor
open Go.RowKit
def slashB : ByteArray := ⟨#[47]⟩
/-- no file's path, with a slash, begins another one's up to k -/
def FolTo (fs : List FileB) (k : Nat) : Prop := ∀ t (h : t < fs.length), t < k → undF fs (fs[t].1 ++ slashB) = []
open Classical in
noncomputable def folderB (fs : List FileB) : Bool := !decide (FolTo fs fs.length)
set_option maxHeartbeats 1600000 in
theorem asFolder_any (q b off c : Nat) (fs : List FileB) (w : World) (hF : Folder w q b off c fs) (hl : fs.length ≤ 1000000) (hr : Rise fs) (hp : ∀ f ∈ fs, f.1.size ≤ 200) :
    Calls Tryz.prog 44 #[.pointer (some ⟨q, 0, none⟩)] w fun e w' => e = .returned (.bool (folderB fs)) ∧ Below w.heap.size w w' := by
  have HFO := hidMO hF
  have HP := hidMO hp
  have HU := hidMO (fun (W : World) (p : ByteArray) (hW : Folder W q b off c fs) => under_any q b off c fs p W hW hl (hr.mono p))
  have HRU := hidMO (fun (p : ByteArray) (i : Nat) (hs : Spot fs p i) => runF_filter hr hs)
  have hc := hF.cell
  clear hF hp hr
  go_enter Tryz.func44, Tryz.ntmps44
  go_wp2_with fail
  go_loopw [4, 10] (fun _ i wr => ∃ (k : Nat), k ≤ fs.length ∧ i = .int .i64 k ∧ FolTo fs k ∧ Below w.heap.size w wr) (fun _ i _ => fs.length - (intOf i).toNat)
  case atStart => exact ⟨0, Nat.zero_le _, rfl, fun t _ h => by omega, Below.refl _ _⟩
  case round =>
    obtain ⟨k, hk, rfl, hd, hb⟩ := hrel
    have HD := hidMO hd
    have HB := hidMO hb
    have HF := hidMO (HFO.out.below hb)
    clear hd hb
    by_cases hlt : k < fs.length
    · have kk : (k : Int) < (fs.length : Int) := by omega
      have c1 := (HF.out.files k hlt).1
      have c2 := (HF.out.files k hlt).2
      have hs := HP.out fs[k] (List.getElem_mem hlt)
      have HT : Hid (undF fs (fs[k].1 ++ slashB) ≠ [] → folderB fs = true) := fun hne => by
        unfold folderB
        simp only [Bool.not_eq_true', decide_eq_false_iff_not]
        exact fun h => hne (h k hlt hlt)
      have HN : Hid (undF fs (fs[k].1 ++ slashB) = [] → FolTo fs (k + 1)) := fun he t h ht => by
        by_cases h5 : t < k
        · exact HD.out t h h5
        · have : t = k := by omega
          subst this; exact he
      have HU2 := hidMO (fun W hW => HU.out W (fs[k].1 ++ slashB) hW)
      have HR2 : Hid (∀ i, Spot fs (fs[k].1 ++ slashB) i → runF fs (fs[k].1 ++ slashB) i = (undF fs (fs[k].1 ++ slashB)).length) := fun i h9 => HRU.out _ i h9
      unfold slashB at HT HN HU2 HR2
      generalize fs[k].1 = X at *
      generalize fs[k].2 = D at *
      go_wp2_with fail
      refine (HU2.out _ (HF.out.below ((Below.refl _ _).alloc (Nat.le_refl _) _))).mono ?_
      rintro _ w2 ⟨⟨i, o, c', hsp, ho, hc', rfl⟩, hb2⟩
      have hrun := HR2.out i hsp
      have HB2 : Hid (Below w.heap.size w w2) := (HB.out.alloc HB.out.size _).trans (hb2.mono (by have := HB.out.size; simp; omega))
      rw [hrun]
      clear hsp ho hc' hb2 hrun
      by_cases he : undF fs (X ++ { data := #[47] }) = []
      · have HN2 := hidMO (HN.out he)
        rw [he]
        go_wp2_with fail
        go_roundw
        case rel => exact ⟨k + 1, by omega, by go_num, HN2.out, HB2.out⟩
        case measure => (show fs.length - ((k : Int) + 1).toNat < fs.length - ((k : Int)).toNat); omega
      · have HT2 := hidMO (HT.out he)
        have h0 : 0 < (undF fs (X ++ { data := #[47] })).length := List.length_pos_iff.2 he
        generalize (undF fs (X ++ { data := #[47] })).length = L at *
        have hg : decide ((0 : Int) < (L : Int)) = true := by simp; omega
        clear he
        go_wp2_with fail
        go_ret
        exact ⟨by rw [HT2.out]; rfl, HB2.out⟩
    · have HT : Hid (folderB fs = false) := by
        unfold Hid folderB
        simp only [Bool.not_eq_false', decide_eq_true_eq]
        intro t h _
        exact HD.out t h (by omega)
      obtain rfl : k = fs.length := by omega
      go_wp2_with fail
      go_ret
      exact ⟨by rw [HT.out]; rfl, HB.out⟩
theorem folder_iff {fs : List FileB} : folderB fs = false ↔ ∀ f ∈ fs, ∀ g ∈ fs, beginsF (f.1 ++ slashB) g = false := by
  unfold folderB
  simp only [Bool.not_eq_false', decide_eq_true_eq]
  constructor
  · intro h f hf g hg
    obtain ⟨t, ht, rfl⟩ := List.mem_iff_getElem.1 hf
    have := h t ht ht
    unfold undF at this
    have h2 := List.filter_eq_nil_iff.1 this g hg
    simpa using h2
  · intro h t ht _
    unfold undF
    rw [List.filter_eq_nil_iff]
    intro g hg
    rw [h _ (List.getElem_mem ht) g hg]; simp
end Go.Proofs.YtlmeoahcpmikiaaGreatDoor
namespace Go.Proofs.YtlmeoahcpmikiaaGreatDoor
open Go.RowKit
/-- the files that may stand together -/
abbrev OkF (fs : List FileB) : Prop := okF slashB fs
def bigF (fs : List FileB) : Prop := 2000 < fs.length ∨ 4194304 < sizeF fs
def newR (p : Option Addr) (n : Int) : Ending := .returned (.tuple #[.pointer p, .int .i64 n])
def NewPostO (w0 : World) (fs : List FileB) (e : Ending) (w : World) : Prop :=
  (bigF fs ∧ e = newR none 2) ∨ (¬ bigF fs ∧ ¬ OkF fs ∧ e = newR none 4) ∨
  (¬ bigF fs ∧ OkF fs ∧ ∃ gs q b c, gs.Perm fs ∧ RiseS gs ∧ Folder w q b 0 c gs ∧ w0.heap.size ≤ q ∧ w0.heap.size ≤ b ∧ e = newR (some ⟨q, 0, none⟩) 0)
theorem clean_size {p : ByteArray} (h : cleanB p = true) : p.size ≤ 200 := by
  unfold cleanB at h
  simp only [Bool.and_eq_true, decide_eq_true_eq] at h
  exact h.1.1
theorem holdsK_alloc {w : World} {g : Nat} {d : Array FileB} (h : Sort.HoldsK encF 2 w g 0 d) (o : Obj) (hg : g < w.heap.size) : Sort.HoldsK encF 2 (w.alloc o) g 0 d := by
  rw [Sort.alloc_eq_grow]
  exact Sort.holdsK_grow _ _ _ _ _ _ _ hg h
theorem cell_sorted {w : World} {g off n : Nat} {d' : Array FileB} {os : Array Obj} {a : Addr} (ha : a.block ≠ g) (hl : a.block < w.heap.size) : (sortWorldK encF 2 w g off n d' os).cell? a = w.cell? a := by
  unfold sortWorldK
  rw [Sort.cell?_grow _ _ _ (by unfold Sort.putRowK; rw [Sort.size_putRow]; exact hl), Sort.cell?_putRowK_other _ _ _ _ _ _ _ ha]
  rfl
set_option maxHeartbeats 3200000 in
theorem new_anyO (b off c : Nat) (fs : List FileB) (w : World) (hb : b < w.heap.size) (hf : FilesAt w b off fs) (hs : sizeF fs ≤ 4611686018427387904) (hl : fs.length ≤ 1000000) :
    Calls Tryz.prog 9 #[.slice (some ⟨b, off, none⟩) fs.length c] w fun e w' => NewPostO w fs e w' ∧ Below w.heap.size w w' := by
  have HF := hidMO hf
  have HSZ := hidMO (size_at b off c fs w hb hf hs hl)
  clear hf
  go_enter Tryz.func9, Tryz.ntmps9
  by_cases h1 : 2000 < fs.length
  · have g1 : decide ((2000 : Int) < (fs.length : Int)) = true := by simp; omega
    have HE : Hid (bigF fs) := .inl h1
    go_wp2_with fail
    go_ret2
    exact ⟨.inl ⟨HE.out, rfl⟩, Below.refl _ _⟩
  have g1 : decide ((2000 : Int) < (fs.length : Int)) = false := by simp; omega
  go_wp2_with fail
  refine HSZ.out.mono ?_
  rintro _ w1 ⟨rfl, hb1⟩
  have HB1 := hidMO hb1
  clear hb1
  by_cases h2 : 4194304 < sizeF fs
  · have g2 : decide ((4194304 : Int) < (sizeF fs : Int)) = true := by simp; omega
    have HE : Hid (bigF fs) := .inr h2
    go_wp2_with fail
    go_ret2
    exact ⟨.inl ⟨HE.out, rfl⟩, HB1.out⟩
  have g2 : decide ((4194304 : Int) < (sizeF fs : Int)) = false := by simp; omega
  have HE : Hid (¬ bigF fs) := fun h => by rcases h with h | h <;> omega
  go_wp2_with fail
  go_loopw [5, 17] (fun _ i wr => ∃ (k : Nat), k ≤ fs.length ∧ i = .int .i64 k ∧ (∀ t (h : t < fs.length), t < k → cleanB fs[t].1 = true) ∧ Below w.heap.size w wr) (fun _ i _ => fs.length - (intOf i).toNat)
  case atStart => exact ⟨0, Nat.zero_le _, rfl, fun t _ h => by omega, HB1.out⟩
  case round =>
    obtain ⟨k, hk, rfl, hd, hbr⟩ := hrel
    have HD := hidMO hd
    have HB := hidMO hbr
    clear hd hbr
    by_cases hlt : k < fs.length
    · have kk : (k : Int) < (fs.length : Int) := by omega
      have c1 := (HF.out.below HB.out hb k hlt).1
      have c2 := (HF.out.below HB.out hb k hlt).2
      have HNO : Hid (cleanB fs[k].1 = false → ¬ OkF fs) := fun hn ho => by
        have := ho.1 fs[k] (List.getElem_mem hlt)
        rw [hn] at this; cases this
      have HN : Hid (cleanB fs[k].1 = true → ∀ t (h : t < fs.length), t < k + 1 → cleanB fs[t].1 = true) := fun he t h ht => by
        by_cases h5 : t < k
        · exact HD.out t h h5
        · have : t = k := by omega
          subst this; exact he
      generalize fs[k].1 = X at *
      generalize fs[k].2 = D at *
      go_wp2_with fail
      refine (clean_any X _).mono ?_
      rintro _ w2 ⟨rfl, hb2⟩
      have HB2 : Hid (Below w.heap.size w w2) := (HB.out.alloc HB.out.size _).trans (hb2.mono (by have := HB.out.size; simp; omega))
      clear hb2
      cases hcl : cleanB X
      · have HR := hidMO (HNO.out hcl)
        clear hcl
        go_wp2_with fail
        go_ret2
        exact ⟨.inr (.inl ⟨HE.out, HR.out, rfl⟩), HB2.out⟩
      · have HR := hidMO (HN.out hcl)
        clear hcl
        go_wp2_with fail
        go_roundw
        case rel => exact ⟨k + 1, by omega, by go_num, HR.out, HB2.out⟩
        case measure => (show fs.length - ((k : Int) + 1).toNat < fs.length - ((k : Int)).toNat); omega
    · obtain rfl : k = fs.length := by omega
      have HCL : Hid (∀ f ∈ fs, cleanB f.1 = true) := fun f hf => by
        obtain ⟨t, ht, rfl⟩ := List.mem_iff_getElem.1 hf
        exact HD.out t ht ht
      go_wp2_with fail
      refine (clone_any b off c fs _ (HF.out.below HB.out hb) hl).mono ?_
      rintro _ w2 ⟨⟨g, cap, rfl, hg1, hg2, hcap, hH⟩, hb2⟩
      have HH := hidMO hH
      have HB2 : Hid (Below w.heap.size w w2) := HB.out.trans (hb2.mono HB.out.size)
      have hg0 : w.heap.size ≤ g := Nat.le_trans HB.out.size hg1
      clear hH hb2
      go_wp2_with fail
      have hsort := sort_any g 0 cap fs.toArray (w2.alloc (.cells #[.slice (some ⟨g, 0, none⟩) fs.length cap] 90)) (holdsK_alloc HH.out _ hg2) (by simp; omega) (by simp; omega)
      simp only [List.size_toArray] at hsort
      refine hsort.mono ?_
      rintro _ w3 ⟨rfl, d', n, os, hperm, hsorted, rfl⟩
      clear hsort
      have hsz : d'.size = fs.length := by have := hperm.1; simpa using this
      obtain ⟨gs, hgs⟩ : ∃ gs : List FileB, gs = d'.toList := ⟨_, rfl⟩
      have hlen : gs.length = fs.length := by rw [hgs]; simpa using hsz
      have HPM : Hid (gs.Perm fs) := by
        unfold Hid
        rw [hgs]
        have := perm_in (d := fs.toArray) (by simpa using hperm)
        simpa using this
      have HRI : Hid (Rise gs) := by
        unfold Hid
        rw [hgs]
        exact sorted_rise (by rw [hsz]; exact hsorted)
      have hqs : (w2.alloc (.cells #[.slice (some ⟨g, 0, none⟩) fs.length cap] 90)).heap.size = w2.heap.size + 1 := by simp
      have HFO : Hid (Folder (sortWorldK encF 2 (w2.alloc (.cells #[.slice (some ⟨g, 0, none⟩) fs.length cap] 90)) g 0 n d' os) w2.heap.size g 0 cap gs) := by
        refine ⟨?_, ?_, ?_, ?_, by omega⟩
        · rw [cell_sorted (by show w2.heap.size ≠ g; omega) (by rw [hqs]; show w2.heap.size < _; omega), hlen]
          simp
        · refine FilesAt.of_holds ?_
          rw [hgs]
          exact holds_sorted (d := fs.toArray) (by rw [hqs]; omega) (holdsK_alloc HH.out _ hg2) (by simpa using hsz)
        · have := (below_sorted (w := w2.alloc (.cells #[.slice (some ⟨g, 0, none⟩) fs.length cap] 90)) (off := 0) (n := n) (d' := d') (os := os) (Nat.le_refl g) (by rw [hqs]; omega)).size
          omega
        · have := (below_sorted (w := w2.alloc (.cells #[.slice (some ⟨g, 0, none⟩) fs.length cap] 90)) (off := 0) (n := n) (d' := d') (os := os) (Nat.le_refl g) (by rw [hqs]; omega)).size
          omega
      have HB3 : Hid (Below w.heap.size w (sortWorldK encF 2 (w2.alloc (.cells #[.slice (some ⟨g, 0, none⟩) fs.length cap] 90)) g 0 n d' os)) :=
        (HB2.out.alloc HB2.out.size _).trans (below_sorted hg0 (by rw [hqs]; omega))
      have hq0 : w.heap.size ≤ w2.heap.size := HB2.out.size
      generalize sortWorldK encF 2 (w2.alloc (.cells #[.slice (some ⟨g, 0, none⟩) fs.length cap] 90)) g 0 n d' os = w3 at *
      have HFP : Hid (∀ f ∈ gs, f.1.size ≤ 200) := fun f hf => clean_size (HCL.out f (HPM.out.mem_iff.1 hf))
      generalize w2.heap.size = q at *
      clear hperm hsorted hsz hgs hqs HH HB2 d'
      go_wp2_with fail
      refine (twice_any q g 0 cap gs _ HFO.out (by omega)).mono ?_
      rintro _ w4 ⟨rfl, hb4⟩
      have HF4 := hidMO (HFO.out.below hb4)
      have HB4 : Hid (Below w.heap.size w w4) := HB3.out.trans (hb4.mono HB3.out.size)
      clear hb4
      cases htw : twiceB gs
      · have HRS := hidMO ((rise_twice HRI.out).1 htw)
        clear htw
        go_wp2_with fail
        refine (asFolder_any q g 0 cap gs _ HF4.out (by omega) HRI.out HFP.out).mono ?_
        rintro _ w5 ⟨rfl, hb5⟩
        have HF5 := hidMO (HF4.out.below hb5)
        have HB5 : Hid (Below w.heap.size w w5) := HB4.out.trans (hb5.mono HB4.out.size)
        clear hb5
        cases hfo : folderB gs
        · have HOK : Hid (OkF fs) := okF.perm HPM.out ⟨fun f hf => HCL.out f (HPM.out.mem_iff.1 hf), HRS.out.apart, folder_iff.1 hfo⟩
          clear hfo
          go_wp2_with fail
          go_ret2
          exact ⟨.inr (.inr ⟨HE.out, HOK.out, gs, q, g, cap, HPM.out, HRS.out, HF5.out, hq0, hg0, rfl⟩), HB5.out⟩
        · have HNO : Hid (¬ OkF fs) := fun ho => by
            have := folder_iff.2 (okF.perm HPM.out.symm ho).2.2
            rw [hfo] at this; cases this
          clear hfo
          go_wp2_with fail
          go_ret2
          exact ⟨.inr (.inl ⟨HE.out, HNO.out, rfl⟩), HB5.out⟩
      · have HNO : Hid (¬ OkF fs) := fun ho => by
          have := (rise_twice HRI.out).2 (Apart.rise ((Apart.perm HPM.out).2 ho.2.1) HRI.out)
          rw [htw] at this; cases this
        clear htw
        go_wp2_with fail
        go_ret2
        exact ⟨.inr (.inl ⟨HE.out, HNO.out, rfl⟩), HB4.out⟩
end Go.Proofs.YtlmeoahcpmikiaaGreatDoor
namespace Go.Proofs.YtlmeoahcpmikiaaGreatDoor
open Go.RowKit
def FilesRet (w : World) (b : Nat) (us : List FileB) (e : Ending) : Prop := ∃ o c', FilesAt w b o us ∧ us.length ≤ c' ∧ e = .returned (.slice (some ⟨b, o, none⟩) us.length c')
theorem under_files (q b off c : Nat) (fs : List FileB) (p : ByteArray) (w : World) (hF : Folder w q b off c fs) (hl : fs.length ≤ 1000000) (hr : Rise fs) :
    Calls Tryz.prog 88 #[.pointer (some ⟨q, 0, none⟩), .string p] w fun e w' => FilesRet w' b (undF fs p) e ∧ Below w.heap.size w w' := by
  refine (under_any q b off c fs p w hF hl (hr.mono p)).mono ?_
  rintro e w' ⟨⟨i, o, c', hsp, ho, hc', rfl⟩, hb⟩
  rw [runF_filter hr hsp] at ho hc' ⊢
  refine ⟨⟨o, c', ?_, hc', rfl⟩, hb⟩
  intro t ht
  have h0 := ho (by omega)
  obtain ⟨h2, he⟩ := undF_get hr hsp ht
  have := (hF.below hb).files (i + t) h2
  rw [he, h0, show off + i * 2 + t * 2 = off + (i + t) * 2 by omega]
  exact this
/-- texts, in a row of the call's own -/
def strsV (l : List ByteArray) : List Value := l.map Value.string
def OwnS (w : World) (B : Nat) (v : Value) (l : List ByteArray) : Prop := w.ownsRow B 9 1 v l.length (strsV l)
theorem OwnS.push {w : World} {B : Nat} {v : Value} {l : List ByteArray} {x : ByteArray} (h : w.ownsRow B 9 1 v (l.length + 1) (strsV l ++ [.string x])) : OwnS w B v (l ++ [x]) := by
  unfold OwnS strsV
  rw [List.map_append]
  simpa [strsV] using h
theorem FilesAt.back {w w' : World} {b off B : Nat} {fs : List FileB} (h : FilesAt w' b off fs) (hb : Below B w w') (hB : b < B) : FilesAt w b off fs := fun i hi =>
  ⟨(hb.cell (p := ⟨b, off + i * 2, none⟩) hB).symm.trans (h i hi).1, (hb.cell (p := ⟨b, off + i * 2 + 1, none⟩) hB).symm.trans (h i hi).2⟩
theorem cell_new_at (w : World) (v : Value) (t n : Nat) (hn : w.heap.size = n) : ∀ j u, [v][j]? = some u → (w.alloc (.cells #[v] t)).cell? ((⟨n, 0, none⟩ : Addr).add j) = some u := by
  intro j u hj
  subst hn
  rcases j with _ | j
  · simp at hj; subst hj; rw [Addr.add_lit]; simp
  · simp at hj
theorem OwnS.below {w wr w1 : World} {B : Nat} {v : Value} {l : List ByteArray} {o : Obj} (hown : OwnS wr B v l) (hb : Below B w wr) (hB : B ≤ wr.heap.size) (hg : (wr.alloc o).grownBy w1 v.ownBlock) : Below B w w1 :=
  (hb.alloc hB o).grown hg (by simp; omega) (fun k hk => (World.ownsRow.lt hown k hk).1)
def SlRet (w : World) (B : Nat) (l : List ByteArray) (e : Ending) : Prop := ∃ v, OwnS w B v l ∧ e = .returned v
def pathsL (us : List FileB) : List ByteArray := us.map fun f => f.1
theorem pathsL_take (us : List FileB) (k : Nat) (h : k < us.length) : pathsL (us.take (k + 1)) = pathsL (us.take k) ++ [us[k].1] := by
  unfold pathsL
  rw [List.take_succ_eq_append_getElem h, List.map_append]; rfl
set_option maxHeartbeats 1600000 in
theorem Under_any (q b off c : Nat) (fs : List FileB) (p : ByteArray) (w : World) (hF : Folder w q b off c fs) (hl : fs.length ≤ 1000000) (hr : Rise fs) :
    Calls Tryz.prog 45 #[.pointer (some ⟨q, 0, none⟩), .string p] w fun e w' => SlRet w' w.heap.size (pathsL (undF fs p)) e ∧ Below w.heap.size w w' := by
  have HU := hidMO (under_files q b off c fs p w hF hl hr)
  have hbl := hF.blt
  have hul : (undF fs p).length ≤ fs.length := List.length_filter_le _ _
  generalize undF fs p = us at *
  obtain ⟨i0, hi, hz0, hz1, hz2⟩ := info_parts info9
  clear hF hr
  go_enter Tryz.func45, Tryz.ntmps45
  go_wp2_with fail
  refine HU.out.mono ?_
  rintro _ w1 ⟨⟨o, c', hf, hc', rfl⟩, hb1⟩
  have HF := hidMO (hf.back hb1 hbl)
  have HB1 := hidMO hb1
  have hb1s := hb1.size
  clear hf hb1
  go_wp2_with fail
  go_loopw [5, 7, 12] (fun v _ i wr => ∃ (k : Nat), k ≤ us.length ∧ i = .int .i64 k ∧ OwnS wr w.heap.size v (pathsL (us.take k)) ∧ Below w.heap.size w wr) (fun _ _ i _ => us.length - (intOf i).toNat)
  case atStart => exact ⟨0, Nat.zero_le _, rfl, World.ownsRow_nil _ _ _ _, HB1.out⟩
  case round =>
    obtain ⟨k, hk, rfl, hown, hb⟩ := hrel
    have HO := hidMO hown
    have HB := hidMO hb
    have hsz := hb.size
    clear hown hb
    by_cases hlt : k < us.length
    · have kk : (k : Int) < (us.length : Int) := by omega
      have c1 := (HF.out.below HB.out hbl k hlt).1
      have c2 := (HF.out.below HB.out hbl k hlt).2
      have HT := hidMO (pathsL_take us k hlt)
      have HPL : Hid ((pathsL (us.take k)).length = k) := by unfold Hid pathsL; simp; omega
      generalize us[k].1 = X at *
      generalize us[k].2 = D at *
      generalize pathsL (us.take k) = L at *
      have HO1 : Hid (OwnS (wr.alloc (.cells #[.string X, .string D] 31)) w.heap.size u5 L) := World.ownsRow.alloc HO.out _
      have HB2 : Hid (Below w.heap.size w (wr.alloc (.cells #[.string X, .string D] 31))) := HB.out.alloc hsz _
      go_wp2_with (first
        | (at_builtin; refine wpList_append_own _ rfl _ _ 51 rfl w.heap.size 9 i0 (.string .empty) 1 16 Tryz.underlying51 hi hz0 hz1 hz2 rfl (by decide) _ _ _ rfl (World.ownsRow.alloc HO1.out _) ⟨wr.heap.size + 1, 0, none⟩ 1 1 [.string X] ?d0 rfl ?d1 ?d2 ?d3 ?d4 ?d5 ?_))
      case d0 => rfl
      case d1 => exact cell_new_at _ _ _ _ (by simp)
      case d2 => intro u hu; simp at hu; subst hu; rfl
      case d3 => have := HPL.out; unfold maxLen; omega
      case d4 => have := HPL.out; omega
      case d5 => simp; omega
      intro v' w2 hown' hgrow _
      have HO2 := hidMO (OwnS.push hown')
      have HB3 := hidMO (OwnS.below HO1.out HB2.out (by simp; omega) hgrow)
      clear hown' hgrow
      go_wp2_with fail
      go_roundw
      case rel => exact ⟨k + 1, by omega, by go_num, by rw [HT.out]; exact HO2.out, HB3.out⟩
      case measure => (show us.length - ((k : Int) + 1).toNat < us.length - ((k : Int)).toNat); omega
    · obtain rfl : k = us.length := by omega
      rw [List.take_of_length_le (Nat.le_refl _)] at HO
      go_wp2_with fail
      go_ret
      exact ⟨⟨_, HO.out, rfl⟩, HB.out⟩
def GetPost (fs : List FileB) (p : ByteArray) (e : Ending) : Prop := (∃ f ∈ fs, f.1 = p ∧ e = .returned (.tuple #[.string f.2, .int .i64 0])) ∨ ((∀ f ∈ fs, f.1 ≠ p) ∧ e = .returned (.tuple #[.string .empty, .int .i64 7]))
set_option maxHeartbeats 1600000 in
theorem Get_any (q b off c : Nat) (fs : List FileB) (p : ByteArray) (w : World) (hF : Folder w q b off c fs) (hl : fs.length ≤ 1000000) (hr : Rise fs) :
    Calls Tryz.prog 61 #[.pointer (some ⟨q, 0, none⟩), .string p] w fun e w' => GetPost fs p e ∧ Below w.heap.size w w' := by
  have HPL := hidMO (place_any q b off c fs p w hF hl (hr.mono p))
  have HF := hidMO hF
  have HR := hidMO hr
  clear hF hr
  go_enter Tryz.func61, Tryz.ntmps61
  go_wp2_with fail
  refine HPL.out.mono ?_
  rintro _ w1 ⟨⟨i, hi, rfl⟩, hb1⟩
  have HI := hidMO hi
  have HF1 := hidMO (HF.out.below hb1)
  have HB1 := hidMO hb1
  clear hi hb1
  have hc := HF1.out.cell
  cases hth : thereB fs p i
  · have HN := hidMO (there_spot HI.out hth HR.out)
    clear hth
    go_wp2_with fail
    go_ret2
    exact ⟨.inr ⟨HN.out, rfl⟩, HB1.out⟩
  · obtain ⟨hil, hip⟩ := there_get hth
    clear hth
    have HIP := hidMO hip
    have HM := hidMO (List.getElem_mem hil)
    have kl : (i : Int) < (fs.length : Int) := by omega
    have c2 := (HF1.out.files i hil).2
    clear hip
    go_wp2_with fail
    go_ret2
    exact ⟨.inl ⟨_, HM.out, HIP.out, rfl⟩, HB1.out⟩
end Go.Proofs.YtlmeoahcpmikiaaGreatDoor
namespace Go.Proofs.YtlmeoahcpmikiaaGreatDoor
open Go.RowKit Go.Sort
theorem FilesAt.take {w : World} {b off : Nat} {fs : List FileB} (h : FilesAt w b off fs) (n : Nat) : FilesAt w b off (fs.take n) := fun i hi => by
  have h2 : i < fs.length := by rw [List.length_take] at hi; omega
  rw [List.getElem_take]; exact h i h2
end Go.Proofs.YtlmeoahcpmikiaaGreatDoor
