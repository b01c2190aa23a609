/-
  SnapReads: files are found, listed and told by their beginnings as the document says, and wrong folders are refused.
-/
import Derived.Test.YtolohndbbnbfbaaDoorRSnG
import Derived.Test.YtolohndbbnbfbaaDoorShaY
namespace Go.Proofs.YtolohndbbnbfbaaDoor
open Go.RowKit
open Go.Sort (HoldsK)

theorem cell_lt {w : World} {a : Addr} {v : Value} (h : w.cell? a = some v) : a.block < w.heap.size := by
  rcases Nat.lt_or_ge a.block w.heap.size with h1 | h1
  · exact h1
  · have h2 : w.heap[a.block]? = none := Array.getElem?_eq_none h1
    simp [World.cell?, h2] at h
theorem FilesV.below {w w' : World} {v : Value} {fs : List FileB} (h : FilesV w v fs) (hb : Below w.heap.size w w') : FilesV w' v fs := by
  rcases h with h | h | ⟨b, off, c, h1, h2, h3⟩
  · exact .inl h
  · exact .inr (.inl h)
  · refine .inr (.inr ⟨b, off, c, h1, fun i hi => ?_, h3⟩)
    have hlt : b < w.heap.size := cell_lt (h2 i hi).1
    exact ⟨(hb.cell (p := ⟨b, off + i * 2, none⟩) hlt).trans (h2 i hi).1, (hb.cell (p := ⟨b, off + i * 2 + 1, none⟩) hlt).trans (h2 i hi).2⟩

/-- the files' bytes stand in their places; the paths may have turned -/
def Datas (w : World) (g : Nat) (us : List FileB) : Prop := ∀ i (h : i < us.length), (∃ p, w.cell? ⟨g, i * 2, none⟩ = some (.string p)) ∧ w.cell? ⟨g, i * 2 + 1, none⟩ = some (.string us[i].2) ∧ w.frozen? ⟨g, i * 2, none⟩ = false
theorem Datas.of_holds {w : World} {g : Nat} {us : List FileB} (h : HoldsK encF 2 w g 0 us.toArray) : Datas w g us := fun i hi => by
  have h1 := FilesAt.of_holds h i hi
  have h2 := (Go.Sort.HoldsK.cell h (i := i) (c := 0) (by simpa using hi) (by decide)).2
  simp only [Nat.zero_add, Nat.add_zero] at h1 h2
  exact ⟨⟨_, h1.1⟩, h1.2, h2⟩
theorem Datas.below {w w' : World} {g B : Nat} {us : List FileB} (h : Datas w g us) (hb : Below B w w') (hg : g < B) : Datas w' g us := fun i hi =>
  ⟨by obtain ⟨p, hp⟩ := (h i hi).1; exact ⟨p, (hb.cell (p := ⟨g, i * 2, none⟩) hg).trans hp⟩, (hb.cell (p := ⟨g, i * 2 + 1, none⟩) hg).trans (h i hi).2.1, (hb.frozen (p := ⟨g, i * 2, none⟩) hg).trans (h i hi).2.2⟩
theorem Datas.set {w : World} {g : Nat} {us : List FileB} (h : Datas w g us) (k : Nat) (p : ByteArray) : Datas (w.setCell ⟨g, k * 2, none⟩ (.string p)) g us := fun i hi => by
  refine ⟨?_, ?_, (World.frozen?_setCell _ _ _ _).trans (h i hi).2.2⟩
  · obtain ⟨q, hq⟩ := (h i hi).1
    by_cases e : i = k
    · subst e; exact ⟨p, World.cell?_setCell_same _ _ _ hq⟩
    · exact ⟨q, (World.cell?_setCell_other _ _ _ _ (by simp <;> omega)).trans hq⟩
  · exact (World.cell?_setCell_other _ _ _ _ (by simp <;> omega)).trans (h i hi).2.1
theorem Datas.drew {w : World} {g : Nat} {us : List FileB} (h : Datas w g us) : Datas w.drew g us := h
theorem path_one {gs : List FileB} (hr : RiseS gs) {f f' : FileB} (h : f ∈ gs) (h' : f' ∈ gs) (he : f.1 = f'.1) : f = f' := by
  obtain ⟨i, hi, rfl⟩ := List.mem_iff_getElem.1 h
  obtain ⟨j, hj, rfl⟩ := List.mem_iff_getElem.1 h'
  have hp := List.pairwise_iff_getElem.1 hr.apart
  rcases Nat.lt_trichotomy i j with hij | hij | hij
  · exact absurd he (hp i j hi hj hij)
  · subst hij; rfl
  · exact absurd he.symm (hp j i hj hi hij)
theorem Folder.only {w w' : World} {q b off c g : Nat} {fs : List FileB} (h : Folder w q b off c fs) (ho : Only g w w') (hq : q ≠ g) (hb : b ≠ g) : Folder w' q b off c fs :=
  ⟨(World.cell?_of_block (w := w) (a := ⟨q, 0, none⟩) (ho.block q hq)).trans h.cell,
   fun i hi => ⟨(World.cell?_of_block (w := w) (a := ⟨b, off + i * 2, none⟩) (ho.block b hb)).trans (h.files i hi).1, (World.cell?_of_block (w := w) (a := ⟨b, off + i * 2 + 1, none⟩) (ho.block b hb)).trans (h.files i hi).2⟩,
   by rw [ho.size]; exact h.qlt, by rw [ho.size]; exact h.blt, h.cap⟩

/-- what Get and the document's Get answer, together -/
theorem get_both {gs us : List FileB} {p : ByteArray} {e e' : Ending} (hp : gs.Perm us) (hr : RiseS gs) (h : GetPost gs p e) (h' : RGetPost us p e') :
    (∃ d, e = .returned (.tuple #[.string d, .int .i64 0]) ∧ e' = .returned (.tuple #[.string d, .bool true])) ∨ (e = .returned (.tuple #[.string .empty, .int .i64 7]) ∧ e' = .returned (.tuple #[.string .empty, .bool false])) := by
  rcases h with ⟨f, hf, h1, rfl⟩ | ⟨hn, rfl⟩ <;> rcases h' with ⟨f', hf', h1', rfl⟩ | ⟨hn', rfl⟩
  · refine .inl ⟨f.2, rfl, ?_⟩
    rw [path_one hr hf (hp.mem_iff.2 hf') (h1.trans h1'.symm)]
  · exact absurd h1 (hn' f (hp.mem_iff.1 hf))
  · exact absurd h1' (hn f' (hp.mem_iff.2 hf'))
  · exact .inr ⟨rfl, rfl⟩

set_option maxHeartbeats 6000000 in
set_option maxRecDepth 50000 in
theorem reads_walk (v : Value) (fs : List FileB) (path front : ByteArray) (w : World) (hV : FilesV w v fs) (hsz : ∀ f ∈ fs, f.2.size ≤ 140737488355328) :
    Calls Tryd.prog 3 #[v, .string path, .string front] w fun e w' => e = .returned (.bool true) ∧ Below w.heap.size w w' := by
  have HFW := hidM (fun (W : World) (hW : Below w.heap.size w W) => few_any v 200 fs W (hV.below hW) (by decide))
  have HSZ : Hid (sizeF (fs.take 200) ≤ 4611686018427387904) := size_few fs 200 (by decide) hsz
  have htl : (fs.take 200).length ≤ 200 := by simp; omega
  generalize fs.take 200 = us at *
  clear hV hsz
  go_enter Tryd.func3, Tryd.ntmps3
  go_wp2_with fail
  refine (HFW.out w (Below.refl _ _)).mono ?_
  rintro _ w1 ⟨⟨g, cap, rfl, hg1, hg2, hcap, hH⟩, hb1⟩
  have HF := hidM (FilesAt.of_holds hH)
  have HD1 := hidM (Datas.of_holds hH)
  have HB1 := hidM hb1
  clear hH hb1
  go_wp2_with fail
  refine (new_any g 0 cap us w1 hg2 HF.out HSZ.out (by omega)).mono ?_
  rintro _ w2 ⟨hp, hb2⟩
  have HNP := hidM hp
  have HB2 : Hid (Below w.heap.size w w2) := HB1.out.trans (hb2.mono HB1.out.size)
  have HD2 : Hid (Datas w2 g us) := HD1.out.below hb2 hg2
  have hg3 : g < w2.heap.size := Nat.lt_of_lt_of_le hg2 hb2.size
  have HS12 := hidM hb2.size
  clear hb2 hp HD1 HF
  rcases HNP.out with ⟨h1, rfl⟩ | ⟨h1, h2, rfl⟩ | ⟨h1, h2, gs, q, b, c, hperm, hrs, hF, hq, hbq, rfl⟩
  · have HBG := hidM h1
    clear h1 HNP HD2
    unfold newR
    go_wp2_with fail
    refine (HFW.out w2 HB2.out).mono ?_
    rintro _ w3 ⟨⟨g2, cap2, rfl, hg21, hg22, hcap2, hH2⟩, hb3⟩
    have HF2 := hidM (FilesAt.of_holds hH2)
    have HB3 : Hid (Below w.heap.size w w3) := HB2.out.trans (hb3.mono HB2.out.size)
    have HBA : Hid (Below w2.heap.size w2 w3) := hb3
    clear hH2 hb3
    go_wp2_with fail
    refine (rcheck7_any g2 0 cap2 us w3 hg22 HF2.out HSZ.out (by omega)).mono ?_
    rintro _ w4 ⟨hc, hb4⟩
    have HB4 : Hid (Below w.heap.size w w4) := HB3.out.trans (hb4.mono HB3.out.size)
    have HBB : Hid (Below w2.heap.size w2 w4) := HBA.out.trans (hb4.mono HBA.out.size)
    clear hb4 HBA HB3 HF2
    obtain rfl : _ = Ending.returned (.int .i64 2) := by
      rcases hc with ⟨_, h⟩ | ⟨h, _⟩ | ⟨h, _⟩
      · exact h
      · exact absurd HBG.out h
      · exact absurd HBG.out h
    clear hc
    go_wp2_with fail
    refine (awake7_any _).mono ?_
    rintro _ w5 ⟨rfl, hb5⟩
    have HB5 : Hid (Below w.heap.size w w5) := HB4.out.trans (hb5.mono HB4.out.size)
    have HBC : Hid (Below w2.heap.size w2 w5) := HBB.out.trans (hb5.mono HBB.out.size)
    clear hb5 HBB HB4
    go_wp2_with fail
    refine (clean_any path _).mono ?_
    rintro _ w6 ⟨rfl, hb6⟩
    have HB6 : Hid (Below w.heap.size w w6) := HB5.out.trans (hb6.mono HB5.out.size)
    have HBD : Hid (Below w2.heap.size w2 w6) := HBC.out.trans (hb6.mono HBC.out.size)
    clear hb6 HBC HB5
    go_wp2_with fail
    refine (rclean_any path _).mono ?_
    rintro _ w7 ⟨rfl, hb7⟩
    have HB7 : Hid (Below w.heap.size w w7) := HB6.out.trans (hb7.mono HB6.out.size)
    have HBE : Hid (Below w2.heap.size w2 w7) := HBD.out.trans (hb7.mono HBD.out.size)
    clear hb7 HBD HB6
    generalize cleanB path = cb at *
    go_wp2_with fail
    go_ret
    exact ⟨rfl, HB7.out⟩
  · have HBG := hidM h1
    have HNO := hidM h2
    clear h1 h2 HNP HD2
    unfold newR
    go_wp2_with fail
    refine (HFW.out w2 HB2.out).mono ?_
    rintro _ w3 ⟨⟨g2, cap2, rfl, hg21, hg22, hcap2, hH2⟩, hb3⟩
    have HF2 := hidM (FilesAt.of_holds hH2)
    have HB3 : Hid (Below w.heap.size w w3) := HB2.out.trans (hb3.mono HB2.out.size)
    have HBA : Hid (Below w2.heap.size w2 w3) := hb3
    clear hH2 hb3
    go_wp2_with fail
    refine (rcheck7_any g2 0 cap2 us w3 hg22 HF2.out HSZ.out (by omega)).mono ?_
    rintro _ w4 ⟨hc, hb4⟩
    have HB4 : Hid (Below w.heap.size w w4) := HB3.out.trans (hb4.mono HB3.out.size)
    have HBB : Hid (Below w2.heap.size w2 w4) := HBA.out.trans (hb4.mono HBA.out.size)
    clear hb4 HBA HB3 HF2
    obtain rfl : _ = Ending.returned (.int .i64 4) := by
      rcases hc with ⟨h, _⟩ | ⟨_, _, h⟩ | ⟨_, h, _⟩
      · exact absurd h HBG.out
      · exact h
      · exact absurd h HNO.out
    clear hc
    go_wp2_with fail
    refine (awake7_any _).mono ?_
    rintro _ w5 ⟨rfl, hb5⟩
    have HB5 : Hid (Below w.heap.size w w5) := HB4.out.trans (hb5.mono HB4.out.size)
    have HBC : Hid (Below w2.heap.size w2 w5) := HBB.out.trans (hb5.mono HBB.out.size)
    clear hb5 HBB HB4
    go_wp2_with fail
    refine (clean_any path _).mono ?_
    rintro _ w6 ⟨rfl, hb6⟩
    have HB6 : Hid (Below w.heap.size w w6) := HB5.out.trans (hb6.mono HB5.out.size)
    have HBD : Hid (Below w2.heap.size w2 w6) := HBC.out.trans (hb6.mono HBC.out.size)
    clear hb6 HBC HB5
    go_wp2_with fail
    refine (rclean_any path _).mono ?_
    rintro _ w7 ⟨rfl, hb7⟩
    have HB7 : Hid (Below w.heap.size w w7) := HB6.out.trans (hb7.mono HB6.out.size)
    have HBE : Hid (Below w2.heap.size w2 w7) := HBD.out.trans (hb7.mono HBD.out.size)
    clear hb7 HBD HB6
    generalize cleanB path = cb at *
    go_wp2_with fail
    go_ret
    exact ⟨rfl, HB7.out⟩
  · have HBG := hidM h1
    have HOK := hidM h2
    have HP := hidM hperm
    have HRS := hidM hrs
    have HFO := hidM hF
    have hgq : q ≠ g := by omega
    have hgb : b ≠ g := by omega
    clear h1 h2 HNP hperm hrs hF hq hbq
    unfold newR
    go_wp2_with fail
    refine (HFW.out w2 HB2.out).mono ?_
    rintro _ w3 ⟨⟨g2, cap2, rfl, hg21, hg22, hcap2, hH2⟩, hb3⟩
    have HF2 := hidM (FilesAt.of_holds hH2)
    have HB3 : Hid (Below w.heap.size w w3) := HB2.out.trans (hb3.mono HB2.out.size)
    have HBA : Hid (Below w2.heap.size w2 w3) := hb3
    clear hH2 hb3
    go_wp2_with fail
    refine (rcheck7_any g2 0 cap2 us w3 hg22 HF2.out HSZ.out (by omega)).mono ?_
    rintro _ w4 ⟨hc, hb4⟩
    have HB4 : Hid (Below w.heap.size w w4) := HB3.out.trans (hb4.mono HB3.out.size)
    have HBB : Hid (Below w2.heap.size w2 w4) := HBA.out.trans (hb4.mono HBA.out.size)
    clear hb4 HBA HB3 HF2
    obtain rfl : _ = Ending.returned (.int .i64 0) := by
      rcases hc with ⟨h, _⟩ | ⟨_, h, _⟩ | ⟨_, _, h⟩
      · exact absurd h HBG.out
      · exact absurd HOK.out h
      · exact h
    clear hc
    go_wp2_with fail
    refine (awake7_any _).mono ?_
    rintro _ w5 ⟨rfl, hb5⟩
    have HB5 : Hid (Below w.heap.size w w5) := HB4.out.trans (hb5.mono HB4.out.size)
    have HBC : Hid (Below w2.heap.size w2 w5) := HBB.out.trans (hb5.mono HBB.out.size)
    clear hb5 HBB HB4
    go_wp2_with fail
    refine (clean_any path _).mono ?_
    rintro _ w6 ⟨rfl, hb6⟩
    have HB6 : Hid (Below w.heap.size w w6) := HB5.out.trans (hb6.mono HB5.out.size)
    have HBD : Hid (Below w2.heap.size w2 w6) := HBC.out.trans (hb6.mono HBC.out.size)
    clear hb6 HBC HB5
    go_wp2_with fail
    refine (rclean_any path _).mono ?_
    rintro _ w7 ⟨rfl, hb7⟩
    have HB7 : Hid (Below w.heap.size w w7) := HB6.out.trans (hb7.mono HB6.out.size)
    have HBE : Hid (Below w2.heap.size w2 w7) := HBD.out.trans (hb7.mono HBD.out.size)
    clear hb7 HBD HB6
    generalize cleanB path = cb at *
    have HF7 := hidM (HFO.out.below HBE.out)
    have HD7 : Hid (Datas w7 g us) := HD2.out.below HBE.out hg3
    have hszu : sizeF us ≤ 4194304 := Nat.not_lt.1 fun h => HBG.out (.inr h)
    have hgl : gs.length = us.length := HP.out.length_eq
    have HPS : Hid (∀ f ∈ gs, f.1.size ≤ 200) := fun f hf => clean_size (HOK.out.1 f (HP.out.mem_iff.1 hf))
    have HSE := hidM (sizeF_perm HP.out)
    have hg7 : g < w7.heap.size := Nat.lt_of_lt_of_le hg3 HBE.out.size
    clear HBG HOK HFO HBE HD2 HB2 HB1 HSZ HS12
    go_wp2_with fail
    go_loopw [11, 12, 51] (fun nv _ iv wr => ∃ (k : Nat), k ≤ us.length ∧ iv = .int .i64 k ∧ nv = .int .i64 (sizeF (us.take k) : Nat) ∧ Datas wr g us ∧ Only g w7 wr) (fun _ _ i _ => us.length - (intOf i).toNat)
    case atStart => exact ⟨0, Nat.zero_le _, rfl, rfl, HD7.out, Only.refl _ _⟩
    case round =>
      obtain ⟨k, hk, rfl, rfl, hd, ho⟩ := hrel
      have HD := hidM hd
      have HO := hidM ho
      clear hd ho HD7
      by_cases hlt : k < us.length
      · have kk : (k : Int) < (us.length : Int) := by omega
        obtain ⟨⟨p0, c1⟩, c2, c3⟩ := HD.out k hlt
        have HT := hidM (sizeF_take us k hlt)
        have h1 := sizeF_le us k
        have h2 := sizeF_le us (k + 1)
        rw [HT.out] at h2
        generalize sizeF (us.take k) = S at *
        generalize us[k].2 = D at *
        go_wp2_with fail
        go_roundw
        case rel => exact ⟨k + 1, by omega, by go_num, by rw [HT.out]; go_num, HD.out.set k _, HO.out.setCell _ _⟩
        case measure => (show us.length - ((k : Int) + 1).toNat < us.length - ((k : Int)).toNat); omega
      · obtain rfl : k = us.length := by omega
        rw [List.take_of_length_le (Nat.le_refl _)]
        have HF8 := hidM (HF7.out.only HO.out hgq hgb)
        have HB8 : Hid (Below w.heap.size w _) := HB7.out.trans (HO.out.below hg1)
        clear HD HO HF7 HB7
        go_wp2_with fail
        refine (HFW.out _ HB8.out).mono ?_
        rintro _ w9 ⟨⟨g3, cap3, rfl, _, hg32, hcap3, hH3⟩, hb9⟩
        have HR9 := hidM (FilesAt.of_holds hH3)
        have HF9 := hidM (HF8.out.below hb9)
        have HB9 : Hid (Below w.heap.size w w9) := HB8.out.trans (hb9.mono HB8.out.size)
        clear hH3 hb9 HF8 HB8 HFW
        go_wp2_with fail
        refine (Get_any q b 0 c gs path _ HF9.out (by omega) HRS.out.rise).mono ?_
        rintro eG w10 ⟨hG, hb10⟩
        have HR10 := hidM (HR9.out.below hb10 hg32)
        have hg33 : g3 < w10.heap.size := Nat.lt_of_lt_of_le hg32 hb10.size
        have HF10 := hidM (HF9.out.below hb10)
        have HB10 : Hid (Below w.heap.size w w10) := HB9.out.trans (hb10.mono HB9.out.size)
        clear hb10 HF9 HB9 HR9
        have HGG := hidM (fun e' (h' : RGetPost us path e') => get_both HP.out HRS.out hG h')
        have HGS : Hid (∃ d n, eG = .returned (.tuple #[.string d, .int .i64 n])) := by
          rcases hG with ⟨f, _, _, h⟩ | ⟨_, h⟩
          · exact ⟨_, _, h⟩
          · exact ⟨_, _, h⟩
        obtain ⟨d1, n1, rfl⟩ := HGS.out
        clear hG HGS
        go_wp2_with fail
        refine (rget_any g3 0 cap3 us path _ hg33 HR10.out (by omega)).mono ?_
        rintro e' w11 ⟨hG', hb11⟩
        have HR11 := hidM (HR10.out.below hb11 hg33)
        have hg34 : g3 < w11.heap.size := Nat.lt_of_lt_of_le hg33 hb11.size
        have HF11 := hidM (HF10.out.below hb11)
        have HB11 : Hid (Below w.heap.size w w11) := HB10.out.trans (hb11.mono HB10.out.size)
        have hgg := HGG.out e' hG'
        clear hb11 HF10 HB10 HR10 HGG hG'
        obtain ⟨ok, hn1, rfl⟩ : ∃ ok : Bool, n1 = (if ok then 0 else 7) ∧ e' = .returned (.tuple #[.string d1, .bool ok]) := by
          rcases hgg with ⟨d, h1, rfl⟩ | ⟨h1, rfl⟩
          · simp at h1; obtain ⟨rfl, rfl⟩ := h1; exact ⟨true, rfl, rfl⟩
          · simp at h1; obtain ⟨rfl, rfl⟩ := h1; exact ⟨false, rfl, rfl⟩
        have HN1 := hidM hn1
        clear hgg hn1
        go_wp2_with fail
        refine (List_any q b 0 c gs path _ HF11.out (by omega) HRS.out.rise HPS.out).mono ?_
        rintro _ w12 ⟨⟨v1, hv1, rfl⟩, hb12⟩
        have HR12 := hidM (HR11.out.below hb12 hg34)
        have hg35 : g3 < w12.heap.size := Nat.lt_of_lt_of_le hg34 hb12.size
        have HF12 := hidM (HF11.out.below hb12)
        have HB12 : Hid (Below w.heap.size w w12) := HB11.out.trans (hb12.mono HB11.out.size)
        have HV1 := hidM hv1.strs
        clear hb12 HF11 HB11 HR11 hv1
        go_wp2_with fail
        refine (rlist_any g3 0 cap3 us gs path _ hg35 HR12.out (by omega) HP.out HRS.out HPS.out).mono ?_
        rintro _ w13 ⟨⟨v2, hv2, rfl⟩, hb13⟩
        have HR13 := hidM (HR12.out.below hb13 hg35)
        have hg36 : g3 < w13.heap.size := Nat.lt_of_lt_of_le hg35 hb13.size
        have HF13 := hidM (HF12.out.below hb13)
        have HB13 : Hid (Below w.heap.size w w13) := HB12.out.trans (hb13.mono HB12.out.size)
        have HW1 := hidM (HV1.out.below hb13)
        have HW2 := hidM hv2.strs
        clear hb13 HF12 HB12 HR12 hv2 HV1
        have HLL : Hid ((listL gs path).length ≤ 1000000) := by
          have hl := itemsF_len 0 gs gs.length (Nat.le_refl _)
          rw [List.take_of_length_le (Nat.le_refl _)] at hl
          have hl2 := itemsF_len (path.size + 1) (undF gs (path ++ slashB)) _ (Nat.le_refl _)
          rw [List.take_of_length_le (Nat.le_refl _)] at hl2
          have hl3 : (undF gs (path ++ slashB)).length ≤ gs.length := List.length_filter_le _ _
          unfold Hid listL
          split
          · omega
          · split
            · omega
            · simp
        generalize listL gs path = LL at *
        generalize listE gs path = EE at *
        go_wp2_with fail
        refine (len_any q b 0 c gs _ HF13.out).mono ?_
        rintro _ w14 ⟨rfl, rfl⟩
        rw [hgl]
        go_wp2_with fail
        have hSz := sizes_any q b 0 c gs _ HF13.out (by rw [HSE.out]; omega) (by omega)
        rw [HSE.out] at hSz
        have HSz := hidM hSz
        clear hSz
        refine HSz.out.mono ?_
        rintro _ w15 ⟨rfl, hb15⟩
        have HR15 := hidM (HR13.out.below hb15 hg36)
        have hg37 : g3 < w15.heap.size := Nat.lt_of_lt_of_le hg36 hb15.size
        have HF15 := hidM (HF13.out.below hb15)
        have HB15 : Hid (Below w.heap.size w w15) := HB13.out.trans (hb15.mono HB13.out.size)
        have HX1 := hidM (HW1.out.below hb15)
        have HX2 := hidM (HW2.out.below hb15)
        clear hb15 HF13 HB13 HR13 HW1 HW2 HSz
        have HSM := hidM (same_any v1 v2 LL LL _ HX1.out HX2.out HLL.out)
        have hsb : sameB LL LL = true := by simp [sameB]
        rw [hsb] at HSM
        clear hsb
        have hn1 := HN1.out
        subst hn1
        clear HN1
        cases ok
        · go_wp2_with fail
          refine HSM.out.mono ?_
          rintro _ w16 ⟨rfl, hb16⟩
          have HR16 := hidM (HR15.out.below hb16 hg37)
          have hg38 : g3 < w16.heap.size := Nat.lt_of_lt_of_le hg37 hb16.size
          have HF16 := hidM (HF15.out.below hb16)
          have HB16 : Hid (Below w.heap.size w w16) := HB15.out.trans (hb16.mono HB15.out.size)
          clear hb16 HF15 HB15 HR15 HX1 HX2 HSM
          go_wp2_with fail
          refine (Under_any q b 0 c gs front _ HF16.out (by omega) HRS.out.rise).mono ?_
          rintro _ w17 ⟨⟨v3, hv3, rfl⟩, hb17⟩
          have HR17 := hidM (HR16.out.below hb17 hg38)
          have hg39 : g3 < w17.heap.size := Nat.lt_of_lt_of_le hg38 hb17.size
          have HB17 : Hid (Below w.heap.size w w17) := HB16.out.trans (hb17.mono HB16.out.size)
          have HY1 := hidM hv3.strs
          clear hb17 HF16 HB16 HR16 hv3
          have hru := runder_any g3 0 cap3 us front w17 hg39 HR17.out (by omega)
          rw [rund_eq front HP.out HRS.out] at hru
          have HRU := hidM hru
          clear hru
          go_wp2_with fail
          refine HRU.out.mono ?_
          rintro _ w18 ⟨⟨v4, hv4, rfl⟩, hb18⟩
          have HB18 : Hid (Below w.heap.size w w18) := HB17.out.trans (hb18.mono HB17.out.size)
          have HZ1 := hidM (HY1.out.below hb18)
          have HZ2 := hidM hv4.strs
          clear hb18 HB17 HR17 hv4 HRU HY1
          have HSN := hidM (same_any v3 v4 (pathsL (undF gs front)) (pathsL (undF gs front)) _ HZ1.out HZ2.out (by unfold pathsL; rw [List.length_map]; exact Nat.le_trans (List.length_filter_le _ _) (by omega)))
          have hsb : sameB (pathsL (undF gs front)) (pathsL (undF gs front)) = true := by simp [sameB]
          rw [hsb] at HSN
          clear hsb
          go_wp2_with fail
          refine HSN.out.mono ?_
          rintro _ w19 ⟨rfl, hb19⟩
          have HB19 : Hid (Below w.heap.size w w19) := HB18.out.trans (hb19.mono HB18.out.size)
          clear hb19
          go_wp2_with fail
          go_ret
          exact ⟨by simp, HB19.out⟩
        · go_wp2_with fail
          refine HSM.out.mono ?_
          rintro _ w16 ⟨rfl, hb16⟩
          have HR16 := hidM (HR15.out.below hb16 hg37)
          have hg38 : g3 < w16.heap.size := Nat.lt_of_lt_of_le hg37 hb16.size
          have HF16 := hidM (HF15.out.below hb16)
          have HB16 : Hid (Below w.heap.size w w16) := HB15.out.trans (hb16.mono HB15.out.size)
          clear hb16 HF15 HB15 HR15 HX1 HX2 HSM
          go_wp2_with fail
          refine (Under_any q b 0 c gs front _ HF16.out (by omega) HRS.out.rise).mono ?_
          rintro _ w17 ⟨⟨v3, hv3, rfl⟩, hb17⟩
          have HR17 := hidM (HR16.out.below hb17 hg38)
          have hg39 : g3 < w17.heap.size := Nat.lt_of_lt_of_le hg38 hb17.size
          have HB17 : Hid (Below w.heap.size w w17) := HB16.out.trans (hb17.mono HB16.out.size)
          have HY1 := hidM hv3.strs
          clear hb17 HF16 HB16 HR16 hv3
          have hru := runder_any g3 0 cap3 us front w17 hg39 HR17.out (by omega)
          rw [rund_eq front HP.out HRS.out] at hru
          have HRU := hidM hru
          clear hru
          go_wp2_with fail
          refine HRU.out.mono ?_
          rintro _ w18 ⟨⟨v4, hv4, rfl⟩, hb18⟩
          have HB18 : Hid (Below w.heap.size w w18) := HB17.out.trans (hb18.mono HB17.out.size)
          have HZ1 := hidM (HY1.out.below hb18)
          have HZ2 := hidM hv4.strs
          clear hb18 HB17 HR17 hv4 HRU HY1
          have HSN := hidM (same_any v3 v4 (pathsL (undF gs front)) (pathsL (undF gs front)) _ HZ1.out HZ2.out (by unfold pathsL; rw [List.length_map]; exact Nat.le_trans (List.length_filter_le _ _) (by omega)))
          have hsb : sameB (pathsL (undF gs front)) (pathsL (undF gs front)) = true := by simp [sameB]
          rw [hsb] at HSN
          clear hsb
          go_wp2_with fail
          refine HSN.out.mono ?_
          rintro _ w19 ⟨rfl, hb19⟩
          have HB19 : Hid (Below w.heap.size w w19) := HB18.out.trans (hb19.mono HB18.out.size)
          clear hb19
          go_wp2_with fail
          go_ret
          exact ⟨by simp, HB19.out⟩
end Go.Proofs.YtolohndbbnbfbaaDoor
