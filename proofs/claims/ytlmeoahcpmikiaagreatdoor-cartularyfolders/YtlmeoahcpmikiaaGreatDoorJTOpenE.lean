/-
  The law CartularyFolders, walked.
  A slice of entries that was handed in, opened.
-/
import Derived.Test.YtlmeoahcpmikiaaGreatDoorFolM
import Derived.Test.YtlmeoahcpmikiaaGreatDoorJTTpD
import Derived.Deep.SlicePairs
import Derived.Deep.Strs
import Derived.SizedLaws
import Derived.ShutString
namespace Go.Proofs.YtlmeoahcpmikiaaGreatDoor
open Go.RowKit

set_option maxHeartbeats 16000000 in
set_option maxRecDepth 100000 in
theorem folders_walk (v : Value) (l : List T.EntB) (w : World) (hG : T.GT w) (hL : LG w) (hV : T.EntsV w v l) (hO : ∀ e ∈ l, T.OkE e) :
    Calls Tryz.prog 3 #[v] w fun e w' => e = .returned (.bool true) ∧ Below w.heap.size w w' := by
  have HFW := hidM (T.fewE_any v l w hV)
  have HG := hidM hG
  have HLG := hidM hL
  have HO : Hid (∀ e ∈ l.take 600, T.OkE e) := fun e he => hO e (List.mem_of_mem_take he)
  have HL6 : Hid ((l.take 600).length ≤ 600) := by unfold Hid; rw [List.length_take]; omega
  clear hG hL hV hO
  generalize l.take 600 = us at *
  go_enter Tryz.func3, Tryz.ntmps3
  go_wp2_with fail
  refine HFW.out.mono ?_
  rintro _ w1 ⟨⟨g, cap, rfl, hg, hcap, hE⟩, hb1⟩
  have HW1 := hidM hb1
  have HG1 := hidM (HG.out.below hb1)
  have HL1 := hidM (HLG.out.below hb1)
  have HE1 := hidM hE
  have HTF := hidM (T.treeFormat_any (some ⟨g, 0, none⟩) cap us w1 HG1.out hE HO.out)
  have HRC := hidM (fun V (h : T.EntsIn V (some ⟨g, 0, none⟩) us) => T.rcheck_any (some ⟨g, 0, none⟩) cap us V hcap h HO.out)
  have HSM := hidM (fun V a c (h1 : T.EntsIn V a us) (h2 : T.EntsIn V (some ⟨g, 0, none⟩) us) => T.rsame_any a (some ⟨g, 0, none⟩) c cap us us V h1 h2 (by have := HL6.out; omega))
  rw [decide_eq_true rfl] at HSM
  have HFO : Hid (∀ k V, Below w1.heap.size w1 V → k < us.length → T.EntsAt V g 0 us) := fun k V hV hk => by
    rcases HE1.out.below hV with h | ⟨b, off, h1, _, h3⟩
    · rw [h] at hk; cases hk
    · cases h1; exact h3
  clear hb1 hE hcap HFW HG HLG hg
  obtain ⟨len, hl⟩ : ∃ len, len = us.length := ⟨_, rfl⟩
  rw [← hl] at HTF HRC HSM HFO HL6 ⊢
  have HL := hidM hl
  clear hl
  have hl6 : len ≤ 600 := HL6.out
  go_wp2_with fail
  refine HTF.out.mono ?_
  rintro _ w2 ⟨rfl, hb2⟩
  have HW2 := hidM (HW1.out.trans (hb2.mono HW1.out.size))
  have HX2 := hidM hb2
  have HG2 := hidM (HG1.out.below hb2)
  have HL2 := hidM (HL1.out.below hb2)
  have HE2 := hidM (HE1.out.below hb2)
  clear hb2 HTF HG1 HL1
  by_cases hc : ¬ T.checkV us = 0
  · generalize hcv : T.checkV us = cv at *
    clear hcv
    go_wp2_with fail
    refine (HRC.out _ HE2.out).mono ?_
    rintro _ w3 ⟨rfl, hb3⟩
    have HW3 := hidM (HW2.out.trans (hb3.mono HW2.out.size))
    clear hb3
    go_wp2
    go_ret
    exact ⟨by first | rfl | simp [hc], HW3.out⟩
  have hc := Decidable.not_not.1 hc
  have HFT : Hid (T.formT us = T.formL us ∧ T.parseF (T.formL us) [] = (0, us) ∧ (T.formL us).length ≤ 200000) := by
    obtain ⟨h1, h2⟩ := T.chk_steps hc
    have hr : ∀ i, i < us.length → T.rightB (us.getD i T.noE).1 (us.getD i T.noE).2.1.data.toList (us.getD i T.noE).2.2.data.toList = true := fun i hi => T.step_right (h2 i hi)
    have hr2 : ∀ e ∈ us, T.rightB e.1 e.2.1.data.toList e.2.2.data.toList = true := fun e he => by
      obtain ⟨i, hi, rfl⟩ := List.mem_iff_getElem.1 he
      have := hr i hi
      rw [List.getD_eq_getElem?_getD, List.getElem?_eq_getElem hi] at this
      exact this
    refine ⟨by unfold T.formT; rw [if_pos hc], ?_, ?_⟩
    · rw [T.parse_back us [] hr2 (by simp), if_neg (by simp; omega), List.nil_append, hc, if_pos rfl]
    · have := T.form_len hr us.length (Nat.le_refl _)
      rw [List.take_length] at this
      omega
  have HFI := hidM (fun k hk => find_own hc k hk)
  rw [hc, HFT.out.1]
  clear hc HRC
  have HPF := hidM HFT.out.2
  have hf2 := HFT.out.2.2
  clear HFT
  generalize T.formL us = fl at *
  obtain ⟨S, hS⟩ : ∃ S : ByteArray, S = ⟨fl.toArray⟩ := ⟨_, rfl⟩
  have hSL : S.data.toList = fl := by rw [hS]
  have hSs : S.size = fl.length := by rw [hS]; exact T.size_mk fl
  rw [← hS]
  have HSL := hidM hSL
  clear hS hSL
  have hs2 : S.size ≤ 200000 := by omega
  clear hSs hf2
  have HBA : Hid (Below w2.heap.size w2 (w2.alloc (.cells #[.int .i64 2, .string S] 29))) := (Below.refl _ _).alloc (Nat.le_refl _) _
  have HO3 : Hid ((w2.alloc (.cells #[.int .i64 2, .string S] 29)).heap[w2.heap.size]? = some (.cells #[.int .i64 2, .string S] 29 (0, 0))) := heap_alloc_new w2 _
  have HW3 := hidM (HW2.out.trans (HBA.out.mono HW2.out.size))
  have HX3 := hidM (HX2.out.trans (HBA.out.mono HX2.out.size))
  have HG3 := hidM (HG2.out.below HBA.out)
  have HL3 := hidM (HL2.out.below HBA.out)
  clear HW2 HX2 HG2 HL2 HE2 HBA
  go_wp2_with fail
  generalize w2.alloc (.cells #[.int .i64 2, .string S] 29) = w3 at *
  generalize w2.heap.size = O at *
  by_cases hbig : 65000 < S.size
  · have hce : checkE 2 S.size = 2 := by unfold checkE; rw [if_neg (by decide), if_pos hbig]
    have HWN := hidM (lwrite_no 2 S w3 HL3.out (by rw [hce]; decide))
    rw [hce] at HWN
    refine HWN.out.mono ?_
    rintro _ w4 ⟨rfl, hb4⟩
    have HW4 := hidM (HW3.out.trans (hb4.mono HW3.out.size))
    clear hb4
    unfold filV
    have hbi : (65000 : Int) < (S.size : Int) := by omega
    go_wp2
    go_ret
    exact ⟨rfl, HW4.out.alloc HW4.out.size _⟩
  have hce : checkE 2 S.size = 0 := by unfold checkE; rw [if_neg (by decide), if_neg hbig]
  obtain ⟨IA, hIA⟩ : ∃ IA : ByteArray, IA = ⟨(hexL (sha1L (encL 2 S.data.toList))).toArray⟩ := ⟨_, rfl⟩
  have hAL : IA.data.toList = hexL (sha1L (encL 2 S.data.toList)) := by rw [hIA]
  have HAB := hidM (show idB IA.data.toList = true by rw [hAL]; exact idB_hex _ (sha1L_len _))
  have HAL := hidM hAL
  have HWY := hidM (lwrite_yes 2 S w3 HL3.out hce)
  rw [← hIA] at HWY
  clear hIA hAL
  refine HWY.out.mono ?_
  rintro _ w4 ⟨⟨X, rfl, hfr, hxs⟩, hb4⟩
  have HFX := hidM hfr
  have HW4 := hidM (HW3.out.trans (hb4.mono HW3.out.size))
  have HX4 := hidM (HX3.out.trans (hb4.mono HX3.out.size))
  have HG4 := hidM (HG3.out.below hb4)
  have HL4 := hidM (HL3.out.below hb4)
  have HO4 := hidM (box_keptL HO3.out hb4)
  clear hfr hb4 HW3 HX3 HG3 HL3 HO3 HWY
  unfold filV
  obtain ⟨PA, hPA⟩ : ∃ PA, PA = pathB IA := ⟨_, rfl⟩
  rw [← hPA]
  have HPA := hidM hPA
  clear hPA
  have HX5 : Hid ((w4.alloc (.cells #[.string PA, .string X] 31)).heap[w4.heap.size]? = some (.cells #[.string PA, .string X] 31 (0, 0))) := heap_alloc_new w4 _
  have cF0 : (w4.alloc (.cells #[.string PA, .string X] 31)).cell? ⟨w4.heap.size, 0, none⟩ = some (.string PA) := by rw [cell_of_row _ _ _ _ 31 (0, 0) HX5.out]; rfl
  have cF1 : (w4.alloc (.cells #[.string PA, .string X] 31)).cell? ⟨w4.heap.size, 1, none⟩ = some (.string X) := by rw [cell_of_row _ _ _ _ 31 (0, 0) HX5.out]; rfl
  have HCA : Hid (∀ V : World, V = (w4.alloc (.cells #[.string PA, .string X] 31)).alloc (.cells #[.string PA, .string X] 31) → V.heap[w4.heap.size + 1]? = some (.cells #[.string PA, .string X] 31 (0, 0)) ∧ Below w4.heap.size w4 V ∧ w4.heap.size + 1 < V.heap.size) := by
    rintro V rfl
    have hbx : Below (w4.alloc (.cells #[.string PA, .string X] 31)).heap.size (w4.alloc (.cells #[.string PA, .string X] 31)) ((w4.alloc (.cells #[.string PA, .string X] 31)).alloc (.cells #[.string PA, .string X] 31)) := (Below.refl _ _).alloc (Nat.le_refl _) _
    have hh := heap_alloc_new (w4.alloc (.cells #[.string PA, .string X] 31)) (.cells #[.string PA, .string X] 31)
    have hsz : (w4.alloc (.cells #[.string PA, .string X] 31)).heap.size = w4.heap.size + 1 := by simp
    rw [hsz] at hh
    exact ⟨hh, ((Below.refl w4.heap.size w4).alloc (Nat.le_refl _) _).trans (hbx.mono (by simp)), (Array.getElem?_eq_some_iff.1 hh).1⟩
  go_wp2_with fail
  generalize (w4.alloc (.cells #[.string PA, .string X] 31)).alloc (.cells #[.string PA, .string X] 31) = w6 at *
  obtain ⟨h6, hb6, hl6'⟩ := HCA.out w6 rfl
  have HW6 := hidM (HW4.out.trans (hb6.mono HW4.out.size))
  have HX6 := hidM (HX4.out.trans (hb6.mono HX4.out.size))
  have HG6 := hidM (HG4.out.below hb6)
  have HL6' := hidM (HL4.out.below hb6)
  have HO6 := hidM (box_keptL HO4.out hb6)
  have hFA : FilesAt w6 (w4.heap.size + 1) 0 [(pathB IA, X)] := by
    intro i hi
    have hi2 : i < 1 := hi
    obtain rfl : i = 0 := by omega
    exact ⟨by rw [cell_of_row _ _ _ _ 31 (0, 0) h6, HPA.out]; rfl, by rw [cell_of_row _ _ _ _ 31 (0, 0) h6]; rfl⟩
  have HOK := hidM (one_ok (X := X) HAB.out)
  have HSZ : Hid (sizeF [(pathB IA, X)] ≤ 66000) := by unfold Hid sizeF; simp; omega
  have HNEW := hidM (new_anyO (w4.heap.size + 1) 0 1 [(pathB IA, X)] w6 hl6' hFA (by have := HSZ.out; omega) (by simp))
  rw [show ([(pathB IA, X)] : List FileB).length = 1 from rfl] at HNEW
  clear HCA cF0 cF1 hb6 h6 hFA HW4 HX4 HG4 HL4 HO4 HX5 hl6'
  refine HNEW.out.mono ?_
  rintro _ w7 ⟨hnp, hb7⟩
  have HW7 := hidM (HW6.out.trans (hb7.mono HW6.out.size))
  have HX7 := hidM (HX6.out.trans (hb7.mono HX6.out.size))
  have HG7 := hidM (HG6.out.below hb7)
  have HL7 := hidM (HL6'.out.below hb7)
  have HO7 := hidM (box_keptL HO6.out hb7)
  clear hb7 HNEW HW6 HX6 HG6 HL6' HO6
  obtain ⟨gs, q, bb, c, hperm, hrise, hfold, rfl⟩ : ∃ gs q bb c, gs.Perm [(pathB IA, X)] ∧ RiseS gs ∧ Folder w7 q bb 0 c gs ∧ _ = newR (some ⟨q, 0, none⟩) 0 := by
    rcases hnp with ⟨hbig, _⟩ | ⟨_, hno, _⟩ | ⟨_,_, gs, q, bb, c, h1, h2, h3, _,_, h6⟩
    · exfalso
      have := HSZ.out
      unfold bigF at hbig
      have h2 : ([(pathB IA, X)] : List FileB).length = 1 := rfl
      omega
    · exact absurd HOK.out hno
    · exact ⟨gs, q, bb, c, h1, h2, h3, h6⟩
  unfold newR
  have hgl : gs.length = 1 := hperm.length_eq
  have HOP := hidM (odbOpen_no q bb 0 c gs w7 hfold (by omega) hrise.rise (und_none hperm (fun f hf => by simp at hf; subst hf; exact pack_no HAB.out)))
  have HRA : Hid (∀ d V, Folder V d bb 0 c gs → LG V → Calls Tryz.prog 96 #[.pointer (some ⟨d, 0, none⟩), .string IA] V fun e w' => e = .returned (.tuple #[.agg #[.int .i64 2, .string S], .int .i64 0]) ∧ Below V.heap.size V w') := fun d V hF hV => by
    refine (lread_any d bb 0 c gs IA V hF (by omega) hrise.rise (fun f hf => by have := hperm.mem_iff.1 hf; simp at this; subst this; show X.size ≤ _; omega) hV (by rw [idB_size HAB.out]; decide)).mono ?_
    rintro _ w' ⟨⟨x, hq, rfl⟩, hb⟩
    have h := read_frame (k := 2) (d := S.data.toList) (X := X) (id := IA) (us := []) (by rw [len_size]; exact hce) HFX.out HAL.out HOK.out.2.1 hperm hq
    rw [h]
    exact ⟨rfl, hb⟩
  have HIA : Hid ((⟨(idT 2 S.data.toList).toArray⟩ : ByteArray) = IA) := by
    unfold Hid
    refine bytes_ext ?_
    rw [HAL.out]
    unfold idT
    rw [if_pos (by rw [len_size]; exact hce)]
  clear hnp hperm hrise hgl HFX HAL HPA hxs hfold
  go_wp2_with fail
  refine HOP.out.mono ?_
  rintro _ w8 ⟨⟨d, rfl, hF8, _,_⟩, hb8⟩
  have HF8 := hidM hF8
  have HW8 := hidM (HW7.out.trans (hb8.mono HW7.out.size))
  have HX8 := hidM (HX7.out.trans (hb8.mono HX7.out.size))
  have HG8 := hidM (HG7.out.below hb8)
  have HL8 := hidM (HL7.out.below hb8)
  have HO8 := hidM (box_keptL HO7.out hb8)
  clear hb8 hF8 HOP HW7 HX7 HG7 HL7 HO7
  have HIDT := hidM (id_any 2 S w8 HL8.out.2)
  rw [hce, HIA.out] at HIDT
  have c0 : w8.cell? ⟨O, 0, none⟩ = some (.int .i64 2) := by rw [cell_of_row _ _ _ _ 29 (0, 0) HO8.out]; rfl
  have c1 : w8.cell? ⟨O, 1, none⟩ = some (.string S) := by rw [cell_of_row _ _ _ _ 29 (0, 0) HO8.out]; rfl
  go_wp2_with fail
  refine HIDT.out.mono ?_
  rintro _ w9 ⟨rfl, hb9⟩
  have HF9 := hidM (HF8.out.below hb9)
  have HW9 := hidM (HW8.out.trans (hb9.mono HW8.out.size))
  have HX9 := hidM (HX8.out.trans (hb9.mono HX8.out.size))
  have HG9 := hidM (HG8.out.below hb9)
  have HL9 := hidM (HL8.out.below hb9)
  clear hb9 HIDT HF8 HW8 HX8 HG8 HL8 HO8 c0 c1
  have HK := hidM (fun (kind : Int) (V : World) (hF : Folder V d bb 0 c gs) (hV : LG V) => odbKind_read d IA S 2 kind V (fun V' hb => HRA.out d V' (hF.below hb) (hV.below hb)))
  have HK2 := hidM (HK.out 2 w9 HF9.out HL9.out)
  rw [if_pos rfl, if_pos rfl] at HK2
  go_wp2_with fail
  refine HK2.out.mono ?_
  rintro _ w10 ⟨rfl, hb10⟩
  have HF10 := hidM (HF9.out.below hb10)
  have HW10 := hidM (HW9.out.trans (hb10.mono HW9.out.size))
  have HX10 := hidM (HX9.out.trans (hb10.mono HX9.out.size))
  have HG10 := hidM (HG9.out.below hb10)
  have HL10 := hidM (HL9.out.below hb10)
  clear hb10 HK2 HF9 HW9 HX9 HG9 HL9
  have HK3 := hidM (HK.out 3 w10 HF10.out HL10.out)
  rw [if_neg (by decide), if_neg (by decide)] at HK3
  go_wp2_with fail
  refine HK3.out.mono ?_
  rintro _ w11 ⟨rfl, hb11⟩
  have HW11 := hidM (HW10.out.trans (hb11.mono HW10.out.size))
  have HX11 := hidM (HX10.out.trans (hb11.mono HX10.out.size))
  have HG11 := hidM (HG10.out.below hb11)
  clear hb11 HK3 HF10 HW10 HX10 HG10 HL10 HK HRA
  have HPR := hidM (T.tparse_any S w11 HG11.out (by omega))
  rw [HSL.out, HPF.out.1] at HPR
  go_wp2_with fail
  refine HPR.out.mono ?_
  rintro _ w12 ⟨⟨v3, rfl, ho3⟩, hb12⟩
  obtain ⟨a3, c3, rfl, _, hE3⟩ := T.own_shape ho3
  have HM12 := hidM hE3
  have HW12 := hidM (HW11.out.trans (hb12.mono HW11.out.size))
  have HX12 := hidM (HX11.out.trans (hb12.mono HX11.out.size))
  have HS12 := hidM (HSM.out w12 a3 c3 hE3 (HE1.out.below HX12.out))
  clear hb12 ho3 hE3 HPR HG11 HW11 HX11 HPF HSL
  rw [← HL.out]
  go_wp2_with fail
  refine HS12.out.mono ?_
  rintro _ w13 ⟨rfl, hb13⟩
  have HW13 := hidM (HW12.out.trans (hb13.mono HW12.out.size))
  have HX13 := hidM (HX12.out.trans (hb13.mono HX12.out.size))
  have HM13 := hidM (HM12.out.below hb13)
  clear hb13 HS12 HW12 HX12 HM12 HSM
  have HGF : Hid (∀ k V, Below w1.heap.size w1 V → k < len → T.EntsAt V g 0 us) := HFO
  have HFD := hidM (fun nm V (h : T.EntsIn V a3 us) => T.treeFind_any a3 c3 us nm V h (by rw [← HL.out]; omega))
  rw [← HL.out] at HFD HFI
  have hz := T.zero29
  clear HFO
  go_wp2
  go_loopw [21, 22, 23, 115] (fun _ _ _ iv wr => ∃ k : Nat, k ≤ len ∧ iv = .int .i64 (k : Int) ∧ Below w13.heap.size w13 wr) (fun _ _ _ iv _ => len - (intOf iv).toNat)
  case atStart => exact ⟨0, Nat.zero_le _, rfl, Below.refl _ _⟩
  case round =>
    obtain ⟨k, hk, rfl, hbel⟩ := hrel
    have HB := hidM hbel
    clear hbel
    by_cases hlt : k < len
    · obtain ⟨x0, x1, x2⟩ := HGF.out k wr (HX13.out.trans (HB.out.mono HX13.out.size)) hlt k (by rw [← HL.out]; exact hlt)
      have HFK := hidM (HFI.out k hlt)
      generalize us.getD k T.noE = ek at *
      obtain ⟨m1, nm1, id1⟩ := ek
      simp only at x0 x1 x2 HFK
      rw [Nat.zero_add] at x0 x1 x2
      have HEB : Hid ((wr.alloc (.cells #[.int .i64 m1, .string nm1, .string id1] 47)).heap[wr.heap.size]? = some (.cells #[.int .i64 m1, .string nm1, .string id1] 47 (0, 0))) := heap_alloc_new wr _
      have HB1 : Hid (Below w13.heap.size w13 (wr.alloc (.cells #[.int .i64 m1, .string nm1, .string id1] 47))) := HB.out.alloc HB.out.size _
      have HF1 := hidM (HFD.out nm1 (wr.alloc (.cells #[.int .i64 m1, .string nm1, .string id1] 47)) (HM13.out.below HB1.out))
      rw [HFK.out] at HF1
      have c1 : (wr.alloc (.cells #[.int .i64 m1, .string nm1, .string id1] 47)).cell? ⟨wr.heap.size, 1, none⟩ = some (.string nm1) := by rw [cell_of_row _ _ _ _ 47 (0, 0) HEB.out]; rfl
      clear HB
      go_wp2_with fail
      generalize wr.alloc (.cells #[.int .i64 m1, .string nm1, .string id1] 47) = W1 at *
      generalize wr.heap.size = XB at *
      refine HF1.out.mono ?_
      rintro _ W2 ⟨rfl, hb2⟩
      have HB2 := hidM (HB1.out.trans (hb2.mono HB1.out.size))
      have HE2 := hidM (box_keptL HEB.out hb2)
      have HX2 : Hid (XB < W2.heap.size) := (Array.getElem?_eq_some_iff.1 HE2.out).1
      clear hb2 HF1 HB1 HEB c1
      have hfv : T.findV (some (m1, nm1, id1)) = .tuple #[.agg #[.int .i64 m1, .string nm1, .string id1], .int .i64 0] := rfl
      rw [hfv]
      clear hfv
      have HEY : Hid ((W2.alloc (.cells #[.int .i64 m1, .string nm1, .string id1] 47)).heap[W2.heap.size]? = some (.cells #[.int .i64 m1, .string nm1, .string id1] 47 (0, 0))) := heap_alloc_new W2 _
      have HEX : Hid ((W2.alloc (.cells #[.int .i64 m1, .string nm1, .string id1] 47)).heap[XB]? = some (.cells #[.int .i64 m1, .string nm1, .string id1] 47 (0, 0))) := box_keptL HE2.out ((Below.refl _ _).alloc (Nat.le_refl _) _)
      have HB3 : Hid (Below w13.heap.size w13 (W2.alloc (.cells #[.int .i64 m1, .string nm1, .string id1] 47))) := HB2.out.alloc HB2.out.size _
      have y0 : (W2.alloc (.cells #[.int .i64 m1, .string nm1, .string id1] 47)).cell? ⟨W2.heap.size, 0, none⟩ = some (.int .i64 m1) := by rw [cell_of_row _ _ _ _ 47 (0, 0) HEY.out]; rfl
      have y1 : (W2.alloc (.cells #[.int .i64 m1, .string nm1, .string id1] 47)).cell? ⟨W2.heap.size, 1, none⟩ = some (.string nm1) := by rw [cell_of_row _ _ _ _ 47 (0, 0) HEY.out]; rfl
      have y2 : (W2.alloc (.cells #[.int .i64 m1, .string nm1, .string id1] 47)).cell? ⟨W2.heap.size, 2, none⟩ = some (.string id1) := by rw [cell_of_row _ _ _ _ 47 (0, 0) HEY.out]; rfl
      have z0 : (W2.alloc (.cells #[.int .i64 m1, .string nm1, .string id1] 47)).cell? ⟨XB, 0, none⟩ = some (.int .i64 m1) := by rw [cell_of_row _ _ _ _ 47 (0, 0) HEX.out]; rfl
      have z1 : (W2.alloc (.cells #[.int .i64 m1, .string nm1, .string id1] 47)).cell? ⟨XB, 1, none⟩ = some (.string nm1) := by rw [cell_of_row _ _ _ _ 47 (0, 0) HEX.out]; rfl
      have z2 : (W2.alloc (.cells #[.int .i64 m1, .string nm1, .string id1] 47)).cell? ⟨XB, 2, none⟩ = some (.string id1) := by rw [cell_of_row _ _ _ _ 47 (0, 0) HEX.out]; rfl
      have hgd := T.guard29
      have heq := fun V => T.equal29 m1 m1 nm1 nm1 id1 id1 V
      rw [T.entEq_iff, decide_eq_true rfl] at heq
      clear HE2 HX2 HB2 HEY HEX x0 x1 x2
      go_wp2
      go_roundw
      case rel => exact ⟨k + 1, by omega, by go_num, HB3.out⟩
      case measure => simp [intOf]; omega
    · have HBF := hidM (HW13.out.trans (HB.out.mono HW13.out.size))
      go_wp2
      go_ret
      exact ⟨rfl, HBF.out⟩
end Go.Proofs.YtlmeoahcpmikiaaGreatDoor
namespace Go.Proofs.YtlmeoahcpmikiaaGreatDoor.T
open Go.ChangeShapes Go.WideShapes Go.RowKit

theorem cells29 : Tryz.prog.cellsOf 47 = 3 := by kernel_rfl
theorem cells9' : Tryz.prog.cellsOf 9 = 1 := by kernel_rfl
theorem cells3' : Tryz.prog.cellsOf 3 = 1 := by kernel_rfl
theorem weightsAll_mem {H : Type} {P : Program} {e : TypeId} {l : List (DataW H)} {d : DataW H} (h : d ∈ l) {n : Nat} (hn : n ∈ d.weights P e) : n ∈ DataW.weightsAll P e l := by
  induction l with
  | nil => cases h
  | cons x l ih =>
    rw [DataW.weightsAll, List.mem_append]
    rcases List.mem_cons.1 h with rfl | h
    · exact .inl hn
    · exact .inr (ih h)
theorem three_of {cs : List Value} (h : cs.length = 3) : ∃ a b c, cs = [a, b, c] := by
  match cs, h with
  | [a, b, c], _ => exact ⟨a, b, c, rfl⟩
theorem open_ent {H : Type} {enc : TypeId × Value → H} {W : World} {n i : Nat} {a : Addr} {y : DataW H × List MemPlace}
    (h : (W.cells? 0 (a.add (i * Tryz.prog.cellsOf 47)) (Tryz.prog.cellsOf 47)).bind (DataW.trod enc Tryz.prog W 0 (fun _ => true) true n 47) = some y) :
    ∃ e : EntB, (-9223372036854775808 ≤ e.1 ∧ e.1 ≤ 9223372036854775807) ∧ (∃ D, y.1 = .agg [D, .lit (.string e.2.1.data.toList), .lit (.string e.2.2.data.toList)]) ∧ W.cell? ((a.add (i * 3)).add 0) = some (.int .i64 e.1) ∧ W.cell? ((a.add (i * 3)).add 1) = some (.string e.2.1) ∧ W.cell? ((a.add (i * 3)).add 2) = some (.string e.2.2) := by
  rw [cells29, Option.bind_eq_some_iff] at h
  obtain ⟨cs, hcs, hy⟩ := h
  obtain ⟨_, hlen, hcell⟩ := World.cells?_some hcs
  obtain ⟨a0, a1, a2, rfl⟩ := three_of hlen
  obtain ⟨y0, y1, y2, m, rfl, _, h0, h1, h2⟩ := Deep.trod_struct3 Tryz.underlying47 hy
  simp only [cells3', cells9', List.drop_zero, List.take_succ_cons, List.take_zero, List.drop_succ_cons] at h0 h1 h2
  obtain ⟨n0, e0, _, w0⟩ := DataW.trod_int Tryz.underlying3 h0
  obtain ⟨s1, e1, g1, _⟩ := DataW.trod_string Tryz.underlying9 h1
  obtain ⟨s2, e2, g2, _⟩ := DataW.trod_string Tryz.underlying9 h2
  simp only [List.cons.injEq, and_true] at e0 e1 e2
  subst e0 e1 e2
  have c0 := hcell 0 (by decide)
  have c1 := hcell 1 (by decide)
  have c2 := hcell 2 (by decide)
  have hb : -9223372036854775808 ≤ n0 ∧ n0 ≤ 9223372036854775807 := bounds_i64 w0
  refine ⟨(n0, s1, s2), hb, ⟨y0.1, ?_⟩, c0, c1, c2⟩
  rw [g1, g2]
theorem cell_lt {W : World} {b o : Nat} {v : Value} (h : W.cell? ⟨b, o, none⟩ = some v) : b < W.heap.size := by
  rcases Nat.lt_or_ge b W.heap.size with hl | hl
  · exact hl
  · have hn : W.heap[b]? = none := Array.getElem?_eq_none hl
    simp [World.cell?, hn] at h
set_option maxRecDepth 100000 in
theorem open_ents {H : Type} {enc : TypeId × Value → H} {W : World} {v : Value} {d : DataW H} {p : List MemPlace} {ts : List TypeId} {ds : List (DataW H)} {j : Nat} (hv1 : v.cells.toList = [v])
    (hw : (DataW.weightsEach Tryz.prog ts ds).all (· ≤ reachBytes) = true) (htj : ts[j]? = some 22) (hdj : ds[j]? = some d)
    (h : DataW.Trod enc Tryz.prog W 0 (fun _ => true) true 22 v d p) :
    ∃ es, EntsV W v es ∧ ∀ e ∈ es, OkE e := by
  obtain ⟨fuel, hf⟩ := h
  rcases DataW.trod_slice Tryz.underlying22 hf with ⟨h0, _⟩ | ⟨a, len, cap, elems, rest, n, _, h0, hx, _, hlc, hm, hlen, hel, _,_⟩
  · rw [hv1] at h0
    exact ⟨[], .inl ⟨by simpa using h0, rfl⟩, fun e he => by cases he⟩
  · rw [hv1] at h0
    have hv : v = .slice (some a) len cap := by simpa using h0
    by_cases hl : len = 0
    · subst hl
      exact ⟨[], .inr (.inl ⟨a, cap, hv, rfl⟩), fun e he => by cases he⟩
    · have each : ∀ i, i < len → ∃ e : EntB, OkE e ∧ W.cell? ((a.add (i * 3)).add 0) = some (.int .i64 e.1) ∧ W.cell? ((a.add (i * 3)).add 1) = some (.string e.2.1) ∧ W.cell? ((a.add (i * 3)).add 2) = some (.string e.2.2) := by
        intro i hi
        have hi2 : i < elems.length := by omega
        have h1 := hel i hi
        rw [List.getElem?_eq_getElem hi2] at h1
        obtain ⟨e, hb, ⟨D, hD⟩, c0, c1, c2⟩ := open_ent h1
        have hmem : ∀ k, k ∈ (elems[i].1).weights Tryz.prog 47 → k ≤ reachBytes := fun k hk => by
          have h1 : k ∈ d.weights Tryz.prog 22 := by
            rw [show d = _ from congrArg Prod.fst hx]
            simp only [DataW.weights, Tryz.underlying22]
            refine List.mem_cons_of_mem _ (List.mem_append.2 (.inl (weightsAll_mem (d := elems[i].1) (List.mem_map.2 ⟨elems[i], List.getElem_mem hi2, rfl⟩) hk)))
          simpa using List.all_eq_true.1 hw _ (DataW.weights_mem_each htj hdj k h1)
        rw [hD] at hmem
        have s1 := hmem e.2.1.size (by rw [Lib.size_eq]; simp [DataW.weights, DataW.weightsEach, Tryz.underlying47])
        have s2 := hmem e.2.2.size (by rw [Lib.size_eq]; simp [DataW.weights, DataW.weightsEach, Tryz.underlying47])
        unfold reachBytes at s1 s2
        exact ⟨e, ⟨hb.1, hb.2, by omega, by omega⟩, c0, c1, c2⟩
      obtain ⟨F, hF⟩ := Deep.choose_lt each
      obtain ⟨b, off, spot⟩ := a
      have hspot : spot = none := by
        obtain ⟨_, c0, _⟩ := hF 0 (by omega)
        simpa [Addr.add] using World.cell?_spot c0
      subst hspot
      have hln : ((List.range len).map F).length = len := by simp
      have hg : ∀ i, i < len → ((List.range len).map F).getD i noE = F i := fun i hi => by
        rw [List.getD_eq_getElem?_getD, List.getElem?_eq_getElem (by simpa using hi)]
        simp
      refine ⟨(List.range len).map F, .inr (.inr ⟨b, off, cap, by rw [hln]; exact hv, ?_, ?_, by rw [hln]; exact hlc⟩), ?_⟩
      · obtain ⟨_, c0, _⟩ := hF 0 (by omega)
        rw [Addr.add_lit, Addr.add_lit] at c0
        exact cell_lt c0
      · intro i hi
        rw [hln] at hi
        obtain ⟨_, c0, c1, c2⟩ := hF i hi
        rw [hg i hi]
        rw [Addr.add_lit, Addr.add_lit] at c0 c1 c2
        exact ⟨c0, c1, c2⟩
      · intro e he
        obtain ⟨i, hi, rfl⟩ := List.mem_map.1 he
        exact (hF i (List.mem_range.1 hi)).1
end Go.Proofs.YtlmeoahcpmikiaaGreatDoor.T
