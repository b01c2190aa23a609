/-
  The law TreeFormats, walked.
-/
import Derived.Test.YtccohagdfpcplaaDoorTpG
namespace Go.Proofs.YtccohagdfpcplaaDoor
open Go.RowKit

theorem box_setRow {V : World} {B : Nat} {m m2 : Int} {a b a2 b2 : ByteArray} (h : EBox V B m a b) : EBox (V.setRow B #[.int .i64 m2, .string a2, .string b2]) B m2 a2 b2 := setRow_heap _ _ _ _ 29 _ h
theorem box_other {V : World} {B C : Nat} {m : Int} {a b : ByteArray} {cs : Array Value} (h : EBox V B m a b) (hne : B ≠ C) : EBox (V.setRow C cs) B m a b := by
  unfold EBox at h ⊢
  rw [setRow_other V C B cs hne]
  exact h
theorem findE_take {es : List EntB} {nm : ByteArray} : findE es nm = findE (es.take es.length) nm := by rw [List.take_length]
theorem findE_step {es : List EntB} {nm : ByteArray} {k : Nat} (hk : k < es.length) : findE (es.take (k + 1)) nm = match findE (es.take k) nm with | some e => some e | none => if (es.getD k noE).2.1 = nm then some (es.getD k noE) else none := by
  have : es.take (k + 1) = es.take k ++ [es.getD k noE] := by
    rw [List.take_add_one, List.getElem?_eq_getElem hk, List.getD_eq_getElem?_getD, List.getElem?_eq_getElem hk]; rfl
  rw [this]
  unfold findE
  rw [List.find?_append]
  cases List.find? (fun e => decide (e.2.1 = nm)) (es.take k) with
  | some e => rfl
  | none =>
    simp only [Option.none_or, List.find?_cons, List.find?_nil]
    by_cases h : (es.getD k noE).2.1 = nm
    · rw [decide_eq_true h, if_pos h]
    · rw [decide_eq_false h, if_neg h]
theorem EntsV.below {w V : World} {v : Value} {es : List EntB} (h : EntsV w v es) (hb : Below w.heap.size w V) : EntsV V v es := by
  rcases h with h | h | ⟨b, off, c, rfl, h1, h2, h3⟩
  · exact .inl h
  · exact .inr (.inl h)
  · exact .inr (.inr ⟨b, off, c, rfl, Nat.lt_of_lt_of_le h1 hb.size, h2.below hb h1, h3⟩)
/-- what the law's own loop has found so far, in its box -/
structure LpS (w : World) (B C : Nat) (x y : EntB) (V : World) : Prop where
  bel : Below w.heap.size w V
  bx : EBox V B x.1 x.2.1 x.2.2
  by' : EBox V C y.1 y.2.1 y.2.2
set_option maxHeartbeats 8000000 in
set_option maxRecDepth 100000 in
theorem tformats_walk (v : Value) (l : List EntB) (name : ByteArray) (w : World) (hG : GT w) (hV : EntsV w v l) (hO : ∀ e ∈ l, OkE e) (hs : name.size ≤ 140737488355328) :
    Calls Tryd.prog 3 #[v, .string name] w fun e w' => e = .returned (.bool true) ∧ Below w.heap.size w w' := by
  have HFW := hidM (fun V (h : EntsV V v l) => fewE_any v l V h)
  have HV := hidM hV
  have HG := hidM hG
  have HO : Hid (∀ e ∈ l.take 600, OkE e) := fun e he => hO e (List.mem_of_mem_take he)
  have HL6 : Hid ((l.take 600).length ≤ 600) := by unfold Hid; rw [List.length_take]; omega
  have HAW := hidM (fun V (h : GT V) => awake_any V h)
  clear hG hV hO
  generalize l.take 600 = us at *
  go_enter Tryd.func3, Tryd.ntmps3
  go_wp2_with fail
  refine (HFW.out w HV.out).mono ?_
  rintro _ w1 ⟨⟨g, cap, rfl, hg, hcap, hE⟩, hb1⟩
  have HW1 := hidM hb1
  have HG1 := hidM (HG.out.below hb1)
  have HE1 := hidM hE
  have HTF := hidM (treeFormat_any (some ⟨g, 0, none⟩) cap us w1 HG1.out hE HO.out)
  have HRC := hidM (fun V (h : EntsIn V (some ⟨g, 0, none⟩) us) => rcheck_any (some ⟨g, 0, none⟩) cap us V hcap h HO.out)
  have HCK := hidM (fun V (hV : GT V) (h : EntsIn V (some ⟨g, 0, none⟩) us) => check_any (some ⟨g, 0, none⟩) cap us V hV h HO.out)
  have HFI := hidM (fun V (h : EntsIn V (some ⟨g, 0, none⟩) us) => treeFind_any (some ⟨g, 0, none⟩) cap us name V h (by have := HL6.out; omega))
  have HTX := hidM (fun V (h : EntsIn V (some ⟨g, 0, none⟩) us) h5 hr => rtext_any (some ⟨g, 0, none⟩) cap us V h h5 hr)
  have HSM := hidM (fun V a c (h1 : EntsIn V a us) (h2 : EntsIn V (some ⟨g, 0, none⟩) us) => rsame_any a (some ⟨g, 0, none⟩) c cap us us V h1 h2 (by have := HL6.out; omega))
  have HSN := hidM (fun V a c (h1 : EntsIn V (some ⟨g, 0, none⟩) us) (h2 : EntsIn V a us) => rsame_any (some ⟨g, 0, none⟩) a cap c us us V h1 h2 (by have := HL6.out; omega))
  rw [decide_eq_true rfl] at HSM HSN
  have HFS := hidM (fun k (hk : k < us.length) => findE_step (nm := name) hk)
  have HFA : Hid (findE (us.take us.length) name = findE us name) := by unfold Hid; rw [List.take_length]
  have HFO : Hid (∀ k V, Below w1.heap.size w1 V → k < us.length → EntsAt V g 0 us) := fun k V hV hk => by
    rcases HE1.out.below hV with h | ⟨b, off, h1, _, h3⟩
    · rw [h] at hk; cases hk
    · cases h1; exact h3
  clear hb1 hE hcap
  obtain ⟨len, hl⟩ : ∃ len, len = us.length := ⟨_, rfl⟩
  rw [← hl] at HTF HRC HCK HFI HTX HSM HSN HFS HFA HFO HL6 ⊢
  have HL := hidM hl
  clear hl
  have hl6 : len ≤ 600 := HL6.out
  go_wp2_with fail
  refine HTF.out.mono ?_
  rintro _ w2 ⟨rfl, hb2⟩
  have HW2 := hidM (HW1.out.trans (hb2.mono HW1.out.size))
  have HX2 := hidM hb2
  have HG2 := hidM (HG1.out.below hb2)
  have HE2 := hidM (HE1.out.below hb2)
  clear hb2 HTF HG1
  go_wp2_with fail
  refine (HRC.out _ HE2.out).mono ?_
  rintro _ w3 ⟨rfl, hb3⟩
  have HW3 := hidM (HW2.out.trans (hb3.mono HW2.out.size))
  have HX3 := hidM (HX2.out.trans (hb3.mono HX2.out.size))
  have HG3 := hidM (HG2.out.below hb3)
  have HE3 := hidM (HE2.out.below hb3)
  clear hb3 HRC HG2 HE2 HW2 HX2
  go_wp2_with fail
  refine (HFI.out _ HE3.out).mono ?_
  rintro _ w4 ⟨rfl, hb4⟩
  have HW4 := hidM (HW3.out.trans (hb4.mono HW3.out.size))
  have HX4 := hidM (HX3.out.trans (hb4.mono HX3.out.size))
  have HG4 := hidM (HG3.out.below hb4)
  clear hb4 HFI HG3 HE3 HW3 HX3
  unfold findV
  have hz := zero29
  have HFT : Hid (checkV us ≠ 0 → formT us = []) := fun h => by unfold formT; rw [if_neg h]
  have HFG : Hid (checkV us = 0 → formT us = formL us ∧ us.length ≤ 500 ∧ (∀ e ∈ us, rightB e.1 e.2.1.data.toList e.2.2.data.toList = true) ∧ parseF (formL us) [] = (0, us) ∧ (formL us).length ≤ 200000) := fun h => by
    obtain ⟨h1, h2⟩ := chk_steps h
    have hr : ∀ i, i < us.length → rightB (us.getD i noE).1 (us.getD i noE).2.1.data.toList (us.getD i noE).2.2.data.toList = true := fun i hi => step_right (h2 i hi)
    have hr2 : ∀ e ∈ us, rightB e.1 e.2.1.data.toList e.2.2.data.toList = true := fun e he => by
      obtain ⟨i, hi, rfl⟩ := List.mem_iff_getElem.1 he
      have := hr i hi
      rw [List.getD_eq_getElem?_getD, List.getElem?_eq_getElem hi] at this
      exact this
    refine ⟨by unfold formT; rw [if_pos h], h1, hr2, ?_, ?_⟩
    · rw [parse_back us [] hr2 (by simp), if_neg (by simp; omega), List.nil_append, h, if_pos rfl]
    · have := form_len hr us.length (Nat.le_refl _)
      rw [List.take_length] at this
      omega
  generalize hCV : checkV us = cv at *
  clear hCV
  generalize hF : findE us name = F at *
  clear hF
  obtain ⟨xe, hxe⟩ : ∃ xe : EntB, xe = F.getD noE := ⟨_, rfl⟩
  rw [← hxe]
  have HXE := hidM hxe
  clear hxe
  obtain ⟨xm, xn, xi⟩ := xe
  have HBX : Hid (EBox (w4.alloc (.cells #[.int .i64 xm, .string xn, .string xi] 29)) w4.heap.size xm xn xi) := heap_alloc_new _ _
  have HBY : Hid (EBox ((w4.alloc (.cells #[.int .i64 xm, .string xn, .string xi] 29)).alloc (.cells #[.int .i64 0, .string ⟨#[]⟩, .string ⟨#[]⟩] 29)) (w4.heap.size + 1) 0 ⟨#[]⟩ ⟨#[]⟩) := by
    have h := heap_alloc_new (w4.alloc (.cells #[.int .i64 xm, .string xn, .string xi] 29)) (.cells #[.int .i64 0, .string ⟨#[]⟩, .string ⟨#[]⟩] 29)
    rw [show (w4.alloc (.cells #[.int .i64 xm, .string xn, .string xi] 29)).heap.size = w4.heap.size + 1 by simp] at h
    exact h
  have HBX2 : Hid (EBox ((w4.alloc (.cells #[.int .i64 xm, .string xn, .string xi] 29)).alloc (.cells #[.int .i64 0, .string ⟨#[]⟩, .string ⟨#[]⟩] 29)) w4.heap.size xm xn xi) := (heap_alloc_old _ _ (by simp)).trans HBX.out
  have HX5 : Hid (Below w1.heap.size w1 ((w4.alloc (.cells #[.int .i64 xm, .string xn, .string xi] 29)).alloc (.cells #[.int .i64 0, .string ⟨#[]⟩, .string ⟨#[]⟩] 29))) := (HX4.out.alloc HX4.out.size _).alloc (HX4.out.alloc HX4.out.size _).size _
  have h14 : w1.heap.size ≤ w4.heap.size := HX4.out.size
  clear HBX HX4 HW4 HG4
  generalize hFE : (if F.isSome = true then (0 : Int) else 7) = fe at *
  have HFE := hidM hFE
  clear hFE
  go_wp2
  generalize (w4.alloc (.cells #[.int .i64 xm, .string xn, .string xi] 29)).alloc (.cells #[.int .i64 0, .string ⟨#[]⟩, .string ⟨#[]⟩] 29) = W5 at *
  generalize hX : w4.heap.size = X at *
  obtain ⟨Y, hY⟩ : ∃ Y, X + 1 = Y := ⟨_, rfl⟩
  rw [hY] at HBY ⊢
  have hXY : X ≠ Y := by omega
  have h1Y : w1.heap.size ≤ Y := by omega
  clear hX hY h14
  go_loopw [12, 14, 35] (fun okv _ iv wr => ∃ (k : Nat) (f : Option EntB), k ≤ len ∧ iv = .int .i64 (k : Int) ∧ f = findE (us.take k) name ∧ okv = .bool f.isSome ∧ EBox wr X xm xn xi ∧ EBox wr Y (f.getD noE).1 (f.getD noE).2.1 (f.getD noE).2.2 ∧ Below w1.heap.size w1 wr) (fun _ _ iv _ => len - (intOf iv).toNat)
  case atStart => exact ⟨0, none, Nat.zero_le _, rfl, rfl, rfl, HBX2.out, HBY.out, HX5.out⟩
  case round =>
    obtain ⟨k, f, hk, rfl, hf, rfl, hbx, hby, hbel⟩ := hrel
    have HX := hidM hbx
    have HY := hidM hby
    have H1 := hidM hbel
    have HF := hidM hf
    clear hbx hby hbel hf HBX2 HBY HX5
    by_cases hlt : k < len
    · obtain ⟨x0, x1, x2⟩ := HFO.out k wr H1.out hlt k (by rw [← HL.out]; exact hlt)
      have hst := HFS.out k hlt
      rw [← HF.out] at hst
      generalize us.getD k noE = ek at *
      obtain ⟨m1, nm1, id1⟩ := ek
      simp only at x0 x1 x2 hst
      rw [Nat.zero_add] at x0 x1 x2
      have hXs := HX.out.lt
      have hYs := HY.out.lt
      have HEB : Hid (EBox (wr.alloc (.cells #[.int .i64 m1, .string nm1, .string id1] 29)) wr.heap.size m1 nm1 id1) := heap_alloc_new wr _
      have HXa : Hid (EBox (wr.alloc (.cells #[.int .i64 m1, .string nm1, .string id1] 29)) X xm xn xi) := (heap_alloc_old _ _ hXs).trans HX.out
      have HYa : Hid (EBox (wr.alloc (.cells #[.int .i64 m1, .string nm1, .string id1] 29)) Y (f.getD noE).1 (f.getD noE).2.1 (f.getD noE).2.2) := (heap_alloc_old _ _ hYs).trans HY.out
      have H1a : Hid (Below w1.heap.size w1 (wr.alloc (.cells #[.int .i64 m1, .string nm1, .string id1] 29))) := H1.out.alloc H1.out.size _
      have c0 := HEB.out.c0
      have c1 := HEB.out.c1
      have c2 := HEB.out.c2
      clear HX HY H1
      cases f with
      | some fe0 =>
        simp only at hst
        have HST := hidM hst
        simp only [Option.isSome, Option.getD] at HYa ⊢
        clear hst
        go_wp2
        go_roundw
        case rel => exact ⟨k + 1, some fe0, by omega, by go_num, HST.out.symm, rfl, HXa.out, HYa.out, H1a.out⟩
        case measure => simp [intOf]; omega
      | none =>
        simp only at hst
        simp only [Option.isSome, Option.getD] at HYa ⊢
        by_cases he : nm1 = name
        · rw [if_pos he] at hst
          have HST := hidM hst
          have b1 : (nm1.toList == name.toList) = true := by rw [he]; simp
          clear hst he
          go_wp2_with (refine wpList_store_row rfl 29 (.tmp 11) (.tmp 47) rfl Y #[.int .i64 m1, .string nm1, .string id1] rfl rfl 29 #[.int .i64 0, .string ⟨#[]⟩, .string ⟨#[]⟩] HYa.out entry29 rfl (ones29 _ _ _) ?_)
          have HYb := hidM (box_setRow (m2 := m1) (a2 := nm1) (b2 := id1) HYa.out)
          have HXb := hidM (box_other (cs := #[.int .i64 m1, .string nm1, .string id1]) HXa.out hXY)
          have H1b := hidM (below_setRow (g := Y) (c := #[.int .i64 m1, .string nm1, .string id1]) H1a.out h1Y)
          go_wp2
          go_roundw
          case rel => exact ⟨k + 1, some (m1, nm1, id1), by omega, by go_num, HST.out.symm, rfl, HXb.out, HYb.out, H1b.out⟩
          case measure => simp [intOf]; omega
        · rw [if_neg he] at hst
          have HST := hidM hst
          have b1 := bytes_ne he
          clear hst he
          go_wp2
          go_roundw
          case rel => exact ⟨k + 1, none, by omega, by go_num, HST.out.symm, rfl, HXa.out, HYa.out, H1a.out⟩
          case measure => simp [intOf]; omega
    · obtain rfl : k = len := by omega
      rw [HFA.out] at HF
      obtain rfl := HF.out
      rw [← HXE.out] at HY
      simp only at HY
      have HGF := hidM (HG.out.below (HW1.out.trans (H1.out.mono HW1.out.size)))
      have HEF := hidM (HE1.out.below H1.out)
      have HWF := hidM (HW1.out.trans (H1.out.mono HW1.out.size))
      clear HFS HFO HFA HF hlt
      have HNM := hidM (fun V (hV : GT V) => name_any name V hV)
      have HRN := hidM (fun V => rname_any name V (by omega))
      have hgd := guard29
      have heq := fun V => equal29 xm xm xn xn xi xi V
      rw [entEq_iff, decide_eq_true rfl] at heq
      have bcv : (cv == cv) = true := by simp
      clear HG HE1 HW1
      generalize nameB name.data.toList = nb at *
      have bnb : (nb == nb) = true := by simp
      go_wp2_with fail
      refine (HAW.out _ HGF.out).mono ?_
      rintro _ w7 ⟨rfl, hb7⟩
      have HE7 := hidM (HEF.out.below hb7)
      have HG7 := hidM (HGF.out.below hb7)
      have HX7 := hidM (HX.out.below hb7)
      have HY7 := hidM (HY.out.below hb7)
      have HW7 := hidM (HWF.out.trans (hb7.mono HWF.out.size))
      clear hb7 HEF HGF HX HY HWF H1
      go_wp2_with fail
      refine (HCK.out _ HG7.out HE7.out).mono ?_
      rintro _ w8 ⟨rfl, hb8⟩
      have HE8 := hidM (HE7.out.below hb8)
      have HG8 := hidM (HG7.out.below hb8)
      have HX8 := hidM (HX7.out.below hb8)
      have HY8 := hidM (HY7.out.below hb8)
      have HW8 := hidM (HW7.out.trans (hb8.mono HW7.out.size))
      clear hb8 HE7 HG7 HX7 HY7 HW7
      go_wp2_with fail
      refine (HNM.out _ HG8.out).mono ?_
      rintro _ w9 ⟨rfl, hb9⟩
      have HE9 := hidM (HE8.out.below hb9)
      have HG9 := hidM (HG8.out.below hb9)
      have HX9 := hidM (HX8.out.below hb9)
      have HY9 := hidM (HY8.out.below hb9)
      have HW9 := hidM (HW8.out.trans (hb9.mono HW8.out.size))
      clear hb9 HE8 HG8 HX8 HY8 HW8
      go_wp2_with fail
      refine (HRN.out _).mono ?_
      rintro _ w10 ⟨rfl, hb10⟩
      have HE10 := hidM (HE9.out.below hb10)
      have HG10 := hidM (HG9.out.below hb10)
      have HX10 := hidM (HX9.out.below hb10)
      have HY10 := hidM (HY9.out.below hb10)
      have HW10 := hidM (HW9.out.trans (hb10.mono HW9.out.size))
      clear hb10 HE9 HG9 HX9 HY9 HW9
      have x0 := HX10.out.c0
      have x1 := HX10.out.c1
      have x2 := HX10.out.c2
      have y0 := HY10.out.c0
      have y1 := HY10.out.c1
      have y2 := HY10.out.c2
      have HFF := hidM (HFW.out w10 (HV.out.below HW10.out))
      have HEND : Hid (∀ V, Below w10.heap.size w10 V → EntsIn V (some ⟨g, 0, none⟩) us ∧ GT V ∧ Below w.heap.size w V) := fun V hV => ⟨HE10.out.below hV, HG10.out.below hV, HW10.out.trans (hV.mono HW10.out.size)⟩
      have HPS := hidM (fun (V : World) (hV : GT V) (t : ByteArray) (ht : t.data.toList = formL us) hz => (tparse_any t V hV hz))
      cases f with
      | some fe0 =>
        have h0 : fe = 0 := by rw [← HFE.out]; rfl
        subst h0
        rw [show (some fe0 : Option EntB).isSome = true from rfl]
        go_wp2_with fail
        refine HFF.out.mono ?_
        rintro _ w11 ⟨⟨g2, cap2, rfl, _, _, hE2⟩, hb11⟩
        obtain ⟨hE11, hG11, hW11⟩ := HEND.out w11 hb11
        have HS11 := hidM (HSN.out w11 (some ⟨g2, 0, none⟩) cap2 hE11 hE2)
        have HE11 := hidM hE11
        have HG11 := hidM hG11
        have HW11 := hidM hW11
        clear hb11 hE2 hE11 hG11 hW11 x0 x1 x2 y0 y1 y2 HX10 HY10 HE10 HG10 HW10 HFF HEND
        rw [← HL.out]
        go_wp2_with fail
        refine HS11.out.mono ?_
        rintro _ w12 ⟨rfl, hb12⟩
        have HE12 := hidM (HE11.out.below hb12)
        have HG12 := hidM (HG11.out.below hb12)
        have HW12 := hidM (HW11.out.trans (hb12.mono HW11.out.size))
        clear hb12 HS11 HE11 HG11 HW11 HSN HFW HV HNM HRN HCK
        by_cases hc : cv = 0
        · subst hc
          obtain ⟨f1, f2, f3, f4, f5⟩ := HFG.out rfl
          have HT := hidM (fun V (h : EntsIn V (some ⟨g, 0, none⟩) us) => HTX.out V h (by rw [HL.out]; exact f2) f3)
          have hsz : (⟨(formL us).toArray⟩ : ByteArray).size ≤ 140737488355328 := by rw [size_mk]; omega
          have HPR := hidM (tparse_any ⟨(formL us).toArray⟩ w12 HG12.out hsz)
          rw [show (⟨(formL us).toArray⟩ : ByteArray).data.toList = formL us from rfl, f4] at HPR
          rw [f1]
          clear f1 f2 f3 f4 f5 hsz HFG HFT HTX HPS
          generalize (⟨(formL us).toArray⟩ : ByteArray) = S0 at *
          have bS : (S0.toList == S0.toList) = true := by simp
          go_wp2_with fail
          refine HPR.out.mono ?_
          rintro _ w13 ⟨⟨v3, rfl, ho3⟩, hb13⟩
          obtain ⟨a3, c3, rfl, _, hE3⟩ := own_shape ho3
          have HM3 := hidM hE3
          have HE13 := hidM (HE12.out.below hb13)
          have HW13 := hidM (HW12.out.trans (hb13.mono HW12.out.size))
          clear hb13 ho3 hE3 HPR HE12 HG12 HW12
          rw [← HL.out]
          go_wp2_with fail
          refine (HT.out _ HE13.out).mono ?_
          rintro _ w14 ⟨rfl, hb14⟩
          have HS14 := hidM (HSM.out w14 a3 c3 (HM3.out.below hb14) (HE13.out.below hb14))
          have HW14 := hidM (HW13.out.trans (hb14.mono HW13.out.size))
          clear hb14 HT HE13 HM3 HW13
          go_wp2_with fail
          refine HS14.out.mono ?_
          rintro _ w15 ⟨rfl, hb15⟩
          have HW15 := hidM (HW14.out.trans (hb15.mono HW14.out.size))
          clear hb15
          go_wp2
          go_ret
          exact ⟨by first | rfl | simp, HW15.out⟩
        · have b9 : (cv == 0) = false := by simp; exact hc
          rw [HFT.out hc]
          clear hc HFG HFT HTX HPS
          go_wp2
          go_ret
          exact ⟨by first | rfl | simp | decide +kernel, HW12.out⟩
      | none =>
        have h0 : fe = 7 := by rw [← HFE.out]; rfl
        subst h0
        rw [show (none : Option EntB).isSome = false from rfl]
        go_wp2_with fail
        refine HFF.out.mono ?_
        rintro _ w11 ⟨⟨g2, cap2, rfl, _, _, hE2⟩, hb11⟩
        obtain ⟨hE11, hG11, hW11⟩ := HEND.out w11 hb11
        have HS11 := hidM (HSN.out w11 (some ⟨g2, 0, none⟩) cap2 hE11 hE2)
        have HE11 := hidM hE11
        have HG11 := hidM hG11
        have HW11 := hidM hW11
        clear hb11 hE2 hE11 hG11 hW11 x0 x1 x2 y0 y1 y2 HX10 HY10 HE10 HG10 HW10 HFF HEND
        rw [← HL.out]
        go_wp2_with fail
        refine HS11.out.mono ?_
        rintro _ w12 ⟨rfl, hb12⟩
        have HE12 := hidM (HE11.out.below hb12)
        have HG12 := hidM (HG11.out.below hb12)
        have HW12 := hidM (HW11.out.trans (hb12.mono HW11.out.size))
        clear hb12 HS11 HE11 HG11 HW11 HSN HFW HV HNM HRN HCK
        by_cases hc : cv = 0
        · subst hc
          obtain ⟨f1, f2, f3, f4, f5⟩ := HFG.out rfl
          have HT := hidM (fun V (h : EntsIn V (some ⟨g, 0, none⟩) us) => HTX.out V h (by rw [HL.out]; exact f2) f3)
          have hsz : (⟨(formL us).toArray⟩ : ByteArray).size ≤ 140737488355328 := by rw [size_mk]; omega
          have HPR := hidM (tparse_any ⟨(formL us).toArray⟩ w12 HG12.out hsz)
          rw [show (⟨(formL us).toArray⟩ : ByteArray).data.toList = formL us from rfl, f4] at HPR
          rw [f1]
          clear f1 f2 f3 f4 f5 hsz HFG HFT HTX HPS
          generalize (⟨(formL us).toArray⟩ : ByteArray) = S0 at *
          have bS : (S0.toList == S0.toList) = true := by simp
          go_wp2_with fail
          refine HPR.out.mono ?_
          rintro _ w13 ⟨⟨v3, rfl, ho3⟩, hb13⟩
          obtain ⟨a3, c3, rfl, _, hE3⟩ := own_shape ho3
          have HM3 := hidM hE3
          have HE13 := hidM (HE12.out.below hb13)
          have HW13 := hidM (HW12.out.trans (hb13.mono HW12.out.size))
          clear hb13 ho3 hE3 HPR HE12 HG12 HW12
          rw [← HL.out]
          go_wp2_with fail
          refine (HT.out _ HE13.out).mono ?_
          rintro _ w14 ⟨rfl, hb14⟩
          have HS14 := hidM (HSM.out w14 a3 c3 (HM3.out.below hb14) (HE13.out.below hb14))
          have HW14 := hidM (HW13.out.trans (hb14.mono HW13.out.size))
          clear hb14 HT HE13 HM3 HW13
          go_wp2_with fail
          refine HS14.out.mono ?_
          rintro _ w15 ⟨rfl, hb15⟩
          have HW15 := hidM (HW14.out.trans (hb15.mono HW14.out.size))
          clear hb15
          go_wp2
          go_ret
          exact ⟨by first | rfl | simp, HW15.out⟩
        · have b9 : (cv == 0) = false := by simp; exact hc
          rw [HFT.out hc]
          clear hc HFG HFT HTX HPS
          go_wp2
          go_ret
          exact ⟨by first | rfl | simp | decide +kernel, HW12.out⟩
end Go.Proofs.YtccohagdfpcplaaDoor
