/-
  Taken over from another program: TreF.
-/
import Derived.Test.YtlmeoahcpmikiaaGreatDoorJTTreE
import Derived.Maps.Own
import Derived.Maps.Views
import Derived.Maps.OwnSet
namespace Go.Proofs.YtlmeoahcpmikiaaGreatDoor.T
open Go.RowKit Go.WideMaps Go.Maps
abbrev EntB := Int × ByteArray × ByteArray
def noE : EntB := (0, ByteArray.empty, ByteArray.empty)
/-- entries in a row -/
def EntsAt (w : World) (b off : Nat) (es : List EntB) : Prop := ∀ i, i < es.length → w.cell? ⟨b, off + i * 3, none⟩ = some (.int .i64 (es.getD i noE).1) ∧ w.cell? ⟨b, off + i * 3 + 1, none⟩ = some (.string (es.getD i noE).2.1) ∧ w.cell? ⟨b, off + i * 3 + 2, none⟩ = some (.string (es.getD i noE).2.2)
theorem EntsAt.below {w w' : World} {b off : Nat} {es : List EntB} (h : EntsAt w b off es) (hb : Below w.heap.size w w') (hl : b < w.heap.size) : EntsAt w' b off es := fun i hi =>
  ⟨(hb.cell (p := ⟨b, off + i * 3, none⟩) hl).trans (h i hi).1, (hb.cell (p := ⟨b, off + i * 3 + 1, none⟩) hl).trans (h i hi).2.1, (hb.cell (p := ⟨b, off + i * 3 + 2, none⟩) hl).trans (h i hi).2.2⟩
/-- an entry that can be: its mode is an int, its texts have lengths -/
def OkE (e : EntB) : Prop := -9223372036854775808 ≤ e.1 ∧ e.1 ≤ 9223372036854775807 ∧ e.2.1.size ≤ 140737488355328 ∧ e.2.2.size ≤ 140737488355328
/-- the map counts these names -/
def CntM {H : Type} (D : DataW H) (ns : List (List UInt8)) : Prop := ∀ x, D.atKey (.string x) (.lit (.int .i64 0)) = .lit (.int .i64 ((ns.count x : Nat) : Int))
theorem getD_mem {es : List EntB} {k : Nat} (h : k < es.length) : es.getD k noE ∈ es := by
  rw [List.getD_eq_getElem?_getD, List.getElem?_eq_getElem h]
  exact List.getElem_mem h
def stepB (es : List EntB) (i : Nat) : Bool := rightB (es.getD i noE).1 (es.getD i noE).2.1.data.toList (es.getD i noE).2.2.data.toList && decide (((es.take i).map fun e => e.2.1.data.toList).count (es.getD i noE).2.1.data.toList = 0) && (decide (i = 0) || Op.bytesLess (keyL (es.getD (i - 1) noE).1 (es.getD (i - 1) noE).2.1.data.toList) (keyL (es.getD i noE).1 (es.getD i noE).2.1.data.toList))
/-- what Check says of at most 500 entries -/
def checkZ (es : List EntB) : Int := if (List.range es.length).all (stepB es) = true then 0 else 4
theorem chk_no {es : List EntB} {k : Nat} (hk : k < es.length) (h : stepB es k = false) : checkZ es = 4 := by
  unfold checkZ
  rw [if_neg]
  intro e
  have := List.all_eq_true.1 e k (List.mem_range.2 hk)
  rw [h] at this; cases this
theorem chk_yes {es : List EntB} (h : ∀ i, i < es.length → stepB es i = true) : checkZ es = 0 := by
  unfold checkZ
  rw [if_pos (List.all_eq_true.2 fun i hi => h i (List.mem_range.1 hi))]
theorem BD.drew {B : Nat} {w V : World} (h : Hid (Below B w V)) : Hid (Below B w V.drew) := h.out.drew
theorem cnt_step {H : Type} {D : DataW H} {es : List EntB} {k q : Nat} {nm : ByteArray} (h : CntM D ((es.take k).map fun e => e.2.1.data.toList)) (hD : IsMap D) (hk : k < es.length) (hn : nm = (es.getD k noE).2.1) (hq : q = ((es.take k).map fun e => e.2.1.data.toList).count nm.data.toList) :
    CntM (D.put (.string nm.data.toList) (.lit (.int .i64 ((q : Int) + 1)))) ((es.take (k + 1)).map fun e => e.2.1.data.toList) := fun x => by
  have hs : (es.take (k + 1)).map (fun e => e.2.1.data.toList) = (es.take k).map (fun e => e.2.1.data.toList) ++ [nm.data.toList] := by
    rw [List.take_succ_eq_append_getElem hk, List.map_append, hn, List.getD_eq_getElem?_getD, List.getElem?_eq_getElem hk]
    rfl
  rw [hs, List.count_append]
  by_cases hx : x = nm.data.toList
  · subst hx
    rw [atKey_put_same hD (by simp [WideAt.IsKeyLit]), hq]
    simp
  · rw [atKey_put_other (by intro e; exact hx (by simpa using e)), h x]
    have : List.count x [nm.data.toList] = 0 := by simp [Ne.symm hx]
    rw [this]; rfl
theorem count_next {es : List EntB} {k q : Nat} {nm : ByteArray} (hk : k < es.length) (hn : nm = (es.getD k noE).2.1) (hq : q = ((es.take k).map fun e => e.2.1.data.toList).count nm.data.toList) :
    ((((es.take (k + 1)).map fun e => e.2.1.data.toList).count nm.data.toList : Nat) : Int) = (q : Int) + 1 := by
  have hs : (es.take (k + 1)).map (fun e => e.2.1.data.toList) = (es.take k).map (fun e => e.2.1.data.toList) ++ [nm.data.toList] := by
    rw [List.take_succ_eq_append_getElem hk, List.map_append, hn, List.getD_eq_getElem?_getD, List.getElem?_eq_getElem hk]
    rfl
  rw [hs, List.count_append, ← hq]
  simp
theorem ownsMap_below {H : Type} {P : Program} {k : TypeId} {R : Value → Option (DataW H × List MemPlace)} {b n : Nat} {D : DataW H} {w V : World} (h : w.ownsMap P k R b n D) (hV : Below w.heap.size w V) : V.ownsMap P k R b n D := by
  have hlt := h.lt
  obtain ⟨es, clock, hb, F, hs, hD⟩ := h
  exact ⟨es, clock, (hV.block b hlt).trans hb, F, hs, hD⟩
theorem law9 : Keyed Tryz.prog 9 := string_keyed Tryz.underlying9
theorem zero3 (w : World) : (zeroValue 3).run Tryz.prog w = .ok (.int .i64 0) w := by kernel_rfl
theorem zero29 (w : World) : (zeroValue 47).run Tryz.prog w = .ok (.agg #[.int .i64 0, .string ⟨#[]⟩, .string ⟨#[]⟩]) w := by kernel_rfl
set_option maxHeartbeats 8000000 in
set_option maxRecDepth 100000 in
theorem check_some (b off cap len : Nat) (es : List EntB) (w : World) (hG : GT w) (hl : es.length = len) (h500 : len ≤ 500) (hb : b < w.heap.size) (hE : EntsAt w b off es) (hO : ∀ e ∈ es, OkE e) :
    Calls Tryz.prog 25 #[.slice (some ⟨b, off, none⟩) len cap] w fun e w' => e = .returned (.int .i64 (checkZ es)) ∧ Below w.heap.size w w' := by
  have hmm := @run_makeMap Tryz.prog
  have HG := hidM hG
  have HE := hidM hE
  have HO := hidM hO
  have HL := hidM hl
  clear hG hE hO hl
  have g5 : ¬ (500 : Int) < (len : Int) := by omega
  go_enter Tryz.func25, Tryz.ntmps25
  go_wp2
  go_loopw [4, 5, 12] (fun _ _ i wr => ∃ (k : Nat) (D : DataW Unit), k ≤ len ∧ i = .int .i64 k ∧ wr.ownsMap Tryz.prog 9 (plainElem Tryz.prog 3) w.heap.size k D ∧ CntM D ((es.take k).map fun e => e.2.1.data.toList) ∧ Below w.heap.size w wr ∧ ∀ i, i < k → stepB es i = true) (fun _ _ i _ => len - (intOf i).toNat)
  case atStart => exact ⟨0, .map [], Nat.zero_le _, rfl, World.ownsMap_made _ _ _ _, fun x => rfl, (Below.refl _ _).alloc (Nat.le_refl _) _, fun i hi => by omega⟩
  case round =>
    obtain ⟨k, D, hk, rfl, hown, hcnt, hbel, hst⟩ := hrel
    have HST := hidM hst
    clear hst
    have HOW := hidM hown
    have HCN := hidM hcnt
    have HBL := hidM hbel
    have HGR := hidM (HG.out.below hbel)
    have HER := hidM (HE.out.below hbel hb)
    clear hown hcnt hbel
    by_cases hlt : k < len
    · have gk : (k : Int) < (len : Int) := by omega
      obtain ⟨c0, c1, c2⟩ := HER.out k (by rw [HL.out]; exact hlt)
      obtain ⟨m, hm⟩ : ∃ m, m = (es.getD k noE).1 := ⟨_, rfl⟩
      obtain ⟨nm, hnm⟩ : ∃ nm, nm = (es.getD k noE).2.1 := ⟨_, rfl⟩
      obtain ⟨id, hid⟩ : ∃ id, id = (es.getD k noE).2.2 := ⟨_, rfl⟩
      rw [← hm] at c0
      rw [← hnm] at c1
      rw [← hid] at c2
      have HM := hidM hm
      have HNM := hidM hnm
      have HID := hidM hid
      clear hm hnm hid
      have hz := zero29
      have HE1 : Hid (EBox (wr.alloc (.cells #[.int .i64 m, .string nm, .string id] 47)) wr.heap.size m nm id) := heap_alloc_new wr _
      have HB1 : Hid (Below wr.heap.size wr (wr.alloc (.cells #[.int .i64 m, .string nm, .string id] 47))) := (Below.refl _ wr).alloc (Nat.le_refl _) _
      have hown1 : (wr.alloc (.cells #[.int .i64 m, .string nm, .string id] 47)).ownsMap Tryz.prog 9 (plainElem Tryz.prog 3) w.heap.size k D := HOW.out.alloc _
      have hkey : keyOf Tryz.prog 9 (.string nm) = some (.string nm.data.toList) := keyOf_string_mk Tryz.underlying9 (by have := (HO.out (es.getD k noE) (getD_mem (by rw [HL.out]; exact hlt))).2.2.1; rw [HNM.out]; unfold maxLen; omega)
      obtain ⟨c, hrun, hat, _⟩ := hown1.lookup_int law9 Tryz.underlying128 Tryz.underlying3 (zero3 _) hkey
      have hc : c = ((((es.take k).map fun e => e.2.1.data.toList).count nm.data.toList : Nat) : Int) := by
        have h1 := HCN.out nm.data.toList
        rw [h1] at hat
        simp only [DataW.lit.injEq, Lit.int.injEq, true_and] at hat
        exact hat.symm
      obtain ⟨q, hq⟩ : ∃ q, q = ((es.take k).map fun e => e.2.1.data.toList).count nm.data.toList := ⟨_, rfl⟩
      rw [← hq] at hc
      subst hc
      have HQ := hidM hq
      have q5 : q ≤ 500 := by
        rw [hq]
        refine Nat.le_trans List.count_le_length ?_
        rw [List.length_map, List.length_take]; omega
      have HOW1 := hidM hown1
      have HAT := hidM hat
      clear hown1 hat hq
      go_wp2_with (first
        | (at_mapUpdate; refine wpList_mapUpdate_own _ rfl _ _ _ 128 rfl 9 3 law9 Tryz.underlying128 _ w.heap.size k _ rfl HOW1.out (by unfold maxLen; omega) _ _ _ rfl rfl hkey _ [] (plainElem_int Tryz.underlying3 (show (Lit.int .i64 ((q : Int) + 1)).wf = true from WalkArith.wf_i64 ⟨by omega, by omega⟩)) ?_)
        | go_in)
      intro w2 hown2 hgrow2
      have hMlt : w.heap.size < wr.heap.size := HOW.out.lt
      have HX2 : Hid (EBox w2 wr.heap.size m nm id) := (hgrow2.block _ (by simp) (by intro e; simp only [Option.some.injEq] at e; omega)).trans HE1.out
      have HB2 : Hid (Below w.heap.size w w2) := (HBL.out.trans (HB1.out.mono HBL.out.size)).grown hgrow2 (by simp; omega) (fun j hj => by cases hj; exact Nat.le_refl _)
      have HG2 := hidM (HG.out.below HB2.out)
      have HE2 := hidM (HE.out.below HB2.out hb)
      have HC2 : Hid (CntM (D.put (.string nm.data.toList) (.lit (.int .i64 ((q : Int) + 1)))) ((es.take (k + 1)).map fun e => e.2.1.data.toList)) := cnt_step HCN.out HOW1.out.isMap (by rw [HL.out]; exact hlt) HNM.out HQ.out
      generalize D.put (.string nm.data.toList) (.lit (.int .i64 ((q : Int) + 1))) = D2 at *
      have HO2 := hidM hown2
      have hXne : wr.heap.size < w2.heap.size := HX2.out.lt
      have okk := HO.out (es.getD k noE) (getD_mem (by rw [HL.out]; exact hlt))
      have HLK : Hid (∀ V, Below w2.heap.size w2 V → (Instr.lookup 128 (.map (some w.heap.size)) (.string nm) false).run Tryz.prog V = .ok (.int .i64 ((q : Int) + 1)) V) := fun V hV => by
        obtain ⟨c, h1, h2, _⟩ := (ownsMap_below HO2.out hV).lookup_int law9 Tryz.underlying128 Tryz.underlying3 (zero3 _) hkey
        rw [HC2.out nm.data.toList] at h2
        simp only [DataW.lit.injEq, Lit.int.injEq, true_and] at h2
        rw [h1, ← h2, count_next (by rw [HL.out]; exact hlt) HNM.out HQ.out]
      obtain ⟨X, hX⟩ : ∃ X, X = wr.heap.size := ⟨_, rfl⟩
      rw [← hX] at HX2 hXne ⊢
      have HSF : Hid (∀ V, Below w2.heap.size w2 V → V.cell? ⟨X, 0, none⟩ = some (.int .i64 m) ∧ V.cell? ⟨X, 1, none⟩ = some (.string nm) ∧ V.cell? ⟨X, 2, none⟩ = some (.string id)) := fun V hV => ⟨(HX2.out.below hV).c0, (HX2.out.below hV).c1, (HX2.out.below hV).c2⟩
      have okm : -9223372036854775808 ≤ m ∧ m ≤ 9223372036854775807 := by rw [HM.out]; exact ⟨okk.1, okk.2.1⟩
      have okn : nm.size ≤ 140737488355328 := by rw [HNM.out]; exact okk.2.2.1
      have oki : id.size ≤ 140737488355328 := by rw [HID.out]; exact okk.2.2.2
      clear okk
      clear hX hgrow2 hown2 hrun HOW1 HAT HOW HE1 HB1 HGR HER HX2 c0 c1 c2 hkey
      have HFU : Hid (∀ V, Hid (Below w2.heap.size w2 V) → (V.cell? ⟨X, 0, none⟩ = some (.int .i64 m) ∧ V.cell? ⟨X, 1, none⟩ = some (.string nm) ∧ V.cell? ⟨X, 2, none⟩ = some (.string id) ∧ (Instr.lookup 128 (.map (some w.heap.size)) (.string nm) false).run Tryz.prog V = .ok (.int .i64 ((q : Int) + 1)) V ∧ Hid (Below w2.heap.size w2 V))) := fun V hV => ⟨(HSF.out V hV.out).1, (HSF.out V hV.out).2.1, (HSF.out V hV.out).2.2, HLK.out V hV.out, hV⟩
      obtain ⟨R, hR⟩ : ∃ R, R = rightB m nm.data.toList id.data.toList := ⟨_, rfl⟩
      have HRR := hidM hR
      have H29 : Hid (∀ V, Hid (Below w2.heap.size w2 V) → Calls Tryz.prog 71 #[.agg #[.int .i64 m, .string nm, .string id]] V fun e w' => e = .returned (.bool R) ∧ (w'.cell? ⟨X, 0, none⟩ = some (.int .i64 m) ∧ w'.cell? ⟨X, 1, none⟩ = some (.string nm) ∧ w'.cell? ⟨X, 2, none⟩ = some (.string id) ∧ (Instr.lookup 128 (.map (some w.heap.size)) (.string nm) false).run Tryz.prog w' = .ok (.int .i64 ((q : Int) + 1)) w' ∧ Hid (Below w2.heap.size w2 w'))) := fun V hV => by
        rw [hR]
        refine (right_any m nm id V (HG2.out.below hV.out) okm.1 okm.2 (by unfold maxLen; omega)).mono ?_
        rintro e w' ⟨h1, h2⟩
        exact ⟨h1, HFU.out w' (hV.out.trans (h2.mono hV.out.size))⟩
      have HD : Hid (Below w2.heap.size w2 w2) := Below.refl _ _
      clear hR
      have d0 := (HFU.out _ (BD.drew HD)).1
      have d1 := (HFU.out _ (BD.drew HD)).2.1
      have d2 := (HFU.out _ (BD.drew HD)).2.2.1
      cases R with
      | false =>
        as_aux_lemma =>
          have H4 : Hid (checkZ es = 4) := chk_no (by rw [HL.out]; exact hlt) (by unfold stepB; rw [← HM.out, ← HNM.out, ← HID.out, ← HRR.out]; rfl)
          go_wp2_with fail
          refine wp_region_noPanic ?_
          refine wp_region_any (by kernel_rfl) ?_
          change wpAny _ _ _ _ _ _ _ (World.drew _)
          refine wpAny_ready (rs := [0]) (by kernel_rfl) (by simp) (AllReady.cons rfl (fun K hK => ?_) AllReady.nil)
          go_simp
          refine hK _ _ ?_
          clear hK K
          refine wpAny_ready (rs := [1]) (by kernel_rfl) (by simp) (AllReady.cons rfl (fun K hK => ?_) AllReady.nil)
          go_simp
          with_reducible refine (H29.out _ (BD.drew HD)).mono ?_
          rintro _ w5 ⟨rfl, hS5⟩
          refine hK _ _ ?_
          clear hK K
          obtain ⟨x0, x1, x2, xl, HB5⟩ := hS5
          refine wpAny_take (i := 2) (v := ?_) rfl (by kernel_rfl) (by kernel_rfl) (by kernel_rfl) (fun _ _ _ h => h) (Or.inl ⟨by kernel_rfl, ?_⟩) ?_
          rotate_left
          · intro w
            go_simp
            try with_reducible rfl
          change wpAny _ _ _ _ _ _ (⟨#[_,_,_,_,_,_,_,_,_,_,_,_,_,_,_,_,_,_,_,_,_,_,_,_,_,_,_,_,_,_,_,_,_,_,_,_,_,_,_,_,_,_,_,_,_,_,_,_], _⟩ : Act) _
          refine wpAny_take (i := 3) (v := ?_) rfl (by kernel_rfl) (by kernel_rfl) (by kernel_rfl) (fun _ _ _ h => h) (Or.inl ⟨by kernel_rfl, ?_⟩) ?_
          rotate_left
          · intro w
            go_simp
            try with_reducible rfl
          change wpAny _ _ _ _ _ _ (⟨#[_,_,_,_,_,_,_,_,_,_,_,_,_,_,_,_,_,_,_,_,_,_,_,_,_,_,_,_,_,_,_,_,_,_,_,_,_,_,_,_,_,_,_,_,_,_,_,_], _⟩ : Act) _
          refine wpAny_take (i := 4) (v := undef) rfl (by kernel_rfl) (by kernel_rfl) (by kernel_rfl) (fun _ _ _ h => h) (Or.inr ⟨by kernel_rfl, rfl⟩) ?_
          change wpAny _ _ _ _ _ _ (⟨#[_,_,_,_,_,_,_,_,_,_,_,_,_,_,_,_,_,_,_,_,_,_,_,_,_,_,_,_,_,_,_,_,_,_,_,_,_,_,_,_,_,_,_,_,_,_,_,_], _⟩ : Act) _
          refine wpAny_take (i := 5) (v := undef) rfl (by kernel_rfl) (by kernel_rfl) (by kernel_rfl) (fun _ _ _ h => h) (Or.inr ⟨by kernel_rfl, rfl⟩) ?_
          change wpAny _ _ _ _ _ _ (⟨#[_,_,_,_,_,_,_,_,_,_,_,_,_,_,_,_,_,_,_,_,_,_,_,_,_,_,_,_,_,_,_,_,_,_,_,_,_,_,_,_,_,_,_,_,_,_,_,_], _⟩ : Act) _
          refine wpAny_ready (rs := [6]) (by kernel_rfl) (by simp) (AllReady.cons rfl (fun K hK => ?_) AllReady.nil)
          go_simp
          refine hK _ _ ?_
          clear hK K
          refine wpAny_ready (rs := [7]) (by kernel_rfl) (by simp) (AllReady.cons rfl (fun K hK => ?_) AllReady.nil)
          go_simp
          refine hK _ _ ?_
          clear hK K
          refine wpAny_ready (rs := [8]) (by kernel_rfl) (by simp) (AllReady.cons rfl (fun K hK => ?_) AllReady.nil)
          go_simp
          refine hK _ _ ?_
          clear hK K
          refine wpAny_take (i := 9) (v := ?_) rfl (by kernel_rfl) (by kernel_rfl) (by kernel_rfl) (fun _ _ _ h => h) (Or.inl ⟨by kernel_rfl, ?_⟩) ?_
          rotate_left
          · intro w
            go_simp
            try with_reducible rfl
          change wpAny _ _ _ _ _ _ (⟨#[_,_,_,_,_,_,_,_,_,_,_,_,_,_,_,_,_,_,_,_,_,_,_,_,_,_,_,_,_,_,_,_,_,_,_,_,_,_,_,_,_,_,_,_,_,_,_,_], _⟩ : Act) _
          refine wpAny_take (i := 10) (v := ?_) rfl (by kernel_rfl) (by kernel_rfl) (by kernel_rfl) (fun _ _ _ h => h) (Or.inl ⟨by kernel_rfl, ?_⟩) ?_
          rotate_left
          · intro w
            go_simp
            try with_reducible rfl
          change wpAny _ _ _ _ _ _ (⟨#[_,_,_,_,_,_,_,_,_,_,_,_,_,_,_,_,_,_,_,_,_,_,_,_,_,_,_,_,_,_,_,_,_,_,_,_,_,_,_,_,_,_,_,_,_,_,_,_], _⟩ : Act) _
          refine wpAny_take (i := 11) (v := undef) rfl (by kernel_rfl) (by kernel_rfl) (by kernel_rfl) (fun _ _ _ h => h) (Or.inr ⟨by kernel_rfl, rfl⟩) ?_
          change wpAny _ _ _ _ _ _ (⟨#[_,_,_,_,_,_,_,_,_,_,_,_,_,_,_,_,_,_,_,_,_,_,_,_,_,_,_,_,_,_,_,_,_,_,_,_,_,_,_,_,_,_,_,_,_,_,_,_], _⟩ : Act) _
          refine wpAny_take (i := 12) (v := undef) rfl (by kernel_rfl) (by kernel_rfl) (by kernel_rfl) (fun _ _ _ h => h) (Or.inr ⟨by kernel_rfl, rfl⟩) ?_
          change wpAny _ _ _ _ _ _ (⟨#[_,_,_,_,_,_,_,_,_,_,_,_,_,_,_,_,_,_,_,_,_,_,_,_,_,_,_,_,_,_,_,_,_,_,_,_,_,_,_,_,_,_,_,_,_,_,_,_], _⟩ : Act) _
          refine wpAny_take (i := 13) (v := undef) rfl (by kernel_rfl) (by kernel_rfl) (by kernel_rfl) (fun _ _ _ h => h) (Or.inr ⟨by kernel_rfl, rfl⟩) ?_
          change wpAny _ _ _ _ _ _ (⟨#[_,_,_,_,_,_,_,_,_,_,_,_,_,_,_,_,_,_,_,_,_,_,_,_,_,_,_,_,_,_,_,_,_,_,_,_,_,_,_,_,_,_,_,_,_,_,_,_], _⟩ : Act) _
          refine wpAny_take (i := 14) (v := undef) rfl (by kernel_rfl) (by kernel_rfl) (by kernel_rfl) (fun _ _ _ h => h) (Or.inr ⟨by kernel_rfl, rfl⟩) ?_
          change wpAny _ _ _ _ _ _ (⟨#[_,_,_,_,_,_,_,_,_,_,_,_,_,_,_,_,_,_,_,_,_,_,_,_,_,_,_,_,_,_,_,_,_,_,_,_,_,_,_,_,_,_,_,_,_,_,_,_], _⟩ : Act) _
          refine wpAny_take (i := 15) (v := undef) rfl (by kernel_rfl) (by kernel_rfl) (by kernel_rfl) (fun _ _ _ h => h) (Or.inr ⟨by kernel_rfl, rfl⟩) ?_
          change wpAny _ _ _ _ _ _ (⟨#[_,_,_,_,_,_,_,_,_,_,_,_,_,_,_,_,_,_,_,_,_,_,_,_,_,_,_,_,_,_,_,_,_,_,_,_,_,_,_,_,_,_,_,_,_,_,_,_], _⟩ : Act) _
          refine wpAny_take (i := 16) (v := undef) rfl (by kernel_rfl) (by kernel_rfl) (by kernel_rfl) (fun _ _ _ h => h) (Or.inr ⟨by kernel_rfl, rfl⟩) ?_
          change wpAny _ _ _ _ _ _ (⟨#[_,_,_,_,_,_,_,_,_,_,_,_,_,_,_,_,_,_,_,_,_,_,_,_,_,_,_,_,_,_,_,_,_,_,_,_,_,_,_,_,_,_,_,_,_,_,_,_], _⟩ : Act) _
          refine wpAny_take (i := 17) (v := undef) rfl (by kernel_rfl) (by kernel_rfl) (by kernel_rfl) (fun _ _ _ h => h) (Or.inr ⟨by kernel_rfl, rfl⟩) ?_
          change wpAny _ _ _ _ _ _ (⟨#[_,_,_,_,_,_,_,_,_,_,_,_,_,_,_,_,_,_,_,_,_,_,_,_,_,_,_,_,_,_,_,_,_,_,_,_,_,_,_,_,_,_,_,_,_,_,_,_], _⟩ : Act) _
          refine wpAny_take (i := 20) (v := undef) rfl (by kernel_rfl) (by kernel_rfl) (by kernel_rfl) (fun _ _ _ h => h) (Or.inr ⟨by kernel_rfl, rfl⟩) ?_
          change wpAny _ _ _ _ _ _ (⟨#[_,_,_,_,_,_,_,_,_,_,_,_,_,_,_,_,_,_,_,_,_,_,_,_,_,_,_,_,_,_,_,_,_,_,_,_,_,_,_,_,_,_,_,_,_,_,_,_], _⟩ : Act) _
          refine wpAny_ready (rs := [18]) (by kernel_rfl) (by simp) (AllReady.cons rfl (fun K hK => ?_) AllReady.nil)
          go_simp
          refine hK _ _ ?_
          clear hK K
          refine wpAny_ready (rs := [19]) (by kernel_rfl) (by simp) (AllReady.cons rfl (fun K hK => ?_) AllReady.nil)
          go_simp
          refine hK _ _ ?_
          clear hK K
          refine wpAny_ready (rs := [21]) (by kernel_rfl) (by simp) (AllReady.cons rfl (fun K hK => ?_) AllReady.nil)
          go_simp
          refine hK _ _ ?_
          clear hK K
          refine wpAny_ready (rs := [22]) (by kernel_rfl) (by simp) (AllReady.cons rfl (fun K hK => ?_) AllReady.nil)
          go_simp
          refine hK _ _ ?_
          clear hK K
          refine wpAny_ready (rs := [23]) (by kernel_rfl) (by simp) (AllReady.cons rfl (fun K hK => ?_) AllReady.nil)
          go_simp
          refine hK _ _ ?_
          clear hK K
          refine wpAny_take (i := 24) (v := ?_) rfl (by kernel_rfl) (by kernel_rfl) (by kernel_rfl) (fun _ _ _ h => h) (Or.inl ⟨by kernel_rfl, ?_⟩) ?_
          rotate_left
          · intro w
            go_simp
            try with_reducible rfl
          change wpAny _ _ _ _ _ _ (⟨#[_,_,_,_,_,_,_,_,_,_,_,_,_,_,_,_,_,_,_,_,_,_,_,_,_,_,_,_,_,_,_,_,_,_,_,_,_,_,_,_,_,_,_,_,_,_,_,_], _⟩ : Act) _
          refine wpAny_done (by kernel_rfl) ?_ _
          refine NoPanic.normal ?_
          have HBZ : Hid (Below w.heap.size w w5) := HB2.out.trans (HB5.out.mono HB2.out.size)
          go_wp2
          go_ret
          exact ⟨by rw [H4.out]; rfl, HBZ.out⟩
      | true =>
        by_cases hq0 : q = 0
        · subst hq0
          by_cases hk0 : k = 0
          · as_aux_lemma =>
              have HNX : Hid (∀ i, i < k + 1 → stepB es i = true) := fun i hi => by
                rcases Nat.lt_or_ge i k with h | h
                · exact HST.out i h
                · obtain rfl : i = k := by omega
                  unfold stepB
                  rw [← HM.out, ← HNM.out, ← HID.out, ← HRR.out, ← HQ.out, hk0]
                  rfl
              subst hk0
              go_wp2_with fail
              refine wp_region_noPanic ?_
              refine wp_region_any (by kernel_rfl) ?_
              change wpAny _ _ _ _ _ _ _ (World.drew _)
              refine wpAny_ready (rs := [0]) (by kernel_rfl) (by simp) (AllReady.cons rfl (fun K hK => ?_) AllReady.nil)
              go_simp
              refine hK _ _ ?_
              clear hK K
              refine wpAny_ready (rs := [1]) (by kernel_rfl) (by simp) (AllReady.cons rfl (fun K hK => ?_) AllReady.nil)
              go_simp
              with_reducible refine (H29.out _ (BD.drew HD)).mono ?_
              rintro _ w5 ⟨rfl, hS5⟩
              refine hK _ _ ?_
              clear hK K
              obtain ⟨x0, x1, x2, xl, HB5⟩ := hS5
              refine wpAny_take (i := 2) (v := ?_) rfl (by kernel_rfl) (by kernel_rfl) (by kernel_rfl) (fun _ _ _ h => h) (Or.inl ⟨by kernel_rfl, ?_⟩) ?_
              rotate_left
              · intro w
                go_simp
                try with_reducible rfl
              change wpAny _ _ _ _ _ _ (⟨#[_,_,_,_,_,_,_,_,_,_,_,_,_,_,_,_,_,_,_,_,_,_,_,_,_,_,_,_,_,_,_,_,_,_,_,_,_,_,_,_,_,_,_,_,_,_,_,_], _⟩ : Act) _
              refine wpAny_take (i := 3) (v := ?_) rfl (by kernel_rfl) (by kernel_rfl) (by kernel_rfl) (fun _ _ _ h => h) (Or.inl ⟨by kernel_rfl, ?_⟩) ?_
              rotate_left
              · intro w
                go_simp
                try with_reducible rfl
              change wpAny _ _ _ _ _ _ (⟨#[_,_,_,_,_,_,_,_,_,_,_,_,_,_,_,_,_,_,_,_,_,_,_,_,_,_,_,_,_,_,_,_,_,_,_,_,_,_,_,_,_,_,_,_,_,_,_,_], _⟩ : Act) _
              refine wpAny_take (i := 4) (v := ?_) rfl (by kernel_rfl) (by kernel_rfl) (by kernel_rfl) (fun _ _ _ h => h) (Or.inl ⟨by kernel_rfl, ?_⟩) ?_
              rotate_left
              · intro w
                go_simp
                try with_reducible rfl
              change wpAny _ _ _ _ _ _ (⟨#[_,_,_,_,_,_,_,_,_,_,_,_,_,_,_,_,_,_,_,_,_,_,_,_,_,_,_,_,_,_,_,_,_,_,_,_,_,_,_,_,_,_,_,_,_,_,_,_], _⟩ : Act) _
              refine wpAny_take (i := 5) (v := ?_) rfl (by kernel_rfl) (by kernel_rfl) (by kernel_rfl) (fun _ _ _ h => h) (Or.inl ⟨by kernel_rfl, ?_⟩) ?_
              rotate_left
              · intro w
                go_simp
                try with_reducible rfl
              change wpAny _ _ _ _ _ _ (⟨#[_,_,_,_,_,_,_,_,_,_,_,_,_,_,_,_,_,_,_,_,_,_,_,_,_,_,_,_,_,_,_,_,_,_,_,_,_,_,_,_,_,_,_,_,_,_,_,_], _⟩ : Act) _
              refine wpAny_ready (rs := [6]) (by kernel_rfl) (by simp) (AllReady.cons rfl (fun K hK => ?_) AllReady.nil)
              go_simp
              refine hK _ _ ?_
              clear hK K
              refine wpAny_ready (rs := [7]) (by kernel_rfl) (by simp) (AllReady.cons rfl (fun K hK => ?_) AllReady.nil)
              go_simp
              refine hK _ _ ?_
              clear hK K
              refine wpAny_take (i := 8) (v := ?_) rfl (by kernel_rfl) (by kernel_rfl) (by kernel_rfl) (fun _ _ _ h => h) (Or.inl ⟨by kernel_rfl, ?_⟩) ?_
              rotate_left
              · intro w
                go_simp
                try with_reducible rfl
              change wpAny _ _ _ _ _ _ (⟨#[_,_,_,_,_,_,_,_,_,_,_,_,_,_,_,_,_,_,_,_,_,_,_,_,_,_,_,_,_,_,_,_,_,_,_,_,_,_,_,_,_,_,_,_,_,_,_,_], _⟩ : Act) _
              refine wpAny_take (i := 9) (v := ?_) rfl (by kernel_rfl) (by kernel_rfl) (by kernel_rfl) (fun _ _ _ h => h) (Or.inl ⟨by kernel_rfl, ?_⟩) ?_
              rotate_left
              · intro w
                go_simp
                try with_reducible rfl
              change wpAny _ _ _ _ _ _ (⟨#[_,_,_,_,_,_,_,_,_,_,_,_,_,_,_,_,_,_,_,_,_,_,_,_,_,_,_,_,_,_,_,_,_,_,_,_,_,_,_,_,_,_,_,_,_,_,_,_], _⟩ : Act) _
              refine wpAny_take (i := 10) (v := ?_) rfl (by kernel_rfl) (by kernel_rfl) (by kernel_rfl) (fun _ _ _ h => h) (Or.inl ⟨by kernel_rfl, ?_⟩) ?_
              rotate_left
              · intro w
                go_simp
                try with_reducible rfl
              change wpAny _ _ _ _ _ _ (⟨#[_,_,_,_,_,_,_,_,_,_,_,_,_,_,_,_,_,_,_,_,_,_,_,_,_,_,_,_,_,_,_,_,_,_,_,_,_,_,_,_,_,_,_,_,_,_,_,_], _⟩ : Act) _
              refine wpAny_take (i := 11) (v := ?_) rfl (by kernel_rfl) (by kernel_rfl) (by kernel_rfl) (fun _ _ _ h => h) (Or.inl ⟨by kernel_rfl, ?_⟩) ?_
              rotate_left
              · intro w
                go_simp
                try with_reducible rfl
              change wpAny _ _ _ _ _ _ (⟨#[_,_,_,_,_,_,_,_,_,_,_,_,_,_,_,_,_,_,_,_,_,_,_,_,_,_,_,_,_,_,_,_,_,_,_,_,_,_,_,_,_,_,_,_,_,_,_,_], _⟩ : Act) _
              refine wpAny_take (i := 12) (v := ?_) rfl (by kernel_rfl) (by kernel_rfl) (by kernel_rfl) (fun _ _ _ h => h) (Or.inl ⟨by kernel_rfl, ?_⟩) ?_
              rotate_left
              · intro w
                go_simp
                try with_reducible rfl
              change wpAny _ _ _ _ _ _ (⟨#[_,_,_,_,_,_,_,_,_,_,_,_,_,_,_,_,_,_,_,_,_,_,_,_,_,_,_,_,_,_,_,_,_,_,_,_,_,_,_,_,_,_,_,_,_,_,_,_], _⟩ : Act) _
              refine wpAny_take (i := 13) (v := ?_) rfl (by kernel_rfl) (by kernel_rfl) (by kernel_rfl) (fun _ _ _ h => h) (Or.inl ⟨by kernel_rfl, ?_⟩) ?_
              rotate_left
              · intro w
                go_simp
                try with_reducible rfl
              change wpAny _ _ _ _ _ _ (⟨#[_,_,_,_,_,_,_,_,_,_,_,_,_,_,_,_,_,_,_,_,_,_,_,_,_,_,_,_,_,_,_,_,_,_,_,_,_,_,_,_,_,_,_,_,_,_,_,_], _⟩ : Act) _
              refine wpAny_take (i := 14) (v := undef) rfl (by kernel_rfl) (by kernel_rfl) (by kernel_rfl) (fun _ _ _ h => h) (Or.inr ⟨by kernel_rfl, rfl⟩) ?_
              change wpAny _ _ _ _ _ _ (⟨#[_,_,_,_,_,_,_,_,_,_,_,_,_,_,_,_,_,_,_,_,_,_,_,_,_,_,_,_,_,_,_,_,_,_,_,_,_,_,_,_,_,_,_,_,_,_,_,_], _⟩ : Act) _
              refine wpAny_take (i := 15) (v := undef) rfl (by kernel_rfl) (by kernel_rfl) (by kernel_rfl) (fun _ _ _ h => h) (Or.inr ⟨by kernel_rfl, rfl⟩) ?_
              change wpAny _ _ _ _ _ _ (⟨#[_,_,_,_,_,_,_,_,_,_,_,_,_,_,_,_,_,_,_,_,_,_,_,_,_,_,_,_,_,_,_,_,_,_,_,_,_,_,_,_,_,_,_,_,_,_,_,_], _⟩ : Act) _
              refine wpAny_take (i := 16) (v := undef) rfl (by kernel_rfl) (by kernel_rfl) (by kernel_rfl) (fun _ _ _ h => h) (Or.inr ⟨by kernel_rfl, rfl⟩) ?_
              change wpAny _ _ _ _ _ _ (⟨#[_,_,_,_,_,_,_,_,_,_,_,_,_,_,_,_,_,_,_,_,_,_,_,_,_,_,_,_,_,_,_,_,_,_,_,_,_,_,_,_,_,_,_,_,_,_,_,_], _⟩ : Act) _
              refine wpAny_take (i := 17) (v := undef) rfl (by kernel_rfl) (by kernel_rfl) (by kernel_rfl) (fun _ _ _ h => h) (Or.inr ⟨by kernel_rfl, rfl⟩) ?_
              change wpAny _ _ _ _ _ _ (⟨#[_,_,_,_,_,_,_,_,_,_,_,_,_,_,_,_,_,_,_,_,_,_,_,_,_,_,_,_,_,_,_,_,_,_,_,_,_,_,_,_,_,_,_,_,_,_,_,_], _⟩ : Act) _
              refine wpAny_take (i := 20) (v := undef) rfl (by kernel_rfl) (by kernel_rfl) (by kernel_rfl) (fun _ _ _ h => h) (Or.inr ⟨by kernel_rfl, rfl⟩) ?_
              change wpAny _ _ _ _ _ _ (⟨#[_,_,_,_,_,_,_,_,_,_,_,_,_,_,_,_,_,_,_,_,_,_,_,_,_,_,_,_,_,_,_,_,_,_,_,_,_,_,_,_,_,_,_,_,_,_,_,_], _⟩ : Act) _
              refine wpAny_ready (rs := [18]) (by kernel_rfl) (by simp) (AllReady.cons rfl (fun K hK => ?_) AllReady.nil)
              go_simp
              refine hK _ _ ?_
              clear hK K
              refine wpAny_ready (rs := [19]) (by kernel_rfl) (by simp) (AllReady.cons rfl (fun K hK => ?_) AllReady.nil)
              go_simp
              refine hK _ _ ?_
              clear hK K
              refine wpAny_ready (rs := [21]) (by kernel_rfl) (by simp) (AllReady.cons rfl (fun K hK => ?_) AllReady.nil)
              go_simp
              refine hK _ _ ?_
              clear hK K
              refine wpAny_ready (rs := [22]) (by kernel_rfl) (by simp) (AllReady.cons rfl (fun K hK => ?_) AllReady.nil)
              go_simp
              refine hK _ _ ?_
              clear hK K
              refine wpAny_take (i := 23) (v := ?_) rfl (by kernel_rfl) (by kernel_rfl) (by kernel_rfl) (fun _ _ _ h => h) (Or.inl ⟨by kernel_rfl, ?_⟩) ?_
              rotate_left
              · intro w
                go_simp
                try with_reducible rfl
              change wpAny _ _ _ _ _ _ (⟨#[_,_,_,_,_,_,_,_,_,_,_,_,_,_,_,_,_,_,_,_,_,_,_,_,_,_,_,_,_,_,_,_,_,_,_,_,_,_,_,_,_,_,_,_,_,_,_,_], _⟩ : Act) _
              refine wpAny_take (i := 24) (v := ?_) rfl (by kernel_rfl) (by kernel_rfl) (by kernel_rfl) (fun _ _ _ h => h) (Or.inl ⟨by kernel_rfl, ?_⟩) ?_
              rotate_left
              · intro w
                go_simp
                try with_reducible rfl
              change wpAny _ _ _ _ _ _ (⟨#[_,_,_,_,_,_,_,_,_,_,_,_,_,_,_,_,_,_,_,_,_,_,_,_,_,_,_,_,_,_,_,_,_,_,_,_,_,_,_,_,_,_,_,_,_,_,_,_], _⟩ : Act) _
              refine wpAny_done (by kernel_rfl) ?_ _
              refine NoPanic.normal ?_
              have HBZ : Hid (Below w.heap.size w w5) := HB2.out.trans (HB5.out.mono HB2.out.size)
              have HOZ : Hid (w5.ownsMap Tryz.prog 9 (plainElem Tryz.prog 3) w.heap.size (0 + 1) D2) := ownsMap_below HO2.out HB5.out
              go_wp2
              go_roundw
              case rel => exact ⟨0 + 1, D2, hlt, by go_num, HOZ.out, HC2.out, HBZ.out, HNX.out⟩
              case measure => simp [intOf]; omega
          · as_aux_lemma =>
              obtain ⟨j, hj⟩ : ∃ j, k = j + 1 := ⟨k - 1, by omega⟩
              obtain ⟨pm, hpm⟩ : ∃ pm, pm = (es.getD j noE).1 := ⟨_, rfl⟩
              obtain ⟨pn, hpn⟩ : ∃ pn, pn = (es.getD j noE).2.1 := ⟨_, rfl⟩
              obtain ⟨pi, hpi⟩ : ∃ pi, pi = (es.getD j noE).2.2 := ⟨_, rfl⟩
              have hj9 : j < es.length := by have := HL.out; omega
              have okp := HO.out (es.getD j noE) (getD_mem hj9)
              have HPE : Hid (∀ V, Below w2.heap.size w2 V → V.cell? ⟨b, off + j * 3, none⟩ = some (.int .i64 pm) ∧ V.cell? ⟨b, off + j * 3 + 1, none⟩ = some (.string pn) ∧ V.cell? ⟨b, off + j * 3 + 2, none⟩ = some (.string pi)) := fun V hV => by
                have h1 := HE2.out.below hV (Nat.lt_of_lt_of_le hb HB2.out.size) j hj9
                rw [← hpm, ← hpn, ← hpi] at h1
                exact h1
              obtain ⟨K1, hK1⟩ : ∃ K1 : ByteArray, K1 = ⟨(keyL pm pn.data.toList).toArray⟩ := ⟨_, rfl⟩
              obtain ⟨K2, hK2⟩ : ∃ K2 : ByteArray, K2 = ⟨(keyL m nm.data.toList).toArray⟩ := ⟨_, rfl⟩
              have H30A : Hid (∀ V, Hid (Below w2.heap.size w2 V) → Calls Tryz.prog 72 #[.agg #[.int .i64 pm, .string pn, .string pi]] V fun e w' => e = .returned (.string K1) ∧ (w'.cell? ⟨X, 0, none⟩ = some (.int .i64 m) ∧ w'.cell? ⟨X, 1, none⟩ = some (.string nm) ∧ w'.cell? ⟨X, 2, none⟩ = some (.string id) ∧ Hid (Below w2.heap.size w2 w'))) := fun V hV => by
                rw [hK1]
                refine (key_any pm pn pi V (by rw [hpn]; have := okp.2.2.1; omega)).mono ?_
                rintro e w' ⟨h1, h2⟩
                have h3 := HFU.out w' (hV.out.trans (h2.mono hV.out.size))
                exact ⟨h1, h3.1, h3.2.1, h3.2.2.1, h3.2.2.2.2⟩
              have H30B : Hid (∀ V, Hid (Below w2.heap.size w2 V) → Calls Tryz.prog 72 #[.agg #[.int .i64 m, .string nm, .string id]] V fun e w' => e = .returned (.string K2) ∧ Hid (Below w2.heap.size w2 w')) := fun V hV => by
                rw [hK2]
                refine (key_any m nm id V (by omega)).mono ?_
                rintro e w' ⟨h1, h2⟩
                exact ⟨h1, hV.out.trans (h2.mono hV.out.size)⟩
              have HK1 := hidM hK1
              have HK2 := hidM hK2
              have HPM := hidM hpm
              have HPN := hidM hpn
              have ek : (k : Int) - 1 = (j : Int) := by omega
              have kp : (0 : Int) < (k : Int) := by omega
              have jl : (j : Int) < (len : Int) := by omega
              have kn : 0 < k := by omega
              have wj : IntKind.i64.wrap (j : Int) = (j : Int) := by rw [IntKind.wrap_i64]; omega
              have wk : IntKind.i64.wrap ((k : Int) - 1) = (j : Int) := by rw [ek]; exact wj
              have HKJ := hidM hj
              clear hj hpm hpn hpi okp hK1 hK2 hk0
              go_wp2_with fail
              refine wp_region_noPanic ?_
              refine wp_region_any (by kernel_rfl) ?_
              change wpAny _ _ _ _ _ _ _ (World.drew _)
              refine wpAny_ready (rs := [0]) (by kernel_rfl) (by simp) (AllReady.cons rfl (fun K hK => ?_) AllReady.nil)
              go_simp
              refine hK _ _ ?_
              clear hK K
              refine wpAny_ready (rs := [1]) (by kernel_rfl) (by simp) (AllReady.cons rfl (fun K hK => ?_) AllReady.nil)
              go_simp
              with_reducible refine (H29.out _ (BD.drew HD)).mono ?_
              rintro _ w5 ⟨rfl, hS5⟩
              refine hK _ _ ?_
              clear hK K
              obtain ⟨x0, x1, x2, xl, HB5⟩ := hS5
              obtain ⟨p0, p1, p2⟩ := HPE.out w5 HB5.out
              refine wpAny_take (i := 2) (v := ?_) rfl (by kernel_rfl) (by kernel_rfl) (by kernel_rfl) (fun _ _ _ h => h) (Or.inl ⟨by kernel_rfl, ?_⟩) ?_
              rotate_left
              · intro w
                go_simp
                try with_reducible rfl
              change wpAny _ _ _ _ _ _ (⟨#[_,_,_,_,_,_,_,_,_,_,_,_,_,_,_,_,_,_,_,_,_,_,_,_,_,_,_,_,_,_,_,_,_,_,_,_,_,_,_,_,_,_,_,_,_,_,_,_], _⟩ : Act) _
              refine wpAny_take (i := 3) (v := ?_) rfl (by kernel_rfl) (by kernel_rfl) (by kernel_rfl) (fun _ _ _ h => h) (Or.inl ⟨by kernel_rfl, ?_⟩) ?_
              rotate_left
              · intro w
                go_simp
                try with_reducible rfl
              change wpAny _ _ _ _ _ _ (⟨#[_,_,_,_,_,_,_,_,_,_,_,_,_,_,_,_,_,_,_,_,_,_,_,_,_,_,_,_,_,_,_,_,_,_,_,_,_,_,_,_,_,_,_,_,_,_,_,_], _⟩ : Act) _
              refine wpAny_take (i := 4) (v := ?_) rfl (by kernel_rfl) (by kernel_rfl) (by kernel_rfl) (fun _ _ _ h => h) (Or.inl ⟨by kernel_rfl, ?_⟩) ?_
              rotate_left
              · intro w
                go_simp
                try with_reducible rfl
              change wpAny _ _ _ _ _ _ (⟨#[_,_,_,_,_,_,_,_,_,_,_,_,_,_,_,_,_,_,_,_,_,_,_,_,_,_,_,_,_,_,_,_,_,_,_,_,_,_,_,_,_,_,_,_,_,_,_,_], _⟩ : Act) _
              refine wpAny_take (i := 5) (v := ?_) rfl (by kernel_rfl) (by kernel_rfl) (by kernel_rfl) (fun _ _ _ h => h) (Or.inl ⟨by kernel_rfl, ?_⟩) ?_
              rotate_left
              · intro w
                go_simp
                try with_reducible rfl
              change wpAny _ _ _ _ _ _ (⟨#[_,_,_,_,_,_,_,_,_,_,_,_,_,_,_,_,_,_,_,_,_,_,_,_,_,_,_,_,_,_,_,_,_,_,_,_,_,_,_,_,_,_,_,_,_,_,_,_], _⟩ : Act) _
              refine wpAny_ready (rs := [6]) (by kernel_rfl) (by simp) (AllReady.cons rfl (fun K hK => ?_) AllReady.nil)
              go_simp
              refine hK _ _ ?_
              clear hK K
              refine wpAny_ready (rs := [7]) (by kernel_rfl) (by simp) (AllReady.cons rfl (fun K hK => ?_) AllReady.nil)
              go_simp
              refine hK _ _ ?_
              clear hK K
              refine wpAny_take (i := 8) (v := ?_) rfl (by kernel_rfl) (by kernel_rfl) (by kernel_rfl) (fun _ _ _ h => h) (Or.inl ⟨by kernel_rfl, ?_⟩) ?_
              rotate_left
              · intro w
                go_simp
                try with_reducible rfl
              change wpAny _ _ _ _ _ _ (⟨#[_,_,_,_,_,_,_,_,_,_,_,_,_,_,_,_,_,_,_,_,_,_,_,_,_,_,_,_,_,_,_,_,_,_,_,_,_,_,_,_,_,_,_,_,_,_,_,_], _⟩ : Act) _
              refine wpAny_take (i := 9) (v := ?_) rfl (by kernel_rfl) (by kernel_rfl) (by kernel_rfl) (fun _ _ _ h => h) (Or.inl ⟨by kernel_rfl, ?_⟩) ?_
              rotate_left
              · intro w
                go_simp
                try with_reducible rfl
              change wpAny _ _ _ _ _ _ (⟨#[_,_,_,_,_,_,_,_,_,_,_,_,_,_,_,_,_,_,_,_,_,_,_,_,_,_,_,_,_,_,_,_,_,_,_,_,_,_,_,_,_,_,_,_,_,_,_,_], _⟩ : Act) _
              refine wpAny_take (i := 10) (v := ?_) rfl (by kernel_rfl) (by kernel_rfl) (by kernel_rfl) (fun _ _ _ h => h) (Or.inl ⟨by kernel_rfl, ?_⟩) ?_
              rotate_left
              · intro w
                go_simp
                try with_reducible rfl
              change wpAny _ _ _ _ _ _ (⟨#[_,_,_,_,_,_,_,_,_,_,_,_,_,_,_,_,_,_,_,_,_,_,_,_,_,_,_,_,_,_,_,_,_,_,_,_,_,_,_,_,_,_,_,_,_,_,_,_], _⟩ : Act) _
              refine wpAny_take (i := 11) (v := ?_) rfl (by kernel_rfl) (by kernel_rfl) (by kernel_rfl) (fun _ _ _ h => h) (Or.inl ⟨by kernel_rfl, ?_⟩) ?_
              rotate_left
              · intro w
                go_simp
                try with_reducible rfl
              change wpAny _ _ _ _ _ _ (⟨#[_,_,_,_,_,_,_,_,_,_,_,_,_,_,_,_,_,_,_,_,_,_,_,_,_,_,_,_,_,_,_,_,_,_,_,_,_,_,_,_,_,_,_,_,_,_,_,_], _⟩ : Act) _
              refine wpAny_take (i := 12) (v := ?_) rfl (by kernel_rfl) (by kernel_rfl) (by kernel_rfl) (fun _ _ _ h => h) (Or.inl ⟨by kernel_rfl, ?_⟩) ?_
              rotate_left
              · intro w
                go_simp
                try with_reducible rfl
              change wpAny _ _ _ _ _ _ (⟨#[_,_,_,_,_,_,_,_,_,_,_,_,_,_,_,_,_,_,_,_,_,_,_,_,_,_,_,_,_,_,_,_,_,_,_,_,_,_,_,_,_,_,_,_,_,_,_,_], _⟩ : Act) _
              refine wpAny_take (i := 13) (v := ?_) rfl (by kernel_rfl) (by kernel_rfl) (by kernel_rfl) (fun _ _ _ h => h) (Or.inl ⟨by kernel_rfl, ?_⟩) ?_
              rotate_left
              · intro w
                go_simp
                try with_reducible rfl
              change wpAny _ _ _ _ _ _ (⟨#[_,_,_,_,_,_,_,_,_,_,_,_,_,_,_,_,_,_,_,_,_,_,_,_,_,_,_,_,_,_,_,_,_,_,_,_,_,_,_,_,_,_,_,_,_,_,_,_], _⟩ : Act) _
              refine wpAny_take (i := 14) (v := ?_) rfl (by kernel_rfl) (by kernel_rfl) (by kernel_rfl) (fun _ _ _ h => h) (Or.inl ⟨by kernel_rfl, ?_⟩) ?_
              rotate_left
              · intro w
                go_simp
                try with_reducible rfl
              change wpAny _ _ _ _ _ _ (⟨#[_,_,_,_,_,_,_,_,_,_,_,_,_,_,_,_,_,_,_,_,_,_,_,_,_,_,_,_,_,_,_,_,_,_,_,_,_,_,_,_,_,_,_,_,_,_,_,_], _⟩ : Act) _
              refine wpAny_take (i := 15) (v := ?_) rfl (by kernel_rfl) (by kernel_rfl) (by kernel_rfl) (fun _ _ _ h => h) (Or.inl ⟨by kernel_rfl, ?_⟩) ?_
              rotate_left
              · intro w
                go_simp
                try with_reducible rfl
              change wpAny _ _ _ _ _ _ (⟨#[_,_,_,_,_,_,_,_,_,_,_,_,_,_,_,_,_,_,_,_,_,_,_,_,_,_,_,_,_,_,_,_,_,_,_,_,_,_,_,_,_,_,_,_,_,_,_,_], _⟩ : Act) _
              refine wpAny_take (i := 16) (v := ?_) rfl (by kernel_rfl) (by kernel_rfl) (by kernel_rfl) (fun _ _ _ h => h) (Or.inl ⟨by kernel_rfl, ?_⟩) ?_
              rotate_left
              · intro w
                go_simp
                try with_reducible rfl
              change wpAny _ _ _ _ _ _ (⟨#[_,_,_,_,_,_,_,_,_,_,_,_,_,_,_,_,_,_,_,_,_,_,_,_,_,_,_,_,_,_,_,_,_,_,_,_,_,_,_,_,_,_,_,_,_,_,_,_], _⟩ : Act) _
              refine wpAny_take (i := 17) (v := ?_) rfl (by kernel_rfl) (by kernel_rfl) (by kernel_rfl) (fun _ _ _ h => h) (Or.inl ⟨by kernel_rfl, ?_⟩) ?_
              rotate_left
              · intro w
                go_simp
                try with_reducible rfl
              change wpAny _ _ _ _ _ _ (⟨#[_,_,_,_,_,_,_,_,_,_,_,_,_,_,_,_,_,_,_,_,_,_,_,_,_,_,_,_,_,_,_,_,_,_,_,_,_,_,_,_,_,_,_,_,_,_,_,_], _⟩ : Act) _
              refine wpAny_ready (rs := [18, 20]) (by kernel_rfl) (by simp) (AllReady.cons rfl (fun K hK => ?_) (AllReady.cons rfl (fun K hK => ?_) AllReady.nil))
              · go_simp
                refine hK _ _ ?_
                clear hK K
                refine wpAny_ready (rs := [19, 20]) (by kernel_rfl) (by simp) (AllReady.cons rfl (fun K hK => ?_) (AllReady.cons rfl (fun K hK => ?_) AllReady.nil))
                · go_simp
                  with_reducible refine (H30A.out _ HB5).mono ?_
                  rintro _ w6 ⟨rfl, hS6⟩
                  refine hK _ _ ?_
                  clear hK K
                  obtain ⟨y0, y1, y2, HB6⟩ := hS6
                  refine wpAny_ready (rs := [20]) (by kernel_rfl) (by simp) (AllReady.cons rfl (fun K hK => ?_) AllReady.nil)
                  go_simp
                  refine hK _ _ ?_
                  clear hK K
                  refine wpAny_ready (rs := [21]) (by kernel_rfl) (by simp) (AllReady.cons rfl (fun K hK => ?_) AllReady.nil)
                  go_simp
                  with_reducible refine (H30B.out _ HB6).mono ?_
                  rintro _ w7 ⟨rfl, HB7⟩
                  refine hK _ _ ?_
                  clear hK K
                  refine wpAny_take (i := 22) (v := ?_) rfl (by kernel_rfl) (by kernel_rfl) (by kernel_rfl) (fun _ _ _ h => h) (Or.inl ⟨by kernel_rfl, ?_⟩) ?_
                  rotate_left
                  · intro w
                    go_simp
                    try with_reducible rfl
                  change wpAny _ _ _ _ _ _ (⟨#[_,_,_,_,_,_,_,_,_,_,_,_,_,_,_,_,_,_,_,_,_,_,_,_,_,_,_,_,_,_,_,_,_,_,_,_,_,_,_,_,_,_,_,_,_,_,_,_], _⟩ : Act) _
                  refine wpAny_take (i := 23) (v := ?_) rfl (by kernel_rfl) (by kernel_rfl) (by kernel_rfl) (fun _ _ _ h => h) (Or.inl ⟨by kernel_rfl, ?_⟩) ?_
                  rotate_left
                  · intro w
                    go_simp
                    try with_reducible rfl
                  change wpAny _ _ _ _ _ _ (⟨#[_,_,_,_,_,_,_,_,_,_,_,_,_,_,_,_,_,_,_,_,_,_,_,_,_,_,_,_,_,_,_,_,_,_,_,_,_,_,_,_,_,_,_,_,_,_,_,_], _⟩ : Act) _
                  refine wpAny_take (i := 24) (v := ?_) rfl (by kernel_rfl) (by kernel_rfl) (by kernel_rfl) (fun _ _ _ h => h) (Or.inl ⟨by kernel_rfl, ?_⟩) ?_
                  rotate_left
                  · intro w
                    go_simp
                    try with_reducible rfl
                  change wpAny _ _ _ _ _ _ (⟨#[_,_,_,_,_,_,_,_,_,_,_,_,_,_,_,_,_,_,_,_,_,_,_,_,_,_,_,_,_,_,_,_,_,_,_,_,_,_,_,_,_,_,_,_,_,_,_,_], _⟩ : Act) _
                  refine wpAny_done (by kernel_rfl) ?_ _
                  refine NoPanic.normal ?_
                  have HBZ : Hid (Below w.heap.size w w7) := HB2.out.trans (HB7.out.mono HB2.out.size)
                  have HBL2 : Hid (stepB es k = Op.bytesLess K1.toList K2.toList) := by
                    unfold Hid stepB
                    rw [← HM.out, ← HNM.out, ← HID.out, ← HRR.out, ← HQ.out, show k - 1 = j by have := HKJ.out; omega, ← HPM.out, ← HPN.out, HK1.out, HK2.out, decide_eq_false (show ¬ k = 0 by omega)]
                    rw [Go.ByteArray.toList_eq, Go.ByteArray.toList_eq]
                    simp
                  generalize Op.bytesLess K1.toList K2.toList = bl at *
                  cases bl with
                  | false =>
                    have H4 : Hid (checkZ es = 4) := chk_no (by rw [HL.out]; exact hlt) HBL2.out
                    go_wp2
                    go_ret
                    exact ⟨by rw [H4.out]; rfl, HBZ.out⟩
                  | true =>
                    have HNX : Hid (∀ i, i < k + 1 → stepB es i = true) := fun i hi => by
                      rcases Nat.lt_or_ge i k with h | h
                      · exact HST.out i h
                      · obtain rfl : i = k := by omega
                        exact HBL2.out
                    have HOZ : Hid (w7.ownsMap Tryz.prog 9 (plainElem Tryz.prog 3) w.heap.size (k + 1) D2) := ownsMap_below HO2.out HB7.out
                    go_wp2
                    go_roundw
                    case rel => exact ⟨k + 1, D2, hlt, by go_num, HOZ.out, HC2.out, HBZ.out, HNX.out⟩
                    case measure => simp [intOf]; omega
                · go_simp
                  refine hK _ _ ?_
                  clear hK K
                  refine wpAny_ready (rs := [19]) (by kernel_rfl) (by simp) (AllReady.cons rfl (fun K hK => ?_) AllReady.nil)
                  go_simp
                  with_reducible refine (H30A.out _ HB5).mono ?_
                  rintro _ w6 ⟨rfl, hS6⟩
                  refine hK _ _ ?_
                  clear hK K
                  obtain ⟨y0, y1, y2, HB6⟩ := hS6
                  refine wpAny_ready (rs := [21]) (by kernel_rfl) (by simp) (AllReady.cons rfl (fun K hK => ?_) AllReady.nil)
                  go_simp
                  with_reducible refine (H30B.out _ HB6).mono ?_
                  rintro _ w7 ⟨rfl, HB7⟩
                  refine hK _ _ ?_
                  clear hK K
                  refine wpAny_take (i := 22) (v := ?_) rfl (by kernel_rfl) (by kernel_rfl) (by kernel_rfl) (fun _ _ _ h => h) (Or.inl ⟨by kernel_rfl, ?_⟩) ?_
                  rotate_left
                  · intro w
                    go_simp
                    try with_reducible rfl
                  change wpAny _ _ _ _ _ _ (⟨#[_,_,_,_,_,_,_,_,_,_,_,_,_,_,_,_,_,_,_,_,_,_,_,_,_,_,_,_,_,_,_,_,_,_,_,_,_,_,_,_,_,_,_,_,_,_,_,_], _⟩ : Act) _
                  refine wpAny_take (i := 23) (v := ?_) rfl (by kernel_rfl) (by kernel_rfl) (by kernel_rfl) (fun _ _ _ h => h) (Or.inl ⟨by kernel_rfl, ?_⟩) ?_
                  rotate_left
                  · intro w
                    go_simp
                    try with_reducible rfl
                  change wpAny _ _ _ _ _ _ (⟨#[_,_,_,_,_,_,_,_,_,_,_,_,_,_,_,_,_,_,_,_,_,_,_,_,_,_,_,_,_,_,_,_,_,_,_,_,_,_,_,_,_,_,_,_,_,_,_,_], _⟩ : Act) _
                  refine wpAny_take (i := 24) (v := ?_) rfl (by kernel_rfl) (by kernel_rfl) (by kernel_rfl) (fun _ _ _ h => h) (Or.inl ⟨by kernel_rfl, ?_⟩) ?_
                  rotate_left
                  · intro w
                    go_simp
                    try with_reducible rfl
                  change wpAny _ _ _ _ _ _ (⟨#[_,_,_,_,_,_,_,_,_,_,_,_,_,_,_,_,_,_,_,_,_,_,_,_,_,_,_,_,_,_,_,_,_,_,_,_,_,_,_,_,_,_,_,_,_,_,_,_], _⟩ : Act) _
                  refine wpAny_done (by kernel_rfl) ?_ _
                  refine NoPanic.normal ?_
                  have HBZ : Hid (Below w.heap.size w w7) := HB2.out.trans (HB7.out.mono HB2.out.size)
                  have HBL2 : Hid (stepB es k = Op.bytesLess K1.toList K2.toList) := by
                    unfold Hid stepB
                    rw [← HM.out, ← HNM.out, ← HID.out, ← HRR.out, ← HQ.out, show k - 1 = j by have := HKJ.out; omega, ← HPM.out, ← HPN.out, HK1.out, HK2.out, decide_eq_false (show ¬ k = 0 by omega)]
                    rw [Go.ByteArray.toList_eq, Go.ByteArray.toList_eq]
                    simp
                  generalize Op.bytesLess K1.toList K2.toList = bl at *
                  cases bl with
                  | false =>
                    have H4 : Hid (checkZ es = 4) := chk_no (by rw [HL.out]; exact hlt) HBL2.out
                    go_wp2
                    go_ret
                    exact ⟨by rw [H4.out]; rfl, HBZ.out⟩
                  | true =>
                    have HNX : Hid (∀ i, i < k + 1 → stepB es i = true) := fun i hi => by
                      rcases Nat.lt_or_ge i k with h | h
                      · exact HST.out i h
                      · obtain rfl : i = k := by omega
                        exact HBL2.out
                    have HOZ : Hid (w7.ownsMap Tryz.prog 9 (plainElem Tryz.prog 3) w.heap.size (k + 1) D2) := ownsMap_below HO2.out HB7.out
                    go_wp2
                    go_roundw
                    case rel => exact ⟨k + 1, D2, hlt, by go_num, HOZ.out, HC2.out, HBZ.out, HNX.out⟩
                    case measure => simp [intOf]; omega
              · go_simp
                refine hK _ _ ?_
                clear hK K
                refine wpAny_ready (rs := [18]) (by kernel_rfl) (by simp) (AllReady.cons rfl (fun K hK => ?_) AllReady.nil)
                go_simp
                refine hK _ _ ?_
                clear hK K
                refine wpAny_ready (rs := [19]) (by kernel_rfl) (by simp) (AllReady.cons rfl (fun K hK => ?_) AllReady.nil)
                go_simp
                with_reducible refine (H30A.out _ HB5).mono ?_
                rintro _ w6 ⟨rfl, hS6⟩
                refine hK _ _ ?_
                clear hK K
                obtain ⟨y0, y1, y2, HB6⟩ := hS6
                refine wpAny_ready (rs := [21]) (by kernel_rfl) (by simp) (AllReady.cons rfl (fun K hK => ?_) AllReady.nil)
                go_simp
                with_reducible refine (H30B.out _ HB6).mono ?_
                rintro _ w7 ⟨rfl, HB7⟩
                refine hK _ _ ?_
                clear hK K
                refine wpAny_take (i := 22) (v := ?_) rfl (by kernel_rfl) (by kernel_rfl) (by kernel_rfl) (fun _ _ _ h => h) (Or.inl ⟨by kernel_rfl, ?_⟩) ?_
                rotate_left
                · intro w
                  go_simp
                  try with_reducible rfl
                change wpAny _ _ _ _ _ _ (⟨#[_,_,_,_,_,_,_,_,_,_,_,_,_,_,_,_,_,_,_,_,_,_,_,_,_,_,_,_,_,_,_,_,_,_,_,_,_,_,_,_,_,_,_,_,_,_,_,_], _⟩ : Act) _
                refine wpAny_take (i := 23) (v := ?_) rfl (by kernel_rfl) (by kernel_rfl) (by kernel_rfl) (fun _ _ _ h => h) (Or.inl ⟨by kernel_rfl, ?_⟩) ?_
                rotate_left
                · intro w
                  go_simp
                  try with_reducible rfl
                change wpAny _ _ _ _ _ _ (⟨#[_,_,_,_,_,_,_,_,_,_,_,_,_,_,_,_,_,_,_,_,_,_,_,_,_,_,_,_,_,_,_,_,_,_,_,_,_,_,_,_,_,_,_,_,_,_,_,_], _⟩ : Act) _
                refine wpAny_take (i := 24) (v := ?_) rfl (by kernel_rfl) (by kernel_rfl) (by kernel_rfl) (fun _ _ _ h => h) (Or.inl ⟨by kernel_rfl, ?_⟩) ?_
                rotate_left
                · intro w
                  go_simp
                  try with_reducible rfl
                change wpAny _ _ _ _ _ _ (⟨#[_,_,_,_,_,_,_,_,_,_,_,_,_,_,_,_,_,_,_,_,_,_,_,_,_,_,_,_,_,_,_,_,_,_,_,_,_,_,_,_,_,_,_,_,_,_,_,_], _⟩ : Act) _
                refine wpAny_done (by kernel_rfl) ?_ _
                refine NoPanic.normal ?_
                have HBZ : Hid (Below w.heap.size w w7) := HB2.out.trans (HB7.out.mono HB2.out.size)
                have HBL2 : Hid (stepB es k = Op.bytesLess K1.toList K2.toList) := by
                  unfold Hid stepB
                  rw [← HM.out, ← HNM.out, ← HID.out, ← HRR.out, ← HQ.out, show k - 1 = j by have := HKJ.out; omega, ← HPM.out, ← HPN.out, HK1.out, HK2.out, decide_eq_false (show ¬ k = 0 by omega)]
                  rw [Go.ByteArray.toList_eq, Go.ByteArray.toList_eq]
                  simp
                generalize Op.bytesLess K1.toList K2.toList = bl at *
                cases bl with
                | false =>
                  have H4 : Hid (checkZ es = 4) := chk_no (by rw [HL.out]; exact hlt) HBL2.out
                  go_wp2
                  go_ret
                  exact ⟨by rw [H4.out]; rfl, HBZ.out⟩
                | true =>
                  have HNX : Hid (∀ i, i < k + 1 → stepB es i = true) := fun i hi => by
                    rcases Nat.lt_or_ge i k with h | h
                    · exact HST.out i h
                    · obtain rfl : i = k := by omega
                      exact HBL2.out
                  have HOZ : Hid (w7.ownsMap Tryz.prog 9 (plainElem Tryz.prog 3) w.heap.size (k + 1) D2) := ownsMap_below HO2.out HB7.out
                  go_wp2
                  go_roundw
                  case rel => exact ⟨k + 1, D2, hlt, by go_num, HOZ.out, HC2.out, HBZ.out, HNX.out⟩
                  case measure => simp [intOf]; omega
        · as_aux_lemma =>
            have g1 : (1 : Int) < (q : Int) + 1 := by omega
            have wq : IntKind.i64.wrap ((q : Int) + 1) = (q : Int) + 1 := by rw [IntKind.wrap_i64]; omega
            have H4 : Hid (checkZ es = 4) := chk_no (by rw [HL.out]; exact hlt) (by unfold stepB; rw [← HNM.out, ← HQ.out, decide_eq_false hq0]; simp)
            go_wp2_with fail
            refine wp_region_noPanic ?_
            refine wp_region_any (by kernel_rfl) ?_
            change wpAny _ _ _ _ _ _ _ (World.drew _)
            refine wpAny_ready (rs := [0]) (by kernel_rfl) (by simp) (AllReady.cons rfl (fun K hK => ?_) AllReady.nil)
            go_simp
            refine hK _ _ ?_
            clear hK K
            refine wpAny_ready (rs := [1]) (by kernel_rfl) (by simp) (AllReady.cons rfl (fun K hK => ?_) AllReady.nil)
            go_simp
            with_reducible refine (H29.out _ (BD.drew HD)).mono ?_
            rintro _ w5 ⟨rfl, hS5⟩
            refine hK _ _ ?_
            clear hK K
            obtain ⟨x0, x1, x2, xl, HB5⟩ := hS5
            refine wpAny_take (i := 2) (v := ?_) rfl (by kernel_rfl) (by kernel_rfl) (by kernel_rfl) (fun _ _ _ h => h) (Or.inl ⟨by kernel_rfl, ?_⟩) ?_
            rotate_left
            · intro w
              go_simp
              try with_reducible rfl
            change wpAny _ _ _ _ _ _ (⟨#[_,_,_,_,_,_,_,_,_,_,_,_,_,_,_,_,_,_,_,_,_,_,_,_,_,_,_,_,_,_,_,_,_,_,_,_,_,_,_,_,_,_,_,_,_,_,_,_], _⟩ : Act) _
            refine wpAny_take (i := 3) (v := ?_) rfl (by kernel_rfl) (by kernel_rfl) (by kernel_rfl) (fun _ _ _ h => h) (Or.inl ⟨by kernel_rfl, ?_⟩) ?_
            rotate_left
            · intro w
              go_simp
              try with_reducible rfl
            change wpAny _ _ _ _ _ _ (⟨#[_,_,_,_,_,_,_,_,_,_,_,_,_,_,_,_,_,_,_,_,_,_,_,_,_,_,_,_,_,_,_,_,_,_,_,_,_,_,_,_,_,_,_,_,_,_,_,_], _⟩ : Act) _
            refine wpAny_take (i := 4) (v := ?_) rfl (by kernel_rfl) (by kernel_rfl) (by kernel_rfl) (fun _ _ _ h => h) (Or.inl ⟨by kernel_rfl, ?_⟩) ?_
            rotate_left
            · intro w
              go_simp
              try with_reducible rfl
            change wpAny _ _ _ _ _ _ (⟨#[_,_,_,_,_,_,_,_,_,_,_,_,_,_,_,_,_,_,_,_,_,_,_,_,_,_,_,_,_,_,_,_,_,_,_,_,_,_,_,_,_,_,_,_,_,_,_,_], _⟩ : Act) _
            refine wpAny_take (i := 5) (v := ?_) rfl (by kernel_rfl) (by kernel_rfl) (by kernel_rfl) (fun _ _ _ h => h) (Or.inl ⟨by kernel_rfl, ?_⟩) ?_
            rotate_left
            · intro w
              go_simp
              try with_reducible rfl
            change wpAny _ _ _ _ _ _ (⟨#[_,_,_,_,_,_,_,_,_,_,_,_,_,_,_,_,_,_,_,_,_,_,_,_,_,_,_,_,_,_,_,_,_,_,_,_,_,_,_,_,_,_,_,_,_,_,_,_], _⟩ : Act) _
            refine wpAny_ready (rs := [6]) (by kernel_rfl) (by simp) (AllReady.cons rfl (fun K hK => ?_) AllReady.nil)
            go_simp
            refine hK _ _ ?_
            clear hK K
            refine wpAny_ready (rs := [7]) (by kernel_rfl) (by simp) (AllReady.cons rfl (fun K hK => ?_) AllReady.nil)
            go_simp
            refine hK _ _ ?_
            clear hK K
            refine wpAny_take (i := 8) (v := ?_) rfl (by kernel_rfl) (by kernel_rfl) (by kernel_rfl) (fun _ _ _ h => h) (Or.inl ⟨by kernel_rfl, ?_⟩) ?_
            rotate_left
            · intro w
              go_simp
              try with_reducible rfl
            change wpAny _ _ _ _ _ _ (⟨#[_,_,_,_,_,_,_,_,_,_,_,_,_,_,_,_,_,_,_,_,_,_,_,_,_,_,_,_,_,_,_,_,_,_,_,_,_,_,_,_,_,_,_,_,_,_,_,_], _⟩ : Act) _
            refine wpAny_take (i := 9) (v := ?_) rfl (by kernel_rfl) (by kernel_rfl) (by kernel_rfl) (fun _ _ _ h => h) (Or.inl ⟨by kernel_rfl, ?_⟩) ?_
            rotate_left
            · intro w
              go_simp
              try with_reducible rfl
            change wpAny _ _ _ _ _ _ (⟨#[_,_,_,_,_,_,_,_,_,_,_,_,_,_,_,_,_,_,_,_,_,_,_,_,_,_,_,_,_,_,_,_,_,_,_,_,_,_,_,_,_,_,_,_,_,_,_,_], _⟩ : Act) _
            refine wpAny_take (i := 10) (v := ?_) rfl (by kernel_rfl) (by kernel_rfl) (by kernel_rfl) (fun _ _ _ h => h) (Or.inl ⟨by kernel_rfl, ?_⟩) ?_
            rotate_left
            · intro w
              go_simp
              try with_reducible rfl
            change wpAny _ _ _ _ _ _ (⟨#[_,_,_,_,_,_,_,_,_,_,_,_,_,_,_,_,_,_,_,_,_,_,_,_,_,_,_,_,_,_,_,_,_,_,_,_,_,_,_,_,_,_,_,_,_,_,_,_], _⟩ : Act) _
            refine wpAny_take (i := 11) (v := undef) rfl (by kernel_rfl) (by kernel_rfl) (by kernel_rfl) (fun _ _ _ h => h) (Or.inr ⟨by kernel_rfl, rfl⟩) ?_
            change wpAny _ _ _ _ _ _ (⟨#[_,_,_,_,_,_,_,_,_,_,_,_,_,_,_,_,_,_,_,_,_,_,_,_,_,_,_,_,_,_,_,_,_,_,_,_,_,_,_,_,_,_,_,_,_,_,_,_], _⟩ : Act) _
            refine wpAny_take (i := 12) (v := undef) rfl (by kernel_rfl) (by kernel_rfl) (by kernel_rfl) (fun _ _ _ h => h) (Or.inr ⟨by kernel_rfl, rfl⟩) ?_
            change wpAny _ _ _ _ _ _ (⟨#[_,_,_,_,_,_,_,_,_,_,_,_,_,_,_,_,_,_,_,_,_,_,_,_,_,_,_,_,_,_,_,_,_,_,_,_,_,_,_,_,_,_,_,_,_,_,_,_], _⟩ : Act) _
            refine wpAny_take (i := 13) (v := undef) rfl (by kernel_rfl) (by kernel_rfl) (by kernel_rfl) (fun _ _ _ h => h) (Or.inr ⟨by kernel_rfl, rfl⟩) ?_
            change wpAny _ _ _ _ _ _ (⟨#[_,_,_,_,_,_,_,_,_,_,_,_,_,_,_,_,_,_,_,_,_,_,_,_,_,_,_,_,_,_,_,_,_,_,_,_,_,_,_,_,_,_,_,_,_,_,_,_], _⟩ : Act) _
            refine wpAny_take (i := 14) (v := undef) rfl (by kernel_rfl) (by kernel_rfl) (by kernel_rfl) (fun _ _ _ h => h) (Or.inr ⟨by kernel_rfl, rfl⟩) ?_
            change wpAny _ _ _ _ _ _ (⟨#[_,_,_,_,_,_,_,_,_,_,_,_,_,_,_,_,_,_,_,_,_,_,_,_,_,_,_,_,_,_,_,_,_,_,_,_,_,_,_,_,_,_,_,_,_,_,_,_], _⟩ : Act) _
            refine wpAny_take (i := 15) (v := undef) rfl (by kernel_rfl) (by kernel_rfl) (by kernel_rfl) (fun _ _ _ h => h) (Or.inr ⟨by kernel_rfl, rfl⟩) ?_
            change wpAny _ _ _ _ _ _ (⟨#[_,_,_,_,_,_,_,_,_,_,_,_,_,_,_,_,_,_,_,_,_,_,_,_,_,_,_,_,_,_,_,_,_,_,_,_,_,_,_,_,_,_,_,_,_,_,_,_], _⟩ : Act) _
            refine wpAny_take (i := 16) (v := undef) rfl (by kernel_rfl) (by kernel_rfl) (by kernel_rfl) (fun _ _ _ h => h) (Or.inr ⟨by kernel_rfl, rfl⟩) ?_
            change wpAny _ _ _ _ _ _ (⟨#[_,_,_,_,_,_,_,_,_,_,_,_,_,_,_,_,_,_,_,_,_,_,_,_,_,_,_,_,_,_,_,_,_,_,_,_,_,_,_,_,_,_,_,_,_,_,_,_], _⟩ : Act) _
            refine wpAny_take (i := 17) (v := undef) rfl (by kernel_rfl) (by kernel_rfl) (by kernel_rfl) (fun _ _ _ h => h) (Or.inr ⟨by kernel_rfl, rfl⟩) ?_
            change wpAny _ _ _ _ _ _ (⟨#[_,_,_,_,_,_,_,_,_,_,_,_,_,_,_,_,_,_,_,_,_,_,_,_,_,_,_,_,_,_,_,_,_,_,_,_,_,_,_,_,_,_,_,_,_,_,_,_], _⟩ : Act) _
            refine wpAny_take (i := 20) (v := undef) rfl (by kernel_rfl) (by kernel_rfl) (by kernel_rfl) (fun _ _ _ h => h) (Or.inr ⟨by kernel_rfl, rfl⟩) ?_
            change wpAny _ _ _ _ _ _ (⟨#[_,_,_,_,_,_,_,_,_,_,_,_,_,_,_,_,_,_,_,_,_,_,_,_,_,_,_,_,_,_,_,_,_,_,_,_,_,_,_,_,_,_,_,_,_,_,_,_], _⟩ : Act) _
            refine wpAny_ready (rs := [18]) (by kernel_rfl) (by simp) (AllReady.cons rfl (fun K hK => ?_) AllReady.nil)
            go_simp
            refine hK _ _ ?_
            clear hK K
            refine wpAny_ready (rs := [19]) (by kernel_rfl) (by simp) (AllReady.cons rfl (fun K hK => ?_) AllReady.nil)
            go_simp
            refine hK _ _ ?_
            clear hK K
            refine wpAny_ready (rs := [21]) (by kernel_rfl) (by simp) (AllReady.cons rfl (fun K hK => ?_) AllReady.nil)
            go_simp
            refine hK _ _ ?_
            clear hK K
            refine wpAny_ready (rs := [22]) (by kernel_rfl) (by simp) (AllReady.cons rfl (fun K hK => ?_) AllReady.nil)
            go_simp
            refine hK _ _ ?_
            clear hK K
            refine wpAny_ready (rs := [23]) (by kernel_rfl) (by simp) (AllReady.cons rfl (fun K hK => ?_) AllReady.nil)
            go_simp
            refine hK _ _ ?_
            clear hK K
            refine wpAny_take (i := 24) (v := ?_) rfl (by kernel_rfl) (by kernel_rfl) (by kernel_rfl) (fun _ _ _ h => h) (Or.inl ⟨by kernel_rfl, ?_⟩) ?_
            rotate_left
            · intro w
              go_simp
              try with_reducible rfl
            change wpAny _ _ _ _ _ _ (⟨#[_,_,_,_,_,_,_,_,_,_,_,_,_,_,_,_,_,_,_,_,_,_,_,_,_,_,_,_,_,_,_,_,_,_,_,_,_,_,_,_,_,_,_,_,_,_,_,_], _⟩ : Act) _
            refine wpAny_done (by kernel_rfl) ?_ _
            refine NoPanic.normal ?_
            have HBZ : Hid (Below w.heap.size w w5) := HB2.out.trans (HB5.out.mono HB2.out.size)
            go_wp2
            go_ret
            exact ⟨by rw [H4.out]; rfl, HBZ.out⟩
    · have gk : ¬ (k : Int) < (len : Int) := by omega
      have H0 : Hid (checkZ es = 0) := chk_yes (fun i hi => HST.out i (by have := HL.out; omega))
      go_wp2
      go_ret
      exact ⟨by rw [H0.out]; rfl, HBL.out⟩
end Go.Proofs.YtlmeoahcpmikiaaGreatDoor.T
