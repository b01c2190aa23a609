/-
  Walks of the document's tree: Parse.
-/
import Derived.Test.YtccohagdfpcplaaDoorTpD
import Derived.Deep.RegionLaw
namespace Go.Proofs.YtccohagdfpcplaaDoor
open Go.RowKit

theorem find_split {c : UInt8} {l : List UInt8} : (splitC c l = none ∧ findI l c = -1) ∨ ∃ p q, splitC c l = some (p, q) ∧ findI l c = (p.length : Int) ∧ l = p ++ c :: q ∧ c ∉ p := by
  cases h : splitC c l with
  | none =>
    refine Or.inl ⟨rfl, ?_⟩
    have := (split_none h).2
    rcases find_mem l c with ⟨h1, _⟩ | ⟨_, h2⟩
    · exact absurd h1 this
    · exact h2
  | some x =>
    obtain ⟨p, q⟩ := x
    obtain ⟨-, h2, h3⟩ := split_some h
    refine Or.inr ⟨p, q, rfl, ?_, h2, h3⟩
    refine find_some (by rw [h2]; simp) (by rw [h2, List.getD_eq_getElem?_getD, List.getElem?_append_right (Nat.le_refl _)]; simp) (fun j hj e => ?_)
    rw [h2, List.getD_eq_getElem?_getD, List.getElem?_append_left hj, List.getElem?_eq_getElem hj] at e
    exact h3 ((show p[j] = c from e) ▸ List.getElem_mem hj)
theorem ext_mid (s : ByteArray) (i j : Nat) : (s.extract i j).data.toList = (s.data.toList.drop i).take (j - i) := by
  rw [ByteArray.data_extract, Array.toList_extract, List.extract_eq_take_drop]
/-- the tables of modes -/
def TabM (V : World) (A : Nat) : Prop := V.heap[A]? = some (.cells modI 3 (0, 0)) ∧ V.heap[A + 1]? = some (.cells modS 9 (0, 0))
theorem TabM.below {V W : World} {A : Nat} (h : TabM V A) (hb : Below V.heap.size V W) : TabM W A := ⟨box_kept h.1 hb, box_kept h.2 hb⟩
theorem TabM.alloc {V : World} {A : Nat} (h : TabM V A) (o : Obj) : TabM (V.alloc o) A := ⟨(heap_alloc_old _ _ (Array.getElem?_eq_some_iff.1 h.1).1).trans h.1, (heap_alloc_old _ _ (Array.getElem?_eq_some_iff.1 h.2).1).trans h.2⟩
theorem own_not {V : World} {B n : Nat} {v : Value} {xs : List Value} {k : Nat} {cs : Array Value} {ty : Nat} (h : V.ownsRow B 29 3 v n xs) (hk : V.heap[k]? = some (.cells cs ty (0, 0))) (ht : ty ≠ 29) : v.ownBlock ≠ some k := by
  intro e
  rcases h.2 with ⟨hn, _⟩ | ⟨g, cap, cur, rfl, hbase, hbk, _⟩
  · rw [hn] at e; cases e
  · simp [Value.ownBlock] at e
    subst e
    rw [hbk] at hk
    simp only [Option.some.injEq, Obj.cells.injEq] at hk
    exact ht hk.2.1.symm
theorem TabM.grow {V W : World} {A B n : Nat} {v : Value} {xs : List Value} (h : TabM V A) (ho : V.ownsRow B 29 3 v n xs) (hg : V.grownBy W v.ownBlock) : TabM W A := by
  have k1 := own_not ho h.1 (by decide)
  have k2 := own_not ho h.2 (by decide)
  obtain ⟨_, _, _, _, hb⟩ := hg
  exact ⟨(hb A (Array.getElem?_eq_some_iff.1 h.1).1 (Ne.symm k1)).trans h.1, (hb (A + 1) (Array.getElem?_eq_some_iff.1 h.2).1 (Ne.symm k2)).trans h.2⟩
theorem TabM.at (V : World) (A : Nat) (h : TabM V A) (k : Nat) (hk : k < 5) : V.cell? ⟨A, k, none⟩ = some (.int .i64 (modeI k)) ∧ V.cell? ⟨A + 1, k, none⟩ = some (.string (modT.getD k ⟨#[]⟩)) := by
  rw [cell_of_row _ _ _ _ 3 (0, 0) h.1, cell_of_row _ _ _ _ 9 (0, 0) h.2]
  exact mod_at k hk
theorem mode_pos (k : Nat) (h : k < 5) : modeI k ≠ 0 := by
  rcases five h with rfl | rfl | rfl | rfl | rfl <;> decide
/-- the mode that was found among the first so many -/
def ModTo (d : List UInt8) (j : Nat) (m : Int) : Prop := (∃ k, k < j ∧ octZ (modeI k) = d ∧ m = modeI k) ∨ ((∀ k, k < j → octZ (modeI k) ≠ d) ∧ m = 0)
theorem ModTo.hit {d : List UInt8} {j : Nat} (h : octZ (modeI j) = d) : ModTo d (j + 1) (modeI j) := Or.inl ⟨j, by omega, h, rfl⟩
theorem ModTo.miss {d : List UInt8} {j : Nat} {m : Int} (h : ModTo d j m) (hn : octZ (modeI j) ≠ d) : ModTo d (j + 1) m := by
  rcases h with ⟨k, hk, e1, e2⟩ | ⟨h1, h2⟩
  · exact Or.inl ⟨k, by omega, e1, e2⟩
  · refine Or.inr ⟨fun k hk => ?_, h2⟩
    by_cases e : k = j
    · subst e; exact hn
    · exact h1 k (by omega)
theorem ModTo.done {d : List UInt8} {m : Int} (h : ModTo d 5 m) : (modeR d = some m ∧ m ≠ 0) ∨ (modeR d = none ∧ m = 0) := by
  rcases h with ⟨k, hk, e1, rfl⟩ | ⟨h1, h2⟩
  · exact Or.inl ⟨modeR_some hk e1, mode_pos k hk⟩
  · exact Or.inr ⟨modeR_none h1, h2⟩
set_option maxHeartbeats 8000000 in
set_option maxRecDepth 100000 in
theorem rparse_any (s : ByteArray) (w : World) (hs : s.size ≤ 1000000) :
    Calls Tryd.prog 21 #[.string s] w fun e w' => ParPost w (parseF s.data.toList []).2 (parseF s.data.toList []).1 e w' ∧ Below w.heap.size w w' := by
  obtain ⟨i0, hi, hz0, hz1, hz2⟩ := info_parts info29
  generalize hPP : parseF s.data.toList [] = PP
  have HP0 := hidM hPP
  clear hPP
  have HOA : Hid ((w.alloc (.cells #[] 29)).ownsRow w.heap.size 29 3 (.slice (some ⟨w.heap.size, 0, none⟩) 0 0) 0 []) := World.ownsRow_made w #[] 0 (Nat.le_refl _) (Nat.zero_le _) (by simp)
  have HBA : Hid (Below w.heap.size w (w.alloc (.cells #[] 29))) := (Below.refl _ w).alloc (Nat.le_refl _) _
  have HM := hidM (modes_any (w.alloc (.cells #[] 29)))
  have HBM : Hid (Below w.heap.size w (((w.alloc (.cells #[] 29)).alloc (.cells modI 3)).alloc (.cells modS 9))) := (HBA.out.alloc HBA.out.size _).alloc (HBA.out.alloc HBA.out.size _).size _
  have HOM : Hid ((((w.alloc (.cells #[] 29)).alloc (.cells modI 3)).alloc (.cells modS 9)).ownsRow w.heap.size 29 3 (.slice (some ⟨w.heap.size, 0, none⟩) 0 0) 0 []) := (HOA.out.alloc _).alloc _
  have HTM : Hid (TabM (((w.alloc (.cells #[] 29)).alloc (.cells modI 3)).alloc (.cells modS 9)) (w.alloc (.cells #[] 29)).heap.size) := by
    refine ⟨(heap_alloc_old _ _ (by simp)).trans (heap_alloc_new _ _), ?_⟩
    have h := heap_alloc_new ((w.alloc (.cells #[] 29)).alloc (.cells modI 3)) (.cells modS 9)
    rw [show ((w.alloc (.cells #[] 29)).alloc (.cells modI 3)).heap.size = (w.alloc (.cells #[] 29)).heap.size + 1 by simp] at h
    exact h
  go_enter Tryd.func21, Tryd.ntmps21
  go_wp2_with fail
  refine HM.out.mono ?_
  rintro _ w1 ⟨rfl, hw1⟩
  rw [hw1]
  clear hw1 HM HOA HBA
  generalize ((w.alloc (.cells #[] 29)).alloc (.cells modI 3)).alloc (.cells modS 9) = W1 at *
  generalize (w.alloc (.cells #[] 29)).heap.size = A at *
  go_wp2
  go_loopw [0, 4, 7, 8, 9, 10, 11] (fun sv lv _ _ _ _ _ wr => ∃ (r : ByteArray) (acc : List EntB), sv = .string r ∧ r.size ≤ s.size ∧ wr.ownsRow w.heap.size 29 3 lv acc.length (flatE acc) ∧ acc.length ≤ 500 ∧ (∀ e ∈ acc, OkE e) ∧ parseF r.data.toList acc = PP ∧ TabM wr A ∧ Below w.heap.size w wr) (fun sv _ _ _ _ _ _ _ => strSize sv)
  case atStart => exact ⟨s, [], rfl, Nat.le_refl _, HOM.out, Nat.zero_le _, (fun e he => by cases he), HP0.out, HTM.out, HBM.out⟩
  case round =>
    obtain ⟨r, acc, rfl, hrs, hown, h5, hok, hp, htab, hbel⟩ := hrel
    have HO := hidM hown
    have HOK := hidM hok
    have HP := hidM hp
    have HW := hidM hbel
    have HT := hidM htab
    clear hown hok hp hbel htab HP0 HBM HOM HTM
    by_cases h0 : r.size = 0
    · have g0 : ¬ (0 : Int) < (r.size : Int) := by omega
      have HR : Hid (PP = (checkV acc, if checkV acc = 0 then acc else [])) := by
        unfold Hid
        rw [← HP.out, show r.data.toList = [] from List.length_eq_zero_iff.1 (by rw [len_size]; exact h0)]
        exact parse_nil acc
      obtain ⟨a, cap, rfl, hc, hE⟩ := own_shape HO.out
      have HCK := hidM (rcheck_any a cap acc wr hc hE HOK.out)
      clear h0 hE HP hc
      generalize hL : acc.length = len at *
      have HLL := hidM hL
      clear hL
      go_wp2_with fail
      refine HCK.out.mono ?_
      rintro _ w1 ⟨rfl, hb1⟩
      have HB1 := hidM (HW.out.trans (hb1.mono HW.out.size))
      have HO1 : Hid (w1.ownsRow w.heap.size 29 3 (.slice a len cap) acc.length (flatE acc)) := own_below (es := acc) (by rw [HLL.out]; exact HO.out) hb1
      clear hb1 HCK HO
      by_cases hc0 : checkV acc = 0
      · have HR2 : Hid (PP = (0, acc)) := by unfold Hid; rw [HR.out, if_pos hc0, hc0]
        rw [hc0]
        clear hc0 HR
        go_wp2
        go_ret2
        refine ⟨⟨_, by rw [HR2.out]; rfl, ?_⟩, HB1.out⟩
        rw [HR2.out]
        exact HO1.out
      · have b1 : (checkV acc == 0) = false := by simp; exact hc0
        have HR2 : Hid (PP = (checkV acc, [])) := by unfold Hid; rw [HR.out, if_neg hc0]
        generalize checkV acc = cv at *
        clear hc0 HR
        go_wp2
        go_ret2
        refine ⟨⟨_, by rw [HR2.out]; rfl, ?_⟩, HB1.out⟩
        rw [HR2.out]
        exact World.ownsRow_nil _ _ _ _
    · have g0 : (0 : Int) < (r.size : Int) := by omega
      have hl0 : r.data.toList ≠ [] := fun e => h0 (by rw [← len_size, e]; rfl)
      have HFI := hidM (rfind_any r 0 wr (by omega))
      have HFO := hidM (first_ok (l := r.data.toList) (by rw [len_size]; omega))
      have HBAD := hidM (fun h => parse_bad (acc := acc) hl0 h)
      have HFULL := hidM (fun h h5 => parse_full (acc := acc) hl0 h h5)
      have HMORE := hidM (fun h h5 => parse_more (acc := acc) hl0 h h5)
      rw [HP.out] at HBAD HFULL HMORE
      clear h0 hl0 HP
      have hl := len_size r
      rcases find_split (c := 0) (l := r.data.toList) with ⟨h1, h2⟩ | ⟨h, rr, h1, h2, h3, -⟩
      · have HR : Hid (PP = (6, [])) := by
          have hf : firstR r.data.toList = (6, noE, []) := by unfold firstR; rw [h1]
          have := HBAD.out (by rw [hf]; decide)
          rw [hf] at this
          exact this
        rw [h2] at HFI
        clear h1 h2 HBAD HFULL HMORE HFO hl
        go_wp2_with fail
        refine HFI.out.mono ?_
        rintro _ w2 ⟨rfl, hw2⟩
        rw [hw2]
        clear hw2 HFI
        go_wp2
        go_ret2
        refine ⟨⟨_, by rw [HR.out]; rfl, ?_⟩, HW.out⟩
        rw [HR.out]
        exact World.ownsRow_nil _ _ _ _
      · rw [h2] at HFI
        clear h2
        have hrsz : r.size = h.length + 1 + rr.length := by rw [← hl, h3]; simp; omega
        obtain ⟨E, hE⟩ : ∃ E, E = h.length := ⟨_, rfl⟩
        rw [← hE] at HFI
        obtain ⟨L, hL⟩ : ∃ L, L = rr.length + 1 := ⟨_, rfl⟩
        have e1 : (r.size : Int) - (E : Int) = (L : Int) := by omega
        by_cases hr : rr.length < 20
        · have HR : Hid (PP = (6, [])) := by
            have hf : firstR r.data.toList = (6, noE, []) := by unfold firstR; rw [h1]; exact if_pos hr
            have := HBAD.out (by rw [hf]; decide)
            rw [hf] at this
            exact this
          have g1 : (L : Int) < 21 := by omega
          clear h1 HBAD HFULL HMORE HFO hl h3 hrsz hE hL hr
          go_wp2_with fail
          refine HFI.out.mono ?_
          rintro _ w2 ⟨rfl, hw2⟩
          rw [hw2]
          clear hw2 HFI
          go_wp2
          go_ret2
          refine ⟨⟨_, by rw [HR.out]; rfl, ?_⟩, HW.out⟩
          rw [HR.out]
          exact World.ownsRow_nil _ _ _ _
        · have g1 : ¬ (L : Int) < 21 := by omega
          have hEr : E ≤ r.size := by omega
          have HX1 : Hid (r.extract 0 E = ⟨h.toArray⟩) := ba_of (by rw [ext_head, h3, hE, List.take_left])
          have HFJ := hidM (rfind_any (r.extract 0 E) 32 wr (by rw [ByteArray.size_extract]; omega))
          have hHl : (r.extract 0 E).data.toList = h := by rw [HX1.out]
          rw [hHl] at HFJ
          clear HX1 hHl
          rcases find_split (c := 32) (l := h) with ⟨k1, k2⟩ | ⟨d, nm, k1, k2, k3, -⟩
          · have HR : Hid (PP = (3, [])) := by
              have hf : firstR r.data.toList = (3, noE, []) := by unfold firstR; rw [h1]; simp only [hr, if_false]; rw [k1]
              have := HBAD.out (by rw [hf]; decide)
              rw [hf] at this
              exact this
            rw [k2] at HFJ
            clear h1 k1 k2 HBAD HFULL HMORE HFO hl h3 hrsz hE hL hr
            go_wp2_with fail
            refine HFI.out.mono ?_
            rintro _ w2 ⟨rfl, hw2⟩
            rw [hw2]
            clear hw2 HFI
            go_wp2_with fail
            refine HFJ.out.mono ?_
            rintro _ w2 ⟨rfl, hw2⟩
            rw [hw2]
            clear hw2 HFJ
            go_wp2
            go_ret2
            refine ⟨⟨_, by rw [HR.out]; rfl, ?_⟩, HW.out⟩
            rw [HR.out]
            exact World.ownsRow_nil _ _ _ _
          · rw [k2] at HFJ
            clear k2
            have hEn : E = d.length + 1 + nm.length := by rw [hE, k3]; simp; omega
            obtain ⟨T, hT⟩ : ∃ T, T = d.length := ⟨_, rfl⟩
            rw [← hT] at HFJ
            have HXD : Hid (r.extract 0 T = ⟨d.toArray⟩) := ba_of (by rw [ext_head, h3, k3, hT]; simp)
            have HXN : Hid (r.extract (T + 1) E = ⟨nm.toArray⟩) := ba_of (by
              rw [ext_mid, h3, k3, hT, hEn, show d.length + 1 + nm.length - (d.length + 1) = nm.length by omega]
              simp only [List.append_assoc, List.cons_append]
              rw [List.drop_append, List.drop_of_length_le (by omega), show d.length + 1 - d.length = 0 + 1 by omega, List.drop_succ_cons]
              simp)
            have HXI : Hid ((r.extract (E + 1) (E + 21)).data.toList = rr.take 20) := by
              unfold Hid
              rw [ext_mid, h3, hE, show h.length + 21 - (h.length + 1) = 20 by omega, List.drop_append, List.drop_of_length_le (by omega), show h.length + 1 - h.length = 0 + 1 by omega, List.drop_succ_cons]
              simp
            have HXR : Hid (r.extract (E + 21) r.size = ⟨(rr.drop 20).toArray⟩) := ba_of (by
              rw [ext_tail, h3, hE, List.drop_append, List.drop_of_length_le (by omega), List.nil_append, show h.length + 21 - h.length = 20 + 1 by omega, List.drop_succ_cons])
            have HFR : Hid (∀ m, modeR d = some m → firstR r.data.toList = (0, (m, ⟨nm.toArray⟩, ⟨(hexL (rr.take 20)).toArray⟩), rr.drop 20)) := fun m hm => by
              unfold firstR; rw [h1]; simp only [hr, if_false]; rw [k1]; simp only; rw [hm]
            have HFN : Hid (modeR d = none → PP = (3, [])) := fun hm => by
              have hf : firstR r.data.toList = (3, noE, []) := by unfold firstR; rw [h1]; simp only [hr, if_false]; rw [k1]; simp only; rw [hm]
              have := HBAD.out (by rw [hf]; decide)
              rw [hf] at this
              exact this
            have hTE : T + 1 ≤ E := by omega
            have hE21 : E + 21 ≤ r.size := by omega
            have hrd : (rr.drop 20).length = r.size - (E + 21) := by rw [List.length_drop]; omega
            clear h1 k1 HBAD hl h3 k3 hrsz hE hL hr hT hEn
            have cT : (T : Int) ≤ (r.size : Int) := by omega
            have cE : (E : Int) ≤ (r.size : Int) := by omega
            obtain ⟨T1, hT1⟩ : ∃ T1, T + 1 = T1 := ⟨_, rfl⟩
            obtain ⟨E1, hE1⟩ : ∃ E1, E + 1 = E1 := ⟨_, rfl⟩
            obtain ⟨E2, hE2⟩ : ∃ E2, E + 21 = E2 := ⟨_, rfl⟩
            have d1 : (T : Int) + 1 = (T1 : Int) := by omega
            have d2 : (E : Int) + 1 = (E1 : Int) := by omega
            have d3 : (E : Int) + 21 = (E2 : Int) := by omega
            have h12 : E1 ≤ E2 := by omega
            have u1 : IntKind.i64.wrap (T1 : Int) = (T1 : Int) := by rw [IntKind.wrap_i64]; omega
            have u2 : IntKind.i64.wrap (E1 : Int) = (E1 : Int) := by rw [IntKind.wrap_i64]; omega
            have u3 : IntKind.i64.wrap (E2 : Int) = (E2 : Int) := by rw [IntKind.wrap_i64]; omega
            have hq20 : E2 - E1 = 20 := by omega
            rw [hT1] at HXN hTE
            rw [hE1, hE2] at HXI
            rw [hE2] at HXR hE21 hrd
            have HQ20 := hidM hq20
            clear hT1 hE1 hE2 hq20
            go_wp2_with fail
            refine HFI.out.mono ?_
            rintro _ w2 ⟨rfl, hw2⟩
            rw [hw2]
            clear hw2 HFI
            go_wp2_with fail
            refine HFJ.out.mono ?_
            rintro _ w2 ⟨rfl, hw2⟩
            rw [hw2]
            clear hw2 HFJ
            go_wp2
            go_loopw [9, 10, 11, 40] (fun mv _ _ iv wx => ∃ (j : Nat) (m : Int), j ≤ 5 ∧ iv = .int .i64 (j : Int) ∧ mv = .int .i64 m ∧ ModTo d j m ∧ wr = wx) (fun _ _ _ iv _ => 5 - (intOf iv).toNat)
            case atStart => exact ⟨0, 0, Nat.zero_le _, rfl, rfl, Or.inr ⟨fun k hk => by omega, rfl⟩, rfl⟩
            case round =>
              obtain ⟨j, m, hj, rfl, rfl, hmt, hwx⟩ := hrel
              subst hwx
              have HMT := hidM hmt
              clear hmt
              by_cases hlt : j < 5
              · obtain ⟨ca, cs⟩ := TabM.at _ _ HT.out j hlt
                have gj : (j : Int) < 5 := by omega
                have htx := mod_text j hlt
                by_cases he : octZ (modeI j) = d
                · have HN := hidM (ModTo.hit he)
                  have b1 : ((modT.getD j ⟨#[]⟩).toList == (r.extract 0 T).toList) = true := by rw [HXD.out, htx, he]; simp
                  clear he HMT htx
                  generalize modT.getD j ⟨#[]⟩ = tx at *
                  generalize modeI j = mj at *
                  go_wp2
                  go_roundw
                  case rel => exact ⟨j + 1, _, by omega, by go_num, rfl, HN.out, by first | rfl | trivial⟩
                  case measure => simp [intOf]; omega
                · have HN := hidM (ModTo.miss HMT.out he)
                  have b1 : ((modT.getD j ⟨#[]⟩).toList == (r.extract 0 T).toList) = false := bytes_ne (fun e => he (by
                    have h1 := htx.symm.trans (e.trans HXD.out)
                    exact congrArg (fun x : ByteArray => x.data.toList) h1))
                  clear he HMT htx
                  generalize modT.getD j ⟨#[]⟩ = tx at *
                  generalize modeI j = mj at *
                  go_wp2
                  go_roundw
                  case rel => exact ⟨j + 1, _, by omega, by go_num, rfl, HN.out, by first | rfl | trivial⟩
                  case measure => simp [intOf]; omega
              · have gj : ¬ (j : Int) < 5 := by omega
                obtain rfl : j = 5 := by omega
                rcases ModTo.done HMT.out with ⟨hm, hm0⟩ | ⟨hm, hm0⟩
                · have hfr := HFR.out m hm
                  rw [hfr] at HFO HFULL HMORE
                  simp only at HFO HFULL HMORE
                  have b2 : (m == 0) = false := by simp; exact hm0
                  have HHX := hidM (fun V => rhex_any (r.extract E1 E2) V (by rw [ByteArray.size_extract]; omega))
                  rw [HXI.out] at HHX
                  rw [← HXN.out] at HFO HMORE
                  generalize (⟨(hexL (rr.take 20)).toArray⟩ : ByteArray) = X at *
                  have HR5 := hidM (fun h => HFULL.out trivial h)
                  have HR6 := hidM (fun h => HMORE.out trivial h)
                  clear hfr hm hm0 HFR HFN HMT HFULL HMORE HXD HXN HXI
                  go_upto_region 19 with fail
                  refine wp_region_noPanic ?_
                  refine wp_region_any (by kernel_rfl) ?_
                  change wpAny _ _ _ _ _ _ _ (World.drew _)
                  refine wpAny_take (i := 0) (v := ?_) rfl (by kernel_rfl) (by kernel_rfl) (by kernel_rfl) (fun _ _ _ h => h) (Or.inl ⟨by kernel_rfl, ?_⟩) ?_
                  rotate_left
                  · intro w
                    go_simp
                    try with_reducible rfl
                  change wpAny _ _ _ _ _ _ (⟨#[_, _, _, _, _, _, _, _, _, _, _, _, _, _, _, _, _, _, _, _, _, _, _, _, _, _, _, _, _, _, _, _, _, _, _, _, _, _, _, _, _, _, _, _, _, _, _, _, _, _, _, _, _, _, _, _, _, _, _, _, _, _, _, _, _, _, _, _, _, _, _, _, _, _, _, _, _, _, _, _, _, _, _, _, _, _, _], _⟩ : Act) _
                  refine wpAny_take (i := 1) (v := ?_) rfl (by kernel_rfl) (by kernel_rfl) (by kernel_rfl) (fun _ _ _ h => h) (Or.inl ⟨by kernel_rfl, ?_⟩) ?_
                  rotate_left
                  · intro w
                    go_simp
                    try with_reducible rfl
                  change wpAny _ _ _ _ _ _ (⟨#[_, _, _, _, _, _, _, _, _, _, _, _, _, _, _, _, _, _, _, _, _, _, _, _, _, _, _, _, _, _, _, _, _, _, _, _, _, _, _, _, _, _, _, _, _, _, _, _, _, _, _, _, _, _, _, _, _, _, _, _, _, _, _, _, _, _, _, _, _, _, _, _, _, _, _, _, _, _, _, _, _, _, _, _, _, _, _], _⟩ : Act) _
                  refine wpAny_take (i := 2) (v := ?_) rfl (by kernel_rfl) (by kernel_rfl) (by kernel_rfl) (fun _ _ _ h => h) (Or.inl ⟨by kernel_rfl, ?_⟩) ?_
                  rotate_left
                  · intro w
                    go_simp
                    try with_reducible rfl
                  change wpAny _ _ _ _ _ _ (⟨#[_, _, _, _, _, _, _, _, _, _, _, _, _, _, _, _, _, _, _, _, _, _, _, _, _, _, _, _, _, _, _, _, _, _, _, _, _, _, _, _, _, _, _, _, _, _, _, _, _, _, _, _, _, _, _, _, _, _, _, _, _, _, _, _, _, _, _, _, _, _, _, _, _, _, _, _, _, _, _, _, _, _, _, _, _, _, _], _⟩ : Act) _
                  refine wpAny_take (i := 3) (v := ?_) rfl (by kernel_rfl) (by kernel_rfl) (by kernel_rfl) (fun _ _ _ h => h) (Or.inl ⟨by kernel_rfl, ?_⟩) ?_
                  rotate_left
                  · intro w
                    go_simp
                    try with_reducible rfl
                  change wpAny _ _ _ _ _ _ (⟨#[_, _, _, _, _, _, _, _, _, _, _, _, _, _, _, _, _, _, _, _, _, _, _, _, _, _, _, _, _, _, _, _, _, _, _, _, _, _, _, _, _, _, _, _, _, _, _, _, _, _, _, _, _, _, _, _, _, _, _, _, _, _, _, _, _, _, _, _, _, _, _, _, _, _, _, _, _, _, _, _, _, _, _, _, _, _, _], _⟩ : Act) _
                  refine wpAny_take (i := 4) (v := ?_) rfl (by kernel_rfl) (by kernel_rfl) (by kernel_rfl) (fun _ _ _ h => h) (Or.inl ⟨by kernel_rfl, ?_⟩) ?_
                  rotate_left
                  · intro w
                    go_simp
                    try with_reducible rfl
                  change wpAny _ _ _ _ _ _ (⟨#[_, _, _, _, _, _, _, _, _, _, _, _, _, _, _, _, _, _, _, _, _, _, _, _, _, _, _, _, _, _, _, _, _, _, _, _, _, _, _, _, _, _, _, _, _, _, _, _, _, _, _, _, _, _, _, _, _, _, _, _, _, _, _, _, _, _, _, _, _, _, _, _, _, _, _, _, _, _, _, _, _, _, _, _, _, _, _], _⟩ : Act) _
                  refine wpAny_take (i := 5) (v := ?_) rfl (by kernel_rfl) (by kernel_rfl) (by kernel_rfl) (fun _ _ _ h => h) (Or.inl ⟨by kernel_rfl, ?_⟩) ?_
                  rotate_left
                  · intro w
                    go_simp
                    try with_reducible rfl
                  change wpAny _ _ _ _ _ _ (⟨#[_, _, _, _, _, _, _, _, _, _, _, _, _, _, _, _, _, _, _, _, _, _, _, _, _, _, _, _, _, _, _, _, _, _, _, _, _, _, _, _, _, _, _, _, _, _, _, _, _, _, _, _, _, _, _, _, _, _, _, _, _, _, _, _, _, _, _, _, _, _, _, _, _, _, _, _, _, _, _, _, _, _, _, _, _, _, _], _⟩ : Act) _
                  refine wpAny_take (i := 6) (v := ?_) rfl (by kernel_rfl) (by kernel_rfl) (by kernel_rfl) (fun _ _ _ h => h) (Or.inl ⟨by kernel_rfl, ?_⟩) ?_
                  rotate_left
                  · intro w
                    go_simp
                    try with_reducible rfl
                  change wpAny _ _ _ _ _ _ (⟨#[_, _, _, _, _, _, _, _, _, _, _, _, _, _, _, _, _, _, _, _, _, _, _, _, _, _, _, _, _, _, _, _, _, _, _, _, _, _, _, _, _, _, _, _, _, _, _, _, _, _, _, _, _, _, _, _, _, _, _, _, _, _, _, _, _, _, _, _, _, _, _, _, _, _, _, _, _, _, _, _, _, _, _, _, _, _, _], _⟩ : Act) _
                  refine wpAny_take (i := 7) (v := ?_) rfl (by kernel_rfl) (by kernel_rfl) (by kernel_rfl) (fun _ _ _ h => h) (Or.inl ⟨by kernel_rfl, ?_⟩) ?_
                  rotate_left
                  · intro w
                    go_simp
                    try with_reducible rfl
                  change wpAny _ _ _ _ _ _ (⟨#[_, _, _, _, _, _, _, _, _, _, _, _, _, _, _, _, _, _, _, _, _, _, _, _, _, _, _, _, _, _, _, _, _, _, _, _, _, _, _, _, _, _, _, _, _, _, _, _, _, _, _, _, _, _, _, _, _, _, _, _, _, _, _, _, _, _, _, _, _, _, _, _, _, _, _, _, _, _, _, _, _, _, _, _, _, _, _], _⟩ : Act) _
                  refine wpAny_take (i := 8) (v := ?_) rfl (by kernel_rfl) (by kernel_rfl) (by kernel_rfl) (fun _ _ _ h => h) (Or.inl ⟨by kernel_rfl, ?_⟩) ?_
                  rotate_left
                  · intro w
                    go_simp
                    try with_reducible rfl
                  change wpAny _ _ _ _ _ _ (⟨#[_, _, _, _, _, _, _, _, _, _, _, _, _, _, _, _, _, _, _, _, _, _, _, _, _, _, _, _, _, _, _, _, _, _, _, _, _, _, _, _, _, _, _, _, _, _, _, _, _, _, _, _, _, _, _, _, _, _, _, _, _, _, _, _, _, _, _, _, _, _, _, _, _, _, _, _, _, _, _, _, _, _, _, _, _, _, _], _⟩ : Act) _
                  refine wpAny_take (i := 9) (v := ?_) rfl (by kernel_rfl) (by kernel_rfl) (by kernel_rfl) (fun _ _ _ h => h) (Or.inl ⟨by kernel_rfl, ?_⟩) ?_
                  rotate_left
                  · intro w
                    go_simp
                    try with_reducible rfl
                  change wpAny _ _ _ _ _ _ (⟨#[_, _, _, _, _, _, _, _, _, _, _, _, _, _, _, _, _, _, _, _, _, _, _, _, _, _, _, _, _, _, _, _, _, _, _, _, _, _, _, _, _, _, _, _, _, _, _, _, _, _, _, _, _, _, _, _, _, _, _, _, _, _, _, _, _, _, _, _, _, _, _, _, _, _, _, _, _, _, _, _, _, _, _, _, _, _, _], _⟩ : Act) _
                  refine wpAny_take (i := 10) (v := ?_) rfl (by kernel_rfl) (by kernel_rfl) (by kernel_rfl) (fun _ _ _ h => h) (Or.inl ⟨by kernel_rfl, ?_⟩) ?_
                  rotate_left
                  · intro w
                    go_simp
                    try with_reducible rfl
                  change wpAny _ _ _ _ _ _ (⟨#[_, _, _, _, _, _, _, _, _, _, _, _, _, _, _, _, _, _, _, _, _, _, _, _, _, _, _, _, _, _, _, _, _, _, _, _, _, _, _, _, _, _, _, _, _, _, _, _, _, _, _, _, _, _, _, _, _, _, _, _, _, _, _, _, _, _, _, _, _, _, _, _, _, _, _, _, _, _, _, _, _, _, _, _, _, _, _], _⟩ : Act) _
                  refine wpAny_take (i := 11) (v := ?_) rfl (by kernel_rfl) (by kernel_rfl) (by kernel_rfl) (fun _ _ _ h => h) (Or.inl ⟨by kernel_rfl, ?_⟩) ?_
                  rotate_left
                  · intro w
                    go_simp
                    try with_reducible rfl
                  change wpAny _ _ _ _ _ _ (⟨#[_, _, _, _, _, _, _, _, _, _, _, _, _, _, _, _, _, _, _, _, _, _, _, _, _, _, _, _, _, _, _, _, _, _, _, _, _, _, _, _, _, _, _, _, _, _, _, _, _, _, _, _, _, _, _, _, _, _, _, _, _, _, _, _, _, _, _, _, _, _, _, _, _, _, _, _, _, _, _, _, _, _, _, _, _, _, _], _⟩ : Act) _
                  refine wpAny_take (i := 12) (v := ?_) rfl (by kernel_rfl) (by kernel_rfl) (by kernel_rfl) (fun _ _ _ h => h) (Or.inl ⟨by kernel_rfl, ?_⟩) ?_
                  rotate_left
                  · intro w
                    go_simp
                    try with_reducible rfl
                  change wpAny _ _ _ _ _ _ (⟨#[_, _, _, _, _, _, _, _, _, _, _, _, _, _, _, _, _, _, _, _, _, _, _, _, _, _, _, _, _, _, _, _, _, _, _, _, _, _, _, _, _, _, _, _, _, _, _, _, _, _, _, _, _, _, _, _, _, _, _, _, _, _, _, _, _, _, _, _, _, _, _, _, _, _, _, _, _, _, _, _, _, _, _, _, _, _, _], _⟩ : Act) _
                  refine wpAny_ready (rs := [13]) (by kernel_rfl) (by simp) (AllReady.cons rfl (fun K hK => ?_) AllReady.nil)
                  go_simp
                  with_reducible refine (HHX.out _).mono ?_
                  rintro _ v1 ⟨rfl, hb1⟩
                  have HO1 := hidM (own_below (w := wr.drew) HO.out hb1)
                  have HW1 := hidM (HW.out.drew.trans (hb1.mono HW.out.size))
                  have HT1 := hidM (TabM.below (V := wr.drew) HT.out hb1)
                  clear hb1
                  refine hK _ _ ?_
                  clear hK K
                  change wpAny _ _ _ _ _ _ (⟨#[_, _, _, _, _, _, _, _, _, _, _, _, _, _, _, _, _, _, _, _, _, _, _, _, _, _, _, _, _, _, _, _, _, _, _, _, _, _, _, _, _, _, _, _, _, _, _, _, _, _, _, _, _, _, _, _, _, _, _, _, _, _, _, _, _, _, _, _, _, _, _, _, _, _, _, _, _, _, _, _, _, _, _, _, _, _, _], _⟩ : Act) _
                  refine wpAny_take (i := 14) (v := ?_) rfl (by kernel_rfl) (by kernel_rfl) (by kernel_rfl) (fun _ _ _ h => h) (Or.inl ⟨by kernel_rfl, ?_⟩) ?_
                  rotate_left
                  · intro w
                    go_simp
                    try with_reducible rfl
                  change wpAny _ _ _ _ _ _ (⟨#[_, _, _, _, _, _, _, _, _, _, _, _, _, _, _, _, _, _, _, _, _, _, _, _, _, _, _, _, _, _, _, _, _, _, _, _, _, _, _, _, _, _, _, _, _, _, _, _, _, _, _, _, _, _, _, _, _, _, _, _, _, _, _, _, _, _, _, _, _, _, _, _, _, _, _, _, _, _, _, _, _, _, _, _, _, _, _], _⟩ : Act) _
                  refine wpAny_ready (rs := [15]) (by kernel_rfl) (by simp) (AllReady.cons rfl (fun K hK => ?_) AllReady.nil)
                  go_simp
                  refine hK _ _ ?_
                  clear hK K
                  change wpAny _ _ _ _ _ _ (⟨#[_, _, _, _, _, _, _, _, _, _, _, _, _, _, _, _, _, _, _, _, _, _, _, _, _, _, _, _, _, _, _, _, _, _, _, _, _, _, _, _, _, _, _, _, _, _, _, _, _, _, _, _, _, _, _, _, _, _, _, _, _, _, _, _, _, _, _, _, _, _, _, _, _, _, _, _, _, _, _, _, _, _, _, _, _, _, _], _⟩ : Act) _
                  refine wpAny_ready (rs := [16]) (by kernel_rfl) (by simp) (AllReady.cons rfl (fun K hK => ?_) AllReady.nil)
                  refine step_append_own rfl _ _ 22 rfl w.heap.size 29 i0 (.agg #[.int .i64 0, .string .empty, .string .empty]) 3 40 Tryd.underlying22 hi hz0 hz1 hz2 rfl (by decide) u4 acc.length (flatE acc) rfl (by exact HO1.out.alloc _) ⟨v1.heap.size, 0, none⟩ 1 1 [.int .i64 m, .string (r.extract T1 E), .string X] (by rfl) rfl (by exact cell_new3 rfl _ _ _) (by intro u hu; simp at hu; rcases hu with rfl | rfl | rfl <;> rfl) (by unfold maxLen; omega) (by omega) (by have := HW1.out.size; simp; omega) ?_
                  intro v' w3 hown' hgrow
                  have HO3 := hidM (own_more (e := (m, r.extract T1 E, X)) hown')
                  have HT3 := hidM ((HT1.out.alloc _).grow (HO1.out.alloc _) hgrow)
                  have HB3 : Hid (Below w.heap.size w w3) := (HW1.out.alloc HW1.out.size _).grown hgrow (by have := HW1.out.size; simp; omega) (fun k hk => (HO1.out.lt k hk).1)
                  clear hown' hgrow
                  refine hK _ _ ?_
                  clear hK K
                  change wpAny _ _ _ _ _ _ (⟨#[_, _, _, _, _, _, _, _, _, _, _, _, _, _, _, _, _, _, _, _, _, _, _, _, _, _, _, _, _, _, _, _, _, _, _, _, _, _, _, _, _, _, _, _, _, _, _, _, _, _, _, _, _, _, _, _, _, _, _, _, _, _, _, _, _, _, _, _, _, _, _, _, _, _, _, _, _, _, _, _, _, _, _, _, _, _, _], _⟩ : Act) _
                  refine wpAny_take (i := 17) (v := ?_) rfl (by kernel_rfl) (by kernel_rfl) (by kernel_rfl) (fun _ _ _ h => h) (Or.inl ⟨by kernel_rfl, ?_⟩) ?_
                  rotate_left
                  · intro w
                    go_simp
                    try with_reducible rfl
                  change wpAny _ _ _ _ _ _ (⟨#[_, _, _, _, _, _, _, _, _, _, _, _, _, _, _, _, _, _, _, _, _, _, _, _, _, _, _, _, _, _, _, _, _, _, _, _, _, _, _, _, _, _, _, _, _, _, _, _, _, _, _, _, _, _, _, _, _, _, _, _, _, _, _, _, _, _, _, _, _, _, _, _, _, _, _, _, _, _, _, _, _, _, _, _, _, _, _], _⟩ : Act) _
                  refine wpAny_done (by kernel_rfl) ?_ _
                  refine NoPanic.normal ?_
                  all_goals
                    obtain ⟨a2, cap2, hv2, hc2, -⟩ := own_shape HO3.out
                    subst hv2
                    have HOK2 : Hid (∀ e ∈ acc ++ [((m, r.extract T1 E, X) : EntB)], OkE e) := fun e he => by
                      rcases List.mem_append.1 he with he | he
                      · exact HOK.out e he
                      · rw [List.mem_singleton.1 he]; exact HFO.out
                    have hAL : (acc ++ [((m, r.extract T1 E, X) : EntB)]).length = acc.length + 1 := by simp
                    clear HOK HFO hc2
                    generalize acc ++ [((m, r.extract T1 E, X) : EntB)] = acc2 at *
                    by_cases hf : acc.length = 500
                    · have HR := hidM (HR5.out hf)
                      have g9 : (500 : Int) < (acc2.length : Int) := by omega
                      clear HR5 HR6
                      generalize acc2.length = n2 at *
                      go_wp2
                      go_ret2
                      refine ⟨⟨_, by rw [HR.out]; rfl, ?_⟩, HB3.out⟩
                      rw [HR.out]
                      exact World.ownsRow_nil _ _ _ _
                    · have HR := hidM (HR6.out hf)
                      have g9 : ¬ (500 : Int) < (acc2.length : Int) := by omega
                      have HA2 : Hid (acc2.length ≤ 500) := by unfold Hid; omega
                      clear HR5 HR6 hf
                      go_wp2
                      go_roundw
                      case rel => exact ⟨r.extract E2 r.size, acc2, rfl, by rw [ByteArray.size_extract]; omega, HO3.out, HA2.out, HOK2.out, by rw [HR.out, HXR.out], HT3.out, HB3.out⟩
                      case measure => show (r.extract E2 r.size).size < r.size; rw [ByteArray.size_extract]; have := HQ20.out; omega
                · have HR := hidM (HFN.out hm)
                  subst hm0
                  clear hm HFN HFR HMORE HFULL HFO HMT
                  go_wp2
                  go_ret2
                  refine ⟨⟨_, by rw [HR.out]; rfl, ?_⟩, HW.out⟩
                  rw [HR.out]
                  exact World.ownsRow_nil _ _ _ _
end Go.Proofs.YtccohagdfpcplaaDoor
