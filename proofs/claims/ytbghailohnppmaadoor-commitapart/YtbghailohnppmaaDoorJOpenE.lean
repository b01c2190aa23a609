/-
  A commit that was handed in: its message is within reach.
  Walks of the laws of commit: CommitMessages.
  Walks of the document's words on commits: Check.
  Walks of the document's words on commits: Text.
  Walks of the document's words on commits: Same.
  Walks of the laws of commit: CommitFormats.
  Walks of commit: CheckTag.
  Walks of commit: FormatTag.
  Walks of commit: ParseTag of what is no tag from its first line on.
  Walks of the laws of commit: CommitApart.
  The sixth table, object.names, out of the rows' condition; a tag that was handed in, opened.
-/
import Derived.Test.YtbghailohnppmaaDoorOpenC
import Derived.Test.YtbghailohnppmaaDoorJComL
namespace Go.Proofs.YtbghailohnppmaaDoor
open Go.ChangeShapes Go.WideShapes Go.ChangeAt Go.WideMaps Go.WideElems Go.RowKit

theorem change_reach {H : Type} {ts : List TypeId} {ds : List (DataW H)} {j : Nat} {d d0 d1 d2 d3 : DataW H} {m : ByteArray}
    (hw : (DataW.weightsEach Tryd.prog ts ds).all (· ≤ reachBytes) = true) (htj : ts[j]? = some 26) (hdj : ds[j]? = some d) (hd : d = .agg [d0, d1, d2, d3, .lit (.string m.data.toList)]) : m.size ≤ 140737488351232 := by
  have h1 : m.size ∈ d.weights Tryd.prog 26 := by
    rw [hd, Lib.size_eq]
    simp only [DataW.weights, Tryd.underlying26, DataW.weightsEach, List.map_cons, List.map_nil]
    simp
  have := List.all_eq_true.1 hw _ (DataW.weights_mem_each htj hdj _ h1)
  unfold reachBytes at this
  have := of_decide_eq_true this
  omega
end Go.Proofs.YtbghailohnppmaaDoor
namespace Go.Proofs.YtbghailohnppmaaDoor
open Go.RowKit

theorem CBox.nine {w : World} {g : Nat} {t : ByteArray} {pv : Value} {awho cwho m : ByteArray} {at_ az ct cz : Int} (h : CBox w g t pv ⟨awho, at_, az⟩ ⟨cwho, ct, cz⟩ m) :
    w.cell? ⟨g, 0, none⟩ = some (.string t) ∧ w.cell? ⟨g, 1, none⟩ = some pv ∧ w.cell? ⟨g, 2, none⟩ = some (.string awho) ∧ w.cell? ⟨g, 3, none⟩ = some (.int .i64 at_) ∧ w.cell? ⟨g, 4, none⟩ = some (.int .i64 az) ∧ w.cell? ⟨g, 5, none⟩ = some (.string cwho) ∧ w.cell? ⟨g, 6, none⟩ = some (.int .i64 ct) ∧ w.cell? ⟨g, 7, none⟩ = some (.int .i64 cz) ∧ w.cell? ⟨g, 8, none⟩ = some (.string m) :=
  ⟨h.cell 0 rfl, h.cell 1 rfl, h.cell 2 rfl, h.cell 3 rfl, h.cell 4 rfl, h.cell 5 rfl, h.cell 6 rfl, h.cell 7 rfl, h.cell 8 rfl⟩
def headL (t : ByteArray) (ps : List ByteArray) (a c : Sb) : List UInt8 := wTree ++ t.data.toList ++ 10 :: (parsT (ps.map fun p => p.data.toList) ++ (wAuthor ++ sgL (sgOf a) ++ 10 :: (wCommitter ++ sgL (sgOf c))))
theorem text_head (t : ByteArray) (ps : List ByteArray) (a c : Sb) (m : ByteArray) : (textB t ps a c m).data.toList = headL t ps a c ++ [10, 10] ++ m.data.toList := by
  simp only [textB, textL, cmOf, headL]
  simp
theorem pars_len {l : List (List UInt8)} (h : ∀ p ∈ l, p.length = 40) (h16 : l.length ≤ 16) : (parsT l).length ≤ 768 := by
  have : (parsT l).length = 48 * l.length := by
    clear h16
    induction l with
    | nil => rfl
    | cons p r ih =>
      have := ih (fun q hq => h q (List.mem_cons_of_mem _ hq))
      have hp := h p (by simp)
      simp only [parsT, List.flatMap_cons, List.length_append, List.length_cons, List.length_nil] at this ⊢
      rw [this, hp]
      show wParent.length + 40 + 1 + _ = _
      rw [show wParent.length = 7 from rfl]
      omega
  omega
theorem text_size {t : ByteArray} {ps : List ByteArray} {a c : Sb} (m : ByteArray) (h : checkE t ps a c = 0) : (textB t ps a c m).size ≤ m.size + 2000 := by
  obtain ⟨h1, h2, h3, h4, h5⟩ := check_zero h
  have s1 := sgB_size a h4
  have s2 := sgB_size c h5
  have s3 := id_size h3
  rw [← sl_len, sgB_list] at s1 s2
  have s4 := pars_len (l := ps.map fun p => p.data.toList) (by
    intro p hp
    obtain ⟨q, hq, rfl⟩ := List.mem_map.1 hp
    rw [sl_len, id_size (h2 q hq)]) (by simpa using h1)
  rw [← sl_len] at s3
  rw [← sl_len, ← sl_len m, text_head, headL]
  simp only [List.length_append, List.length_cons, List.length_nil]
  rw [show wTree.length = 5 from rfl, show wAuthor.length = 7 from rfl, show wCommitter.length = 10 from rfl]
  omega
theorem strso_below {w w' : World} {v : Value} {l : List ByteArray} (h : StrsO w v l) (hb : Below w.heap.size w w') : StrsO w' v l := by
  rcases h with h | h | ⟨b, off, cap, h1, h2, h3, h4⟩
  · exact .inl h
  · exact .inr (.inl h)
  · exact .inr (.inr ⟨b, off, cap, h1, Nat.lt_of_lt_of_le h2 hb.size, h3, fun j hj => (hb.cell (p := ⟨b, off + j, none⟩) h2).trans (h4 j hj)⟩)
end Go.Proofs.YtbghailohnppmaaDoor
namespace Go.Proofs.YtbghailohnppmaaDoor
open Go.RowKit

end Go.Proofs.YtbghailohnppmaaDoor
namespace Go.Proofs.YtbghailohnppmaaDoor
open Go.RowKit

/-- the argument's box, while the text grows -/
structure TxX (w : World) (g : Nat) (t : ByteArray) (pv : Value) (a c : Sb) (m : ByteArray) (V : World) : Prop where
  bel : Below w.heap.size w V
  box : CBox V g t pv a c m
  gt : GT V
theorem TxX.next {w V w' : World} {g : Nat} {t : ByteArray} {pv : Value} {a c : Sb} {m : ByteArray} (H : TxX w g t pv a c m V) (hb : Below V.heap.size V w') : TxX w g t pv a c m w' := ⟨H.bel.trans (hb.mono H.bel.size), H.box.below hb, H.gt.below hb⟩
theorem TxX.drew {w V : World} {g : Nat} {t : ByteArray} {pv : Value} {a c : Sb} {m : ByteArray} (H : Hid (TxX w g t pv a c m V)) : Hid (TxX w g t pv a c m V.drew) := H.out.next ((Below.refl _ V).trans ⟨rfl, rfl, rfl, Nat.le_refl _, fun _ _ => rfl⟩)
theorem TxX.drewN {w V : World} {g : Nat} {t : ByteArray} {pv : Value} {a c : Sb} {m : ByteArray} {n : Nat} (H : Hid (TxX w g t pv a c m V)) : Hid (TxX w g t pv a c m (V.drewN n)) := H.out.next (below_drewN (Below.refl _ _) n)
theorem TxX.full {w V : World} {g : Nat} {t : ByteArray} {pv : Value} {awho cwho m : ByteArray} {at_ az ct cz : Int} (H : TxX w g t pv ⟨awho, at_, az⟩ ⟨cwho, ct, cz⟩ m V) :
    V.cell? ⟨g, 2, none⟩ = some (.string awho) ∧ V.cell? ⟨g, 3, none⟩ = some (.int .i64 at_) ∧ V.cell? ⟨g, 4, none⟩ = some (.int .i64 az) ∧ V.cell? ⟨g, 5, none⟩ = some (.string cwho) ∧ V.cell? ⟨g, 6, none⟩ = some (.int .i64 ct) ∧ V.cell? ⟨g, 7, none⟩ = some (.int .i64 cz) ∧ V.cell? ⟨g, 8, none⟩ = some (.string m) ∧ Hid (TxX w g t pv ⟨awho, at_, az⟩ ⟨cwho, ct, cz⟩ m V) := by
  obtain ⟨_,_, k2, k3, k4, k5, k6, k7, k8⟩ := H.box.nine
  exact ⟨k2, k3, k4, k5, k6, k7, k8, H⟩
theorem TxX.call {w V : World} {f g : Nat} {t : ByteArray} {pv : Value} {awho cwho m : ByteArray} {at_ az ct cz : Int} {args : Array Value} {v : Value} (h : Calls Tryd.prog f args V fun x w' => x = .returned v ∧ Below V.heap.size V w') (H : Hid (TxX w g t pv ⟨awho, at_, az⟩ ⟨cwho, ct, cz⟩ m V)) :
    Calls Tryd.prog f args V fun x w' => x = .returned v ∧ (w'.cell? ⟨g, 2, none⟩ = some (.string awho) ∧ w'.cell? ⟨g, 3, none⟩ = some (.int .i64 at_) ∧ w'.cell? ⟨g, 4, none⟩ = some (.int .i64 az) ∧ w'.cell? ⟨g, 5, none⟩ = some (.string cwho) ∧ w'.cell? ⟨g, 6, none⟩ = some (.int .i64 ct) ∧ w'.cell? ⟨g, 7, none⟩ = some (.int .i64 cz) ∧ w'.cell? ⟨g, 8, none⟩ = some (.string m) ∧ Hid (TxX w g t pv ⟨awho, at_, az⟩ ⟨cwho, ct, cz⟩ m w')) :=
  h.mono fun _ _ ⟨hx, hb⟩ => ⟨hx, (H.out.next hb).full⟩
end Go.Proofs.YtbghailohnppmaaDoor
namespace Go.Proofs.YtbghailohnppmaaDoor
open Go.RowKit

noncomputable def sameC (t1 : ByteArray) (l1 : List ByteArray) (a1 c1 : Sb) (m1 t2 : ByteArray) (l2 : List ByteArray) (a2 c2 : Sb) (m2 : ByteArray) : Bool :=
  t1.toList == t2.toList && (sameB l1 l2 && (sbEq a1 a2 && (sbEq c1 c2 && m1.toList == m2.toList)))
theorem sameC_iff {t1 : ByteArray} {l1 : List ByteArray} {a1 c1 : Sb} {m1 t2 : ByteArray} {l2 : List ByteArray} {a2 c2 : Sb} {m2 : ByteArray} :
    sameC t1 l1 a1 c1 m1 t2 l2 a2 c2 m2 = true ↔ t1 = t2 ∧ l1 = l2 ∧ a1 = a2 ∧ c1 = c2 ∧ m1 = m2 := by
  unfold sameC
  simp only [sameB, bytesEq, Bool.and_eq_true, decide_eq_true_eq, sbEq_iff]
theorem StrsV.sl {w : World} {v : Value} {l : List ByteArray} (h : StrsV w v l) : ∃ a n c, v = .slice a n c := by
  obtain ⟨a, c, h, _⟩ := h
  exact ⟨a, _, c, h⟩
set_option maxHeartbeats 2000000 in
set_option maxRecDepth 100000 in
theorem same16_any (t1 : ByteArray) (v1 : Value) (l1 : List ByteArray) (a1 c1 : Sb) (m1 t2 : ByteArray) (v2 : Value) (l2 : List ByteArray) (a2 c2 : Sb) (m2 : ByteArray) (w : World) (h1 : StrsV w v1 l1) (h2 : StrsV w v2 l2) (hl : l1.length ≤ 1000000) :
    Calls Tryd.prog 16 #[.agg (c26 t1 v1 a1 c1 m1), .agg (c26 t2 v2 a2 c2 m2)] w fun e w' => e = .returned (.bool (sameC t1 l1 a1 c1 m1 t2 l2 a2 c2 m2)) ∧ Below w.heap.size w w' := by
  have HSM := hidM (fun V (hV : Below w.heap.size w V) => same_any v1 v2 l1 l2 V (h1.below hV) (h2.below hV) hl)
  have hga := fun V => equal24 a1 a2 V
  have hgc := fun V => equal24 c1 c2 V
  have hgd := guard24
  have HR : Hid (sameC t1 l1 a1 c1 m1 t2 l2 a2 c2 m2 = (t1.toList == t2.toList && (sameB l1 l2 && (sbEq a1 a2 && (sbEq c1 c2 && m1.toList == m2.toList))))) := rfl
  generalize sameC t1 l1 a1 c1 m1 t2 l2 a2 c2 m2 = R at *
  generalize sbEq a1 a2 = ba at *
  generalize sbEq c1 c2 = bc at *
  obtain ⟨x1, y1, z1, rfl⟩ := h1.sl
  obtain ⟨x2, y2, z2, rfl⟩ := h2.sl
  generalize sameB l1 l2 = bl at *
  obtain ⟨bt, hbt⟩ : ∃ b, (t1.toList == t2.toList) = b := ⟨_, rfl⟩
  obtain ⟨bm, hbm⟩ : ∃ b, (m1.toList == m2.toList) = b := ⟨_, rfl⟩
  rw [hbt, hbm] at HR
  have hb1 : Below w.heap.size w (w.alloc (.cells (c26 t1 (.slice x1 y1 z1) a1 c1 m1) 26)) := (Below.refl _ w).alloc (Nat.le_refl _) _
  have hc1 : CBox (w.alloc (.cells (c26 t1 (.slice x1 y1 z1) a1 c1 m1) 26)) w.heap.size t1 (.slice x1 y1 z1) a1 c1 m1 := heap_alloc_new w _
  have hs1 : (w.alloc (.cells (c26 t1 (.slice x1 y1 z1) a1 c1 m1) 26)).heap.size = w.heap.size + 1 := World.size_alloc _ _
  have HB : Hid (Below w.heap.size w ((w.alloc (.cells (c26 t1 (.slice x1 y1 z1) a1 c1 m1) 26)).alloc (.cells (c26 t2 (.slice x2 y2 z2) a2 c2 m2) 26))) := hb1.alloc (by omega) _
  have HC1 : Hid (CBox ((w.alloc (.cells (c26 t1 (.slice x1 y1 z1) a1 c1 m1) 26)).alloc (.cells (c26 t2 (.slice x2 y2 z2) a2 c2 m2) 26)) w.heap.size t1 (.slice x1 y1 z1) a1 c1 m1) := heap_alloc2_old w _ _
  have HC2 : Hid (CBox ((w.alloc (.cells (c26 t1 (.slice x1 y1 z1) a1 c1 m1) 26)).alloc (.cells (c26 t2 (.slice x2 y2 z2) a2 c2 m2) 26)) (w.heap.size + 1) t2 (.slice x2 y2 z2) a2 c2 m2) := heap_alloc2_new w _ _
  clear hb1 hc1 hs1 h1 h2 hl
  obtain ⟨aw1, at1, az1⟩ := a1
  obtain ⟨cw1, ct1, cz1⟩ := c1
  obtain ⟨aw2, at2, az2⟩ := a2
  obtain ⟨cw2, ct2, cz2⟩ := c2
  unfold sbV at hga hgc
  simp only [c26] at HB HC1 HC2 HSM hga hgc ⊢
  go_enter Tryd.func16, Tryd.ntmps16
  go_upto_region 1 with fail
  generalize (w.alloc (.cells #[.string t1, .slice x1 y1 z1, .string aw1, .int .i64 at1, .int .i64 az1, .string cw1, .int .i64 ct1, .int .i64 cz1, .string m1] 26)).alloc (.cells #[.string t2, .slice x2 y2 z2, .string aw2, .int .i64 at2, .int .i64 az2, .string cw2, .int .i64 ct2, .int .i64 cz2, .string m2] 26) = W at *
  obtain ⟨g, hg⟩ : ∃ X, w.heap.size = X := ⟨_, rfl⟩
  rw [hg] at HC1 HC2 ⊢
  obtain ⟨p0, p1, _⟩ := HC1.out.nine
  obtain ⟨q0, q1, _⟩ := HC2.out.nine
  cases bt with
  | false =>
    have HR2 : Hid (R = false) := by unfold Hid; rw [HR.out]; rfl
    clear HR
    go_wp2
    go_ret
    exact ⟨by rw [HR2.out]; rfl, HB.out⟩
  | true =>
    cases bl with
    | false =>
      have HR2 : Hid (R = false) := by unfold Hid; rw [HR.out]; rfl
      clear HR
      go_wp2_with fail
      refine (HSM.out _ HB.out).mono ?_
      rintro _ w3 ⟨rfl, hw3⟩
      have HB3 := hidM (HB.out.trans (hw3.mono HB.out.size))
      clear hw3
      go_wp2
      go_ret
      exact ⟨by rw [HR2.out]; rfl, HB3.out⟩
    | true =>
      go_wp2_with fail
      refine (HSM.out _ HB.out).mono ?_
      rintro _ w3 ⟨rfl, hw3⟩
      have HB3 := hidM (HB.out.trans (hw3.mono HB.out.size))
      have HD1 := hidM (HC1.out.below hw3)
      have HD2 := hidM (HC2.out.below hw3)
      clear hw3 p0 p1 q0 q1
      obtain ⟨_,_, p2, p3, p4, p5, p6, p7, p8⟩ := HD1.out.nine
      obtain ⟨_,_, q2, q3, q4, q5, q6, q7, q8⟩ := HD2.out.nine
      cases ba with
      | false =>
        have HR2 : Hid (R = false) := by unfold Hid; rw [HR.out]; rfl
        clear HR
        go_wp2
        go_ret
        exact ⟨by rw [HR2.out]; rfl, HB3.out⟩
      | true =>
        cases bc with
        | false =>
          have HR2 : Hid (R = false) := by unfold Hid; rw [HR.out]; rfl
          clear HR
          go_wp2
          go_ret
          exact ⟨by rw [HR2.out]; rfl, HB3.out⟩
        | true =>
          have HR2 : Hid (R = bm) := by unfold Hid; rw [HR.out]; rfl
          clear HR
          go_wp2
          go_ret
          exact ⟨by rw [HR2.out]; rfl, HB3.out⟩
end Go.Proofs.YtbghailohnppmaaDoor
namespace Go.Proofs.YtbghailohnppmaaDoor
open Go.RowKit

/-- the law's two boxes: the commit, and what few made of it -/
structure FX (w : World) (g h : Nat) (t : ByteArray) (pv qv : Value) (us : List ByteArray) (a c : Sb) (m : ByteArray) (V : World) : Prop where
  bel : Below w.heap.size w V
  cb : CBox V g t pv a c m
  ib : CBox V h t qv a c m
  s : StrsV V qv us
  gt : GT V
theorem FX.next {w V w' : World} {g h : Nat} {t : ByteArray} {pv qv : Value} {us : List ByteArray} {a c : Sb} {m : ByteArray} (H : FX w g h t pv qv us a c m V) (hb : Below V.heap.size V w') : FX w g h t pv qv us a c m w' := ⟨H.bel.trans (hb.mono H.bel.size), H.cb.below hb, H.ib.below hb, H.s.below hb, H.gt.below hb⟩
theorem FX.drew {w V : World} {g h : Nat} {t : ByteArray} {pv qv : Value} {us : List ByteArray} {a c : Sb} {m : ByteArray} (H : Hid (FX w g h t pv qv us a c m V)) : Hid (FX w g h t pv qv us a c m V.drew) := H.out.next ((Below.refl _ V).trans ⟨rfl, rfl, rfl, Nat.le_refl _, fun _ _ => rfl⟩)
theorem FX.drewN {w V : World} {g h : Nat} {t : ByteArray} {pv qv : Value} {us : List ByteArray} {a c : Sb} {m : ByteArray} {n : Nat} (H : Hid (FX w g h t pv qv us a c m V)) : Hid (FX w g h t pv qv us a c m (V.drewN n)) := H.out.next (below_drewN (Below.refl _ _) n)
theorem strs_drew {V : World} {v : Value} {l : List ByteArray} (H : Hid (StrsV V v l)) : Hid (StrsV V.drew v l) := H.out.below ((Below.refl _ V).trans ⟨rfl, rfl, rfl, Nat.le_refl _, fun _ _ => rfl⟩)
theorem strs_drewN {V : World} {v : Value} {l : List ByteArray} {n : Nat} (H : Hid (StrsV V v l)) : Hid (StrsV (V.drewN n) v l) := H.out.below (below_drewN (Below.refl _ _) n)
theorem FX.full {w V : World} {g h : Nat} {t : ByteArray} {pv qv : Value} {us : List ByteArray} {awho cwho m : ByteArray} {at_ az ct cz : Int} (H : FX w g h t pv qv us ⟨awho, at_, az⟩ ⟨cwho, ct, cz⟩ m V) :
    V.cell? ⟨g, 0, none⟩ = some (.string t) ∧ V.cell? ⟨g, 1, none⟩ = some (pv) ∧ V.cell? ⟨g, 2, none⟩ = some (.string awho) ∧ V.cell? ⟨g, 3, none⟩ = some (.int .i64 at_) ∧ V.cell? ⟨g, 4, none⟩ = some (.int .i64 az) ∧ V.cell? ⟨g, 5, none⟩ = some (.string cwho) ∧ V.cell? ⟨g, 6, none⟩ = some (.int .i64 ct) ∧ V.cell? ⟨g, 7, none⟩ = some (.int .i64 cz) ∧ V.cell? ⟨g, 8, none⟩ = some (.string m) ∧ V.cell? ⟨h, 0, none⟩ = some (.string t) ∧ V.cell? ⟨h, 1, none⟩ = some (qv) ∧ V.cell? ⟨h, 2, none⟩ = some (.string awho) ∧ V.cell? ⟨h, 3, none⟩ = some (.int .i64 at_) ∧ V.cell? ⟨h, 4, none⟩ = some (.int .i64 az) ∧ V.cell? ⟨h, 5, none⟩ = some (.string cwho) ∧ V.cell? ⟨h, 6, none⟩ = some (.int .i64 ct) ∧ V.cell? ⟨h, 7, none⟩ = some (.int .i64 cz) ∧ V.cell? ⟨h, 8, none⟩ = some (.string m) ∧ Hid (FX w g h t (pv) (qv) us ⟨awho, at_, az⟩ ⟨cwho, ct, cz⟩ m V) := by
  obtain ⟨k0, k1, k2, k3, k4, k5, k6, k7, k8⟩ := H.cb.nine
  obtain ⟨i0, i1, i2, i3, i4, i5, i6, i7, i8⟩ := H.ib.nine
  exact ⟨k0, k1, k2, k3, k4, k5, k6, k7, k8, i0, i1, i2, i3, i4, i5, i6, i7, i8, H⟩
theorem FX.call {w V : World} {f g h : Nat} {t : ByteArray} {pv qv : Value} {us : List ByteArray} {awho cwho m : ByteArray} {at_ az ct cz : Int} {args : Array Value} {v : Value} (h1 : Calls Tryd.prog f args V fun x w' => x = .returned v ∧ Below V.heap.size V w') (H : Hid (FX w g h t pv qv us ⟨awho, at_, az⟩ ⟨cwho, ct, cz⟩ m V)) :
    Calls Tryd.prog f args V fun x V' => x = .returned v ∧ (V'.cell? ⟨g, 0, none⟩ = some (.string t) ∧ V'.cell? ⟨g, 1, none⟩ = some (pv) ∧ V'.cell? ⟨g, 2, none⟩ = some (.string awho) ∧ V'.cell? ⟨g, 3, none⟩ = some (.int .i64 at_) ∧ V'.cell? ⟨g, 4, none⟩ = some (.int .i64 az) ∧ V'.cell? ⟨g, 5, none⟩ = some (.string cwho) ∧ V'.cell? ⟨g, 6, none⟩ = some (.int .i64 ct) ∧ V'.cell? ⟨g, 7, none⟩ = some (.int .i64 cz) ∧ V'.cell? ⟨g, 8, none⟩ = some (.string m) ∧ V'.cell? ⟨h, 0, none⟩ = some (.string t) ∧ V'.cell? ⟨h, 1, none⟩ = some (qv) ∧ V'.cell? ⟨h, 2, none⟩ = some (.string awho) ∧ V'.cell? ⟨h, 3, none⟩ = some (.int .i64 at_) ∧ V'.cell? ⟨h, 4, none⟩ = some (.int .i64 az) ∧ V'.cell? ⟨h, 5, none⟩ = some (.string cwho) ∧ V'.cell? ⟨h, 6, none⟩ = some (.int .i64 ct) ∧ V'.cell? ⟨h, 7, none⟩ = some (.int .i64 cz) ∧ V'.cell? ⟨h, 8, none⟩ = some (.string m) ∧ Hid (FX w g h t (pv) (qv) us ⟨awho, at_, az⟩ ⟨cwho, ct, cz⟩ m V')) :=
  h1.mono fun _ _ ⟨hx, hb⟩ => ⟨hx, (H.out.next hb).full⟩
theorem FX.few {w V : World} {g h : Nat} {t : ByteArray} {pv qv : Value} {us : List ByteArray} {awho cwho m : ByteArray} {at_ az ct cz : Int} {args : Array Value} (h1 : Calls Tryd.prog 9 args V fun e w' => ∃ pv, e = .returned (.agg (c26 t pv ⟨awho, at_, az⟩ ⟨cwho, ct, cz⟩ m)) ∧ OwnS w' V.heap.size pv us ∧ Below V.heap.size V w') (H : Hid (FX w g h t pv qv us ⟨awho, at_, az⟩ ⟨cwho, ct, cz⟩ m V)) :
    Calls Tryd.prog 9 args V fun x V' => ∃ ta tn tc, x = .returned (.agg (c26 t (.slice ta tn tc) ⟨awho, at_, az⟩ ⟨cwho, ct, cz⟩ m)) ∧ (V'.cell? ⟨g, 0, none⟩ = some (.string t) ∧ V'.cell? ⟨g, 1, none⟩ = some (pv) ∧ V'.cell? ⟨g, 2, none⟩ = some (.string awho) ∧ V'.cell? ⟨g, 3, none⟩ = some (.int .i64 at_) ∧ V'.cell? ⟨g, 4, none⟩ = some (.int .i64 az) ∧ V'.cell? ⟨g, 5, none⟩ = some (.string cwho) ∧ V'.cell? ⟨g, 6, none⟩ = some (.int .i64 ct) ∧ V'.cell? ⟨g, 7, none⟩ = some (.int .i64 cz) ∧ V'.cell? ⟨g, 8, none⟩ = some (.string m) ∧ V'.cell? ⟨h, 0, none⟩ = some (.string t) ∧ V'.cell? ⟨h, 1, none⟩ = some (qv) ∧ V'.cell? ⟨h, 2, none⟩ = some (.string awho) ∧ V'.cell? ⟨h, 3, none⟩ = some (.int .i64 at_) ∧ V'.cell? ⟨h, 4, none⟩ = some (.int .i64 az) ∧ V'.cell? ⟨h, 5, none⟩ = some (.string cwho) ∧ V'.cell? ⟨h, 6, none⟩ = some (.int .i64 ct) ∧ V'.cell? ⟨h, 7, none⟩ = some (.int .i64 cz) ∧ V'.cell? ⟨h, 8, none⟩ = some (.string m) ∧ Hid (FX w g h t (pv) (qv) us ⟨awho, at_, az⟩ ⟨cwho, ct, cz⟩ m V')) ∧ Hid (StrsV V' (.slice ta tn tc) us) :=
  h1.mono fun _ _ ⟨pv, hx, ho, hb⟩ => by
    obtain ⟨ta, tn, tc, hpv⟩ := ho.slice
    subst hpv
    exact ⟨ta, tn, tc, hx, (H.out.next hb).full, ho.strs⟩
end Go.Proofs.YtbghailohnppmaaDoor
namespace Go.Proofs.YtbghailohnppmaaDoor
open Go.RowKit

/-- a tag's cells, in a row -/
def c43 (o : ByteArray) (k : Int) (n : ByteArray) (s : Sb) (m : ByteArray) : Array Value := #[.string o, .int .i64 k, .string n, .string s.who, .int .i64 s.time, .int .i64 s.zone, .string m]
def LBox (w : World) (g : Nat) (o : ByteArray) (k : Int) (n : ByteArray) (s : Sb) (m : ByteArray) : Prop := w.heap[g]? = some (.cells (c43 o k n s m) 43 (0, 0))
theorem LBox.cell {w : World} {g : Nat} {o : ByteArray} {k : Int} {n : ByteArray} {s : Sb} {m : ByteArray} (h : LBox w g o k n s m) (i : Nat) {v : Value} (hv : (c43 o k n s m)[i]? = some v) : w.cell? ⟨g, i, none⟩ = some v := by
  rw [cell_of_row w g _ _ 43 (0, 0) h]; exact hv
theorem LBox.below {w w' : World} {g : Nat} {o : ByteArray} {k : Int} {n : ByteArray} {s : Sb} {m : ByteArray} (h : LBox w g o k n s m) (hb : Below w.heap.size w w') : LBox w' g o k n s m := box_bel h hb
theorem LBox.seven {w : World} {g : Nat} {o n who m : ByteArray} {k t z : Int} (h : LBox w g o k n ⟨who, t, z⟩ m) :
    w.cell? ⟨g, 0, none⟩ = some (.string o) ∧ w.cell? ⟨g, 1, none⟩ = some (.int .i64 k) ∧ w.cell? ⟨g, 2, none⟩ = some (.string n) ∧ w.cell? ⟨g, 3, none⟩ = some (.string who) ∧ w.cell? ⟨g, 4, none⟩ = some (.int .i64 t) ∧ w.cell? ⟨g, 5, none⟩ = some (.int .i64 z) ∧ w.cell? ⟨g, 6, none⟩ = some (.string m) :=
  ⟨h.cell 0 rfl, h.cell 1 rfl, h.cell 2 rfl, h.cell 3 rfl, h.cell 4 rfl, h.cell 5 rfl, h.cell 6 rfl⟩
def tagG (o : ByteArray) (k : Int) (n : ByteArray) (s : Sb) : Bool := idB o.data.toList && (!(nameL k).isEmpty && (lineB n.data.toList && signedG (sgOf s)))
def checkT (o : ByteArray) (k : Int) (n : ByteArray) (s : Sb) : Nat := if tagG o k n s then 0 else 4
theorem name_empty (l : List UInt8) : (⟨l.toArray⟩ : ByteArray).toList.isEmpty = l.isEmpty := by
  rw [ByteArray.toList_eq]
set_option maxHeartbeats 2000000 in
set_option maxRecDepth 100000 in
theorem ctag_any (o : ByteArray) (k : Int) (n : ByteArray) (s : Sb) (m : ByteArray) (w : World) (hN : NamesAt w) (ho : o.size ≤ maxLen) :
    Calls Tryd.prog 24 #[.agg (c43 o k n s m)] w fun e w' => e = .returned (.int .i64 (checkT o k n s : Nat)) ∧ Below w.heap.size w w' := by
  have HI := hidM (fun V => id_any o V ho)
  have HM := hidM (fun V hV => name_any k V hV)
  have HL := hidM (fun V => line_any n V)
  have HS := hidM (fun V => signed_any s V)
  have hem := name_empty (nameL k)
  have HR : Hid (checkT o k n s = if idB o.data.toList && (!(nameL k).isEmpty && (lineB n.data.toList && signedG (sgOf s))) then 0 else 4) := rfl
  generalize checkT o k n s = R at *
  generalize (⟨(nameL k).toArray⟩ : ByteArray) = NM at *
  generalize idB o.data.toList = bi at *
  generalize (nameL k).isEmpty = bm at *
  generalize lineB n.data.toList = bl at *
  generalize signedG (sgOf s) = bs at *
  have HB : Hid (Below w.heap.size w (w.alloc (.cells (c43 o k n s m) 43))) := (Below.refl _ w).alloc (Nat.le_refl _) _
  have HC : Hid (LBox (w.alloc (.cells (c43 o k n s m) 43)) w.heap.size o k n s m) := heap_alloc_new w _
  have HN := hidM (hN.below HB.out)
  clear hN
  obtain ⟨who, t, z⟩ := s
  unfold sbV at HS
  simp only [c43] at HB HC HN HS ⊢
  go_enter Tryd.func24, Tryd.ntmps24
  go_upto_region 1 with fail
  generalize w.alloc (.cells #[.string o, .int .i64 k, .string n, .string who, .int .i64 t, .int .i64 z, .string m] 43) = W at *
  obtain ⟨g, hg⟩ : ∃ X, w.heap.size = X := ⟨_, rfl⟩
  rw [hg] at HC ⊢
  obtain ⟨k0, k1, k2, k3, k4, k5, k6⟩ := HC.out.seven
  go_wp2_with fail
  refine (HI.out _).mono ?_
  rintro _ w3 ⟨rfl, hw3⟩
  rw [hw3]
  clear hw3
  cases bi with
  | false =>
    have HR2 : Hid (R = 4) := by unfold Hid; rw [HR.out]; rfl
    clear HR
    go_wp2
    go_ret
    exact ⟨by rw [HR2.out]; rfl, HB.out⟩
  | true =>
    go_wp2_with fail
    refine (HM.out _ HN.out).mono ?_
    rintro _ w4 ⟨rfl, hw4⟩
    rw [hw4]
    clear hw4
    cases bm with
    | true =>
      have hx : NM.toList = [] := by simpa using hem
      have HR2 : Hid (R = 4) := by unfold Hid; rw [HR.out]; rfl
      clear HR
      go_wp2
      go_ret
      exact ⟨by rw [HR2.out]; rfl, HB.out⟩
    | false =>
      have hx : ¬ NM.toList = [] := by simpa using hem
      go_wp2_with fail
      refine (HL.out _).mono ?_
      rintro _ w5 ⟨rfl, hw5⟩
      rw [hw5]
      clear hw5
      cases bl with
      | false =>
        have HR2 : Hid (R = 4) := by unfold Hid; rw [HR.out]; rfl
        clear HR
        go_wp2
        go_ret
        exact ⟨by rw [HR2.out]; rfl, HB.out⟩
      | true =>
        go_wp2_with fail
        refine (HS.out _).mono ?_
        rintro _ w6 ⟨rfl, hb6⟩
        have HB6 := hidM (HB.out.trans (hb6.mono HB.out.size))
        clear hb6
        cases bs with
        | false =>
          have HR2 : Hid (R = 4) := by unfold Hid; rw [HR.out]; rfl
          clear HR
          go_wp2
          go_ret
          exact ⟨by rw [HR2.out]; rfl, HB6.out⟩
        | true =>
          have HR2 : Hid (R = 0) := by unfold Hid; rw [HR.out]; rfl
          clear HR
          go_wp2
          go_ret
          exact ⟨by rw [HR2.out]; rfl, HB6.out⟩
end Go.Proofs.YtbghailohnppmaaDoor
namespace Go.Proofs.YtbghailohnppmaaDoor
open Go.RowKit

theorem tag_zero {o : ByteArray} {k : Int} {n : ByteArray} {s : Sb} (h : checkT o k n s = 0) : idB o.data.toList = true ∧ (nameL k).isEmpty = false ∧ lineB n.data.toList = true ∧ signedG (sgOf s) = true := by
  unfold checkT at h
  split at h
  · rename_i hg
    unfold tagG at hg
    simp only [Bool.and_eq_true, Bool.not_eq_true'] at hg
    exact ⟨hg.1, hg.2.1, hg.2.2.1, hg.2.2.2⟩
  · cases h
theorem nm_six (i : Nat) : (nm i).length ≤ 6 := by unfold nm; split <;> decide
theorem nameL_six (k : Int) : (nameL k).length ≤ 6 := by unfold nameL; split; exact nm_six _; decide
theorem lineB_size {n : ByteArray} (h : lineB n.data.toList = true) : n.size ≤ 100 := by
  unfold lineB at h
  simp only [Bool.and_eq_true, decide_eq_true_eq] at h
  have := h.1.1.2
  rw [sl_len] at this
  exact this
def lbOf (o : ByteArray) (k : Int) (n : ByteArray) (s : Sb) (m : ByteArray) : Lb := ⟨o.data.toList, nameL k, n.data.toList, sgOf s, m.data.toList⟩
def tagB (o : ByteArray) (k : Int) (n : ByteArray) (s : Sb) (m : ByteArray) : ByteArray := ⟨(tagL (lbOf o k n s m)).toArray⟩
set_option maxHeartbeats 4000000 in
set_option maxRecDepth 100000 in
theorem ftag_any (o : ByteArray) (k : Int) (n : ByteArray) (s : Sb) (m : ByteArray) (w : World) (hG : GT w) (hN : NamesAt w) (ho : o.size ≤ maxLen) (hm : m.size ≤ 140737488351232) :
    Calls Tryd.prog 20 #[.agg (c43 o k n s m)] w fun e w' => e = .returned (.tuple #[.string (if checkT o k n s = 0 then tagB o k n s m else ⟨#[]⟩), .int .i64 (checkT o k n s : Nat)]) ∧ Below w.heap.size w w' := by
  have HB0 : Hid (Below w.heap.size w (w.alloc (.cells (c43 o k n s m) 43))) := (Below.refl _ w).alloc (Nat.le_refl _) _
  have HC0 : Hid (LBox (w.alloc (.cells (c43 o k n s m) 43)) w.heap.size o k n s m) := heap_alloc_new w _
  have HCK := hidM (ctag_any o k n s m _ (hN.below HB0.out) ho)
  have HG := hidM hG
  have HN := hidM hN
  clear hG hN
  obtain ⟨E, hE⟩ : ∃ E, checkT o k n s = E := ⟨_, rfl⟩
  rw [hE] at HCK ⊢
  have HE := hidM hE
  clear hE
  cases E with
  | zero =>
    obtain ⟨hid, _, hln, hsg⟩ := tag_zero HE.out
    have e40 := id_size hid
    have en := lineB_size hln
    have sa := sgB_size s hsg
    have enm : (⟨(nameL k).toArray⟩ : ByteArray).size ≤ 6 := by rw [ba_size]; exact nameL_six k
    obtain ⟨a1, -, a2, a3, a4, a5⟩ := signed_facts hsg
    have HFA := hidM (fun V (hV : LaidAt V) => signature_any s V hV (by omega) (by omega) (by omega) (by omega))
    have HNM := hidM (fun V hV => name_any k V hV)
    have HTX : Hid ((tagB o k n s m).data.toList = wObject ++ o.data.toList ++ 10 :: (wType ++ (⟨(nameL k).toArray⟩ : ByteArray).data.toList ++ 10 :: (wTag ++ n.data.toList ++ 10 :: (wTagger ++ (sgB s).data.toList ++ 10 :: 10 :: m.data.toList)))) := rfl
    rw [if_pos rfl]
    generalize tagB o k n s m = TX at *
    generalize (⟨(nameL k).toArray⟩ : ByteArray) = NM at *
    generalize sgB s = SA at *
    clear a1 a2 a3 a4 a5 hid hln hsg HE
    obtain ⟨A1, hA1⟩ : ∃ Q, (⟨#[111, 98, 106, 101, 99, 116, 32]⟩ : ByteArray) ++ o = Q := ⟨_, rfl⟩
    have eA1 : A1.size ≤ 47 := by rw [← hA1, ByteArray.size_append]; show 7 + o.size ≤ 47; omega
    have nA1 : ¬ 9223372036854775807 < 7 + o.size := by omega
    obtain ⟨A2, hA2⟩ : ∃ Q, A1 ++ (⟨#[10]⟩ : ByteArray) = Q := ⟨_, rfl⟩
    obtain ⟨lA, sA⟩ := join3 hA1 hA2
    have eA2 : A2.size ≤ 48 := by rw [sA]; show 7 + o.size + 1 ≤ 48; omega
    have nA2 : ¬ 9223372036854775807 < A1.size + 1 := by omega
    have HLA := hidM lA
    clear lA sA
    obtain ⟨B1, hB1⟩ : ∃ Q, (⟨#[116, 121, 112, 101, 32]⟩ : ByteArray) ++ NM = Q := ⟨_, rfl⟩
    have eB1 : B1.size ≤ 11 := by rw [← hB1, ByteArray.size_append]; show 5 + NM.size ≤ 11; omega
    have nB1 : ¬ 9223372036854775807 < 5 + NM.size := by omega
    obtain ⟨B2, hB2⟩ : ∃ Q, B1 ++ (⟨#[10]⟩ : ByteArray) = Q := ⟨_, rfl⟩
    obtain ⟨lB, sB⟩ := join3 hB1 hB2
    have eB2 : B2.size ≤ 12 := by rw [sB]; show 5 + NM.size + 1 ≤ 12; omega
    have nB2 : ¬ 9223372036854775807 < B1.size + 1 := by omega
    have HLB := hidM lB
    clear lB sB
    obtain ⟨C1, hC1⟩ : ∃ Q, (⟨#[116, 97, 103, 32]⟩ : ByteArray) ++ n = Q := ⟨_, rfl⟩
    have eC1 : C1.size ≤ 104 := by rw [← hC1, ByteArray.size_append]; show 4 + n.size ≤ 104; omega
    have nC1 : ¬ 9223372036854775807 < 4 + n.size := by omega
    obtain ⟨C2, hC2⟩ : ∃ Q, C1 ++ (⟨#[10]⟩ : ByteArray) = Q := ⟨_, rfl⟩
    obtain ⟨lC, sC⟩ := join3 hC1 hC2
    have eC2 : C2.size ≤ 105 := by rw [sC]; show 4 + n.size + 1 ≤ 105; omega
    have nC2 : ¬ 9223372036854775807 < C1.size + 1 := by omega
    have HLC := hidM lC
    clear lC sC
    obtain ⟨D1, hD1⟩ : ∃ Q, (⟨#[116, 97, 103, 103, 101, 114, 32]⟩ : ByteArray) ++ SA = Q := ⟨_, rfl⟩
    have eD1 : D1.size ≤ 137 := by rw [← hD1, ByteArray.size_append]; show 7 + SA.size ≤ 137; omega
    have nD1 : ¬ 9223372036854775807 < 7 + SA.size := by omega
    obtain ⟨D2, hD2⟩ : ∃ Q, D1 ++ (⟨#[10]⟩ : ByteArray) = Q := ⟨_, rfl⟩
    obtain ⟨lD, sD⟩ := join3 hD1 hD2
    have eD2 : D2.size ≤ 138 := by rw [sD]; show 7 + SA.size + 1 ≤ 138; omega
    have nD2 : ¬ 9223372036854775807 < D1.size + 1 := by omega
    have HLD := hidM lD
    clear lD sD
    obtain ⟨M1, hM1⟩ : ∃ Q, (⟨#[10]⟩ : ByteArray) ++ m = Q := ⟨_, rfl⟩
    have l7 : M1.data.toList = 10 :: m.data.toList := by rw [← hM1]; simp [ByteArray.data_append]
    have z1 : M1.size ≤ 140737488351233 := by rw [← hM1, ByteArray.size_append]; show 1 + m.size ≤ _; omega
    have n7 : ¬ 9223372036854775807 < 1 + m.size := by omega
    have HL7 := hidM l7
    clear l7
    obtain ⟨who, t, z⟩ := s
    unfold sbV at HFA
    simp only [c43] at HB0 HC0 HCK ⊢
    go_enter Tryd.func20, Tryd.ntmps20
    go_wp2_with fail
    refine HCK.out.mono ?_
    rintro _ w1 ⟨rfl, hb1⟩
    have HC1 := hidM (HC0.out.below hb1)
    have HB1 := hidM (HB0.out.trans (hb1.mono HB0.out.size))
    have HX0 : Hid (BuX w1 w1.heap.size [] (w1.alloc (.cells #[.pointer none, .slice none 0 0] 59))) := ⟨Lib.fresh_isBuilder 59 5 w1, (Below.refl _ w1).alloc (Nat.le_refl _) _, by rw [World.size_alloc]; omega⟩
    have HCW : Hid (∀ V, Below w1.heap.size w1 V → LBox V w.heap.size o k n ⟨who, t, z⟩ m) := fun V hV => HC1.out.below hV
    clear hb1 HCK HC0 HB0
    have hPA := put_any A2 HX0.out (by simp; omega)
    obtain ⟨c0, _⟩ := (HCW.out _ HX0.out.bel).seven
    have HPA := hidM hPA
    clear hPA
    go_wp2_with fail
    generalize w1.alloc (.cells #[.pointer none, .slice none 0 0] 59) = W1 at *
    generalize hBB : w1.heap.size = B at *
    have HBS : Hid (∀ V, Below B w1 V → Below w.heap.size w V) := fun V hV => HB1.out.trans (hV.mono (by rw [← hBB]; exact HB1.out.size))
    refine HPA.out.mono ?_
    rintro _ w2 ⟨rfl, hx2⟩
    have HX2 := hidM hx2
    rw [List.nil_append] at HX2
    clear hx2 c0 HPA HX0 hBB
    obtain ⟨_, c1, _⟩ := (HCW.out _ HX2.out.bel).seven
    have HPB := hidM (put_any B2 HX2.out (by rw [sl_len]; omega))
    go_wp2_with fail
    refine (HNM.out _ (HN.out.below (HBS.out _ HX2.out.bel))).mono ?_
    rintro _ w3 ⟨rfl, hw3⟩
    rw [hw3]
    clear hw3 w3
    go_wp2_with fail
    refine HPB.out.mono ?_
    rintro _ w3 ⟨rfl, hx3⟩
    have HX3 := hidM hx3
    clear hx3 c1 HPB HX2
    obtain ⟨_,_, c2, _⟩ := (HCW.out _ HX3.out.bel).seven
    have HPC := hidM (put_any C2 HX3.out (by rw [List.length_append, sl_len, sl_len]; omega))
    go_wp2_with fail
    refine HPC.out.mono ?_
    rintro _ w4 ⟨rfl, hx4⟩
    have HX4 := hidM hx4
    clear hx4 c2 HPC HX3
    obtain ⟨_,_,_, c3, c4, c5, _⟩ := (HCW.out _ HX4.out.bel).seven
    go_wp2_with fail
    refine (HFA.out _ (HG.out.below (HBS.out _ HX4.out.bel)).laid).mono ?_
    rintro _ w5 ⟨rfl, hb5⟩
    have HX5 := hidM (HX4.out.next hb5)
    clear hb5 c3 c4 c5 HX4
    have HPD := hidM (put_any D2 HX5.out (by simp only [List.length_append, sl_len]; omega))
    go_wp2_with fail
    refine HPD.out.mono ?_
    rintro _ w6 ⟨rfl, hx6⟩
    have HX6 := hidM hx6
    clear hx6 HPD HX5
    obtain ⟨_,_,_,_,_,_, c6⟩ := (HCW.out _ HX6.out.bel).seven
    have HPM := hidM (put_any M1 HX6.out (by simp only [List.length_append, sl_len]; omega))
    go_wp2_with fail
    refine HPM.out.mono ?_
    rintro _ w7 ⟨rfl, hx7⟩
    have HX7 := hidM hx7
    clear hx7 HPM HX6 c6
    have hfin : A2.data.toList ++ B2.data.toList ++ C2.data.toList ++ D2.data.toList ++ M1.data.toList = TX.data.toList := by
      rw [HTX.out, HLA.out, HLB.out, HLC.out, HLD.out, HL7.out]
      simp [wObject, wType, wTag, wTagger]
    have HST2 := hidM (Tryd.Builder_String_any B B _ w7 HX7.out.bu HX7.out.lt)
    rw [hfin] at HST2
    have hba : (⟨TX.data.toList.toArray⟩ : ByteArray) = TX := by cases TX; rfl
    rw [hba] at HST2
    clear hfin hba
    go_wp2_with fail
    refine HST2.out.mono ?_
    rintro _ w8 ⟨rfl, hb8⟩
    have HB8 := hidM (HBS.out _ (HX7.out.bel.trans hb8))
    clear hb8
    go_wp2
    go_ret2
    exact ⟨rfl, HB8.out⟩
  | succ j =>
    have hne : ((j + 1 : Nat) : Int) ≠ 0 := by omega
    rw [if_neg (by omega)]
    generalize ((j + 1 : Nat) : Int) = E at *
    have hb : (E != 0) = true := by simpa using hne
    simp only [c43] at HB0 HC0 HCK ⊢
    clear HE
    go_enter Tryd.func20, Tryd.ntmps20
    go_wp2_with fail
    refine HCK.out.mono ?_
    rintro _ w1 ⟨rfl, hb1⟩
    have HB1 := hidM (HB0.out.trans (hb1.mono HB0.out.size))
    clear hb1
    go_wp2
    go_ret2
    exact ⟨rfl, HB1.out⟩
end Go.Proofs.YtbghailohnppmaaDoor
namespace Go.Proofs.YtbghailohnppmaaDoor
open Go.RowKit

theorem text_no_object (c : Cm) : lineP wObject (textL c) = none := by
  cases e : lineP wObject (textL c) with
  | none => rfl
  | some x =>
    obtain ⟨x, r⟩ := x
    have := (lineP_some e).1
    simp [textL, wTree, wObject] at this
theorem nil_no_object : lineP wObject [] = none := rfl
def z43 : Array Value := #[.string ⟨#[]⟩, .int .i64 0, .string ⟨#[]⟩, .string ⟨#[]⟩, .int .i64 0, .int .i64 0, .string ⟨#[]⟩]
theorem size43 : (Tryd.prog.info? 43).map (·.size) = some 7 := by kernel_rfl
set_option maxRecDepth 20000 in
theorem label_first (b : Nat) (s : ByteArray) (w : World) (hR : RB w b s) (hs : s.size ≤ 281474976710656) (h : lineP wObject s.data.toList = none) :
    Calls Tryd.prog 46 #[.pointer (some ⟨b, 0, none⟩)] w fun e w' => e = gave ∧ But b w.heap.size w w' := by
  have h2 : Below w.heap.size w ((w.alloc (.cells z43 43)).alloc (.cells z43 43)) := ((Below.refl _ w).alloc (Nat.le_refl _) _).alloc (by simp) _
  have HL := hidM (line_no b s ⟨wObject.toArray⟩ _ (hR.below h2) hs h)
  have hw : (⟨wObject.toArray⟩ : ByteArray) = ⟨#[111, 98, 106, 101, 99, 116, 32]⟩ := rfl
  have HB := hidM (But.of_below (b := b) h2)
  rw [hw] at HL
  unfold z43 at HL HB
  unfold gave at HL ⊢
  clear h hw h2 hR
  go_enter Tryd.func46, Tryd.ntmps46
  go_wp2_with fail
  refine HL.out.mono ?_
  rintro _ w1 ⟨rfl, hb1⟩
  have HB1 := hidM (HB.out.trans (hb1.mono HB.out.size))
  clear hb1
  go_wp2
  exact ⟨rfl, rfl, HB1.out⟩
set_option maxRecDepth 20000 in
theorem parse2_no (C P b : Nat) (s : ByteArray) (W : World) (hP : W.heap[P]? = some (.cells #[.pointer (some ⟨b, 0, none⟩)] 68 (0, 0)))
    (hR : RB W b s) (hs : s.size ≤ 281474976710656) (h : lineP wObject s.data.toList = none) :
    Calls Tryd.prog 45 #[.pointer (some ⟨P, 0, none⟩), .pointer (some ⟨C, 0, none⟩)] W fun e w' => e = gave ∧ But b W.heap.size W w' := by
  have HC := hidM (label_first b s W hR hs h)
  have cp : W.cell? ⟨P, 0, none⟩ = some (.pointer (some ⟨b, 0, none⟩)) := by rw [cell_of_row W P _ _ 68 (0, 0) hP]; rfl
  unfold gave at HC
  clear h hP
  go_enter Tryd.func45, Tryd.ntmps45
  go_wp2_with fail
  refine HC.out.mono ?_
  rintro _ w1 ⟨rfl, hb1⟩
  have HB1 := hidM hb1
  clear hb1
  go_wp2
  exact ⟨rfl, rfl, HB1.out⟩
theorem enters45 : ∀ args w, (callFunc 45 args).run Tryd.prog w = .ok (.enter 45 args) w := enters_of Tryd.func45 (by kernel_rfl) rfl
theorem patt2_no (H : Nat) (s : ByteArray) (W : World) (hc : W.heap[H]? = some (.cells z43 43 (0, 0))) (hr : RB W (H + 1) s) (hp : W.heap[H + 2]? = some (.cells #[.pointer (some ⟨H + 1, 0, none⟩)] 68 (0, 0))) (hz : W.heap.size = H + 3) (hs : s.size ≤ 281474976710656) (h : lineP wObject s.data.toList = none) :
    Calls Tryd.prog 37 #[.func (.func 45) #[] #[.pointer (some ⟨H + 2, 0, none⟩), .pointer (some ⟨H, 0, none⟩)]] W fun e w' => e = .returned (.int .i64 3) ∧ Below H W w' ∧ w'.heap[H]? = some (.cells z43 43 (0, 0)) := by
  have hb : Below W.heap.size W (W.alloc (.cells #[.int .i64 0] 28)) := (Below.refl _ W).alloc (Nat.le_refl _) _
  have nw : (W.alloc (.cells #[.int .i64 0] 28)).heap[W.heap.size]? = some (.cells #[.int .i64 0] 28 (0, 0)) := heap_alloc_new W _
  have sz : (W.alloc (.cells #[.int .i64 0] 28)).heap.size = H + 4 := by rw [World.size_alloc, hz]
  have main := parse2_no H (H + 2) (H + 1) s _ (box_bel hp hb) (hr.below hb) hs h
  refine (attempt_gave 45 _ W (fun w' => Below H W w' ∧ w'.heap[H]? = some (.cells z43 43 (0, 0))) enters45 (main.mono ?_)).mono ?_
  · rintro e w' ⟨rfl, hb1⟩
    rw [sz] at hb1
    refine ⟨rfl, ?_, ?_, (hb1.block H (by omega) (by omega)).trans (box_bel hc hb)⟩
    · rw [hb1.block _ (by omega) (by omega)]; exact nw
    · exact ⟨hb1.os, hb1.tape, hb1.output, by have := hb1.size; rw [sz] at this; omega, fun k hk => by rw [hb1.block k (by omega) (by omega)]; exact hb.block k (by omega)⟩
  · rintro e w' ⟨rfl, w1, ⟨g1, g2⟩, hlt, rfl⟩
    have vb : ∀ k, k < W.heap.size → ((w1.alloc (.cells #[] 85)).setCell ⟨W.heap.size, 0, none⟩ (.int .i64 3)).heap[k]? = w1.heap[k]? := fun k hk =>
      (Below.heap_setCell _ ⟨W.heap.size, 0, none⟩ _ k (by simp; omega)).trans (Below.heap_alloc w1 _ k (by omega))
    exact ⟨rfl, (g1.alloc (by have := g1.size; omega) _).setCell (p := ⟨W.heap.size, 0, none⟩) (by simp; omega) _, (vb _ (by omega)).trans g2⟩
theorem ones43 (o n w m : ByteArray) (k i j : Int) : (#[.string o, .int .i64 k, .string n, .string w, .int .i64 i, .int .i64 j, .string m] : Array Value).all (·.oneCell') = true := by simp [Value.oneCell']
set_option maxHeartbeats 2000000 in
set_option maxRecDepth 100000 in
theorem ptag_no (s : ByteArray) (w : World) (hs : s.size ≤ 281474976710656) (h : lineP wObject s.data.toList = none) :
    Calls Tryd.prog 22 #[.string s] w fun e w' => e = .returned (.tuple #[.agg z43, .int .i64 3]) ∧ Below w.heap.size w w' := by
  have hmf : ∀ (fn : Fn) (first cap : Array Value) (w : World), (Instr.makeFunc fn first cap).run Tryd.prog w = .ok (.func fn first cap) w := fun _ _ _ _ => rfl
  have b1 : Below w.heap.size w (w.alloc (.cells z43 43)) := (Below.refl _ w).alloc (Nat.le_refl _) _
  have h1 := heap_alloc_new w (.cells z43 43)
  have s1 : (w.alloc (.cells z43 43)).heap.size = w.heap.size + 1 := World.size_alloc _ _
  have b2 : Below (w.alloc (.cells z43 43)).heap.size (w.alloc (.cells z43 43)) ((w.alloc (.cells z43 43)).alloc (.cells #[.string s] 70)) := (Below.refl _ _).alloc (Nat.le_refl _) _
  have h2 := heap_alloc_new (w.alloc (.cells z43 43)) (.cells #[.string s] 70)
  have s2 : ((w.alloc (.cells z43 43)).alloc (.cells #[.string s] 70)).heap.size = w.heap.size + 2 := by rw [World.size_alloc, s1]
  rw [s1] at h2
  have b3 : Below ((w.alloc (.cells z43 43)).alloc (.cells #[.string s] 70)).heap.size ((w.alloc (.cells z43 43)).alloc (.cells #[.string s] 70)) (((w.alloc (.cells z43 43)).alloc (.cells #[.string s] 70)).alloc (.cells #[.pointer (some ⟨w.heap.size + 1, 0, none⟩)] 68)) := (Below.refl _ _).alloc (Nat.le_refl _) _
  have h3 := heap_alloc_new ((w.alloc (.cells z43 43)).alloc (.cells #[.string s] 70)) (.cells #[.pointer (some ⟨w.heap.size + 1, 0, none⟩)] 68)
  have s3 : (((w.alloc (.cells z43 43)).alloc (.cells #[.string s] 70)).alloc (.cells #[.pointer (some ⟨w.heap.size + 1, 0, none⟩)] 68)).heap.size = w.heap.size + 3 := by rw [World.size_alloc, s2]
  rw [s2] at h3
  have HA := hidM (patt2_no w.heap.size s _ (box_bel (box_bel h1 b2) b3) (box_bel h2 b3) h3 s3 hs h)
  have HB0 : Hid (Below w.heap.size w (((w.alloc (.cells z43 43)).alloc (.cells #[.string s] 70)).alloc (.cells #[.pointer (some ⟨w.heap.size + 1, 0, none⟩)] 68))) :=
    (((Below.refl w.heap.size w).alloc (Nat.le_refl _) _).alloc (by simp) _).alloc (by simp; omega) _
  clear b1 b2 b3 h1 h2 h3 s1 s2 s3 h
  unfold z43 at HA HB0 ⊢
  go_enter Tryd.func22, Tryd.ntmps22
  go_wp2_with fail
  refine HA.out.mono ?_
  rintro _ w1 ⟨rfl, hb1, hz1⟩
  have HB1 := hidM (HB0.out.trans hb1)
  have HZ1 := hidM hz1
  clear hb1 hz1 HA
  go_wp2_with (refine wpList_store_row rfl 43 (.tmp 2) (.tmp 16) rfl w.heap.size #[.string ⟨#[]⟩, .int .i64 0, .string ⟨#[]⟩, .string ⟨#[]⟩, .int .i64 0, .int .i64 0, .string ⟨#[]⟩] rfl rfl 43 #[.string ⟨#[]⟩, .int .i64 0, .string ⟨#[]⟩, .string ⟨#[]⟩, .int .i64 0, .int .i64 0, .string ⟨#[]⟩] HZ1.out size43 rfl (ones43 _ _ _ _ _ _ _) ?_)
  exact bodyPost_ret (run_box_tmp rfl _ _ w.heap.size _ rfl (run_loadVar_row _ w.heap.size 43 43 _ (0, 0) _ (setRow_heap _ _ _ _ 43 _ HZ1.out) Tryd.underlying43 rfl size43)) rfl ⟨rfl, below_setRow HB1.out (Nat.le_refl _)⟩
end Go.Proofs.YtbghailohnppmaaDoor
namespace Go.Proofs.YtbghailohnppmaaDoor
open Go.RowKit

/-- the law's boxes: two commits, and whatever stays besides -/
structure AX (w : World) (g : Nat) (t1 : ByteArray) (p1 : Value) (a1 c1 : Sb) (m1 t2 : ByteArray) (p2 : Value) (a2 c2 : Sb) (m2 : ByteArray) (C : World → Prop) (V : World) : Prop where
  bel : Below w.heap.size w V
  b1 : CBox V g t1 p1 a1 c1 m1
  b2 : CBox V (g + 1) t2 p2 a2 c2 m2
  gt : GT V
  rest : C V
  keep : ∀ W W', C W → Below W.heap.size W W' → C W'
theorem AX.next {w V w' : World} {g : Nat} {t1 m1 t2 m2 : ByteArray} {p1 p2 : Value} {a1 c1 a2 c2 : Sb} {C : World → Prop} (H : AX w g t1 p1 a1 c1 m1 t2 p2 a2 c2 m2 C V) (hb : Below V.heap.size V w') : AX w g t1 p1 a1 c1 m1 t2 p2 a2 c2 m2 C w' :=
  ⟨H.bel.trans (hb.mono H.bel.size), H.b1.below hb, H.b2.below hb, H.gt.below hb, H.keep _ _ H.rest hb, H.keep⟩
theorem AX.drew {w V : World} {g : Nat} {t1 m1 t2 m2 : ByteArray} {p1 p2 : Value} {a1 c1 a2 c2 : Sb} {C : World → Prop} (H : Hid (AX w g t1 p1 a1 c1 m1 t2 p2 a2 c2 m2 C V)) : Hid (AX w g t1 p1 a1 c1 m1 t2 p2 a2 c2 m2 C V.drew) := H.out.next ((Below.refl _ V).trans ⟨rfl, rfl, rfl, Nat.le_refl _, fun _ _ => rfl⟩)
theorem AX.drewN {w V : World} {g n : Nat} {t1 m1 t2 m2 : ByteArray} {p1 p2 : Value} {a1 c1 a2 c2 : Sb} {C : World → Prop} (H : Hid (AX w g t1 p1 a1 c1 m1 t2 p2 a2 c2 m2 C V)) : Hid (AX w g t1 p1 a1 c1 m1 t2 p2 a2 c2 m2 C (V.drewN n)) := H.out.next (below_drewN (Below.refl _ _) n)
theorem AX.full {w V : World} {g : Nat} {t1 aw1 cw1 m1 t2 aw2 cw2 m2 : ByteArray} {px1 px2 : Option Addr} {py1 pz1 py2 pz2 : Nat} {at1 az1 ct1 cz1 at2 az2 ct2 cz2 : Int} {C : World → Prop} (H : AX w g t1 (.slice px1 py1 pz1) ⟨aw1, at1, az1⟩ ⟨cw1, ct1, cz1⟩ m1 t2 (.slice px2 py2 pz2) ⟨aw2, at2, az2⟩ ⟨cw2, ct2, cz2⟩ m2 C V) :
    V.cell? ⟨g, 0, none⟩ = some (.string t1) ∧ V.cell? ⟨g, 1, none⟩ = some (.slice px1 py1 pz1) ∧ V.cell? ⟨g, 2, none⟩ = some (.string aw1) ∧ V.cell? ⟨g, 3, none⟩ = some (.int .i64 at1) ∧ V.cell? ⟨g, 4, none⟩ = some (.int .i64 az1) ∧ V.cell? ⟨g, 5, none⟩ = some (.string cw1) ∧ V.cell? ⟨g, 6, none⟩ = some (.int .i64 ct1) ∧ V.cell? ⟨g, 7, none⟩ = some (.int .i64 cz1) ∧ V.cell? ⟨g, 8, none⟩ = some (.string m1) ∧ V.cell? ⟨g + 1, 0, none⟩ = some (.string t2) ∧ V.cell? ⟨g + 1, 1, none⟩ = some (.slice px2 py2 pz2) ∧ V.cell? ⟨g + 1, 2, none⟩ = some (.string aw2) ∧ V.cell? ⟨g + 1, 3, none⟩ = some (.int .i64 at2) ∧ V.cell? ⟨g + 1, 4, none⟩ = some (.int .i64 az2) ∧ V.cell? ⟨g + 1, 5, none⟩ = some (.string cw2) ∧ V.cell? ⟨g + 1, 6, none⟩ = some (.int .i64 ct2) ∧ V.cell? ⟨g + 1, 7, none⟩ = some (.int .i64 cz2) ∧ V.cell? ⟨g + 1, 8, none⟩ = some (.string m2) ∧ Hid (AX w g t1 (.slice px1 py1 pz1) ⟨aw1, at1, az1⟩ ⟨cw1, ct1, cz1⟩ m1 t2 (.slice px2 py2 pz2) ⟨aw2, at2, az2⟩ ⟨cw2, ct2, cz2⟩ m2 C V) := by
  obtain ⟨k0, k1, k2, k3, k4, k5, k6, k7, k8⟩ := H.b1.nine
  obtain ⟨i0, i1, i2, i3, i4, i5, i6, i7, i8⟩ := H.b2.nine
  exact ⟨k0, k1, k2, k3, k4, k5, k6, k7, k8, i0, i1, i2, i3, i4, i5, i6, i7, i8, H⟩
theorem AX.call {w V : World} {g : Nat} {t1 aw1 cw1 m1 t2 aw2 cw2 m2 : ByteArray} {px1 px2 : Option Addr} {py1 pz1 py2 pz2 : Nat} {at1 az1 ct1 cz1 at2 az2 ct2 cz2 : Int} {C : World → Prop} {f : Nat} {args : Array Value} {v : Value} (h1 : Calls Tryd.prog f args V fun x w' => x = .returned v ∧ Below V.heap.size V w') (H : Hid (AX w g t1 (.slice px1 py1 pz1) ⟨aw1, at1, az1⟩ ⟨cw1, ct1, cz1⟩ m1 t2 (.slice px2 py2 pz2) ⟨aw2, at2, az2⟩ ⟨cw2, ct2, cz2⟩ m2 C V)) :
    Calls Tryd.prog f args V fun x V' => x = .returned v ∧ (V'.cell? ⟨g, 0, none⟩ = some (.string t1) ∧ V'.cell? ⟨g, 1, none⟩ = some (.slice px1 py1 pz1) ∧ V'.cell? ⟨g, 2, none⟩ = some (.string aw1) ∧ V'.cell? ⟨g, 3, none⟩ = some (.int .i64 at1) ∧ V'.cell? ⟨g, 4, none⟩ = some (.int .i64 az1) ∧ V'.cell? ⟨g, 5, none⟩ = some (.string cw1) ∧ V'.cell? ⟨g, 6, none⟩ = some (.int .i64 ct1) ∧ V'.cell? ⟨g, 7, none⟩ = some (.int .i64 cz1) ∧ V'.cell? ⟨g, 8, none⟩ = some (.string m1) ∧ V'.cell? ⟨g + 1, 0, none⟩ = some (.string t2) ∧ V'.cell? ⟨g + 1, 1, none⟩ = some (.slice px2 py2 pz2) ∧ V'.cell? ⟨g + 1, 2, none⟩ = some (.string aw2) ∧ V'.cell? ⟨g + 1, 3, none⟩ = some (.int .i64 at2) ∧ V'.cell? ⟨g + 1, 4, none⟩ = some (.int .i64 az2) ∧ V'.cell? ⟨g + 1, 5, none⟩ = some (.string cw2) ∧ V'.cell? ⟨g + 1, 6, none⟩ = some (.int .i64 ct2) ∧ V'.cell? ⟨g + 1, 7, none⟩ = some (.int .i64 cz2) ∧ V'.cell? ⟨g + 1, 8, none⟩ = some (.string m2) ∧ Hid (AX w g t1 (.slice px1 py1 pz1) ⟨aw1, at1, az1⟩ ⟨cw1, ct1, cz1⟩ m1 t2 (.slice px2 py2 pz2) ⟨aw2, at2, az2⟩ ⟨cw2, ct2, cz2⟩ m2 C V')) :=
  h1.mono fun _ _ ⟨hx, hb⟩ => ⟨hx, (H.out.next hb).full⟩
theorem AX.few {w V : World} {g : Nat} {t1 aw1 cw1 m1 t2 aw2 cw2 m2 : ByteArray} {px1 px2 : Option Addr} {py1 pz1 py2 pz2 : Nat} {at1 az1 ct1 cz1 at2 az2 ct2 cz2 : Int} {C : World → Prop} {args : Array Value} {us : List ByteArray} {t m : ByteArray} {a c : Sb} (h1 : Calls Tryd.prog 9 args V fun e w' => ∃ pv, e = .returned (.agg (c26 t pv a c m)) ∧ OwnS w' V.heap.size pv us ∧ Below V.heap.size V w') (H : Hid (AX w g t1 (.slice px1 py1 pz1) ⟨aw1, at1, az1⟩ ⟨cw1, ct1, cz1⟩ m1 t2 (.slice px2 py2 pz2) ⟨aw2, at2, az2⟩ ⟨cw2, ct2, cz2⟩ m2 C V)) :
    Calls Tryd.prog 9 args V fun x V' => ∃ ta tn tc, x = .returned (.agg (c26 t (.slice ta tn tc) a c m)) ∧ (V'.cell? ⟨g, 0, none⟩ = some (.string t1) ∧ V'.cell? ⟨g, 1, none⟩ = some (.slice px1 py1 pz1) ∧ V'.cell? ⟨g, 2, none⟩ = some (.string aw1) ∧ V'.cell? ⟨g, 3, none⟩ = some (.int .i64 at1) ∧ V'.cell? ⟨g, 4, none⟩ = some (.int .i64 az1) ∧ V'.cell? ⟨g, 5, none⟩ = some (.string cw1) ∧ V'.cell? ⟨g, 6, none⟩ = some (.int .i64 ct1) ∧ V'.cell? ⟨g, 7, none⟩ = some (.int .i64 cz1) ∧ V'.cell? ⟨g, 8, none⟩ = some (.string m1) ∧ V'.cell? ⟨g + 1, 0, none⟩ = some (.string t2) ∧ V'.cell? ⟨g + 1, 1, none⟩ = some (.slice px2 py2 pz2) ∧ V'.cell? ⟨g + 1, 2, none⟩ = some (.string aw2) ∧ V'.cell? ⟨g + 1, 3, none⟩ = some (.int .i64 at2) ∧ V'.cell? ⟨g + 1, 4, none⟩ = some (.int .i64 az2) ∧ V'.cell? ⟨g + 1, 5, none⟩ = some (.string cw2) ∧ V'.cell? ⟨g + 1, 6, none⟩ = some (.int .i64 ct2) ∧ V'.cell? ⟨g + 1, 7, none⟩ = some (.int .i64 cz2) ∧ V'.cell? ⟨g + 1, 8, none⟩ = some (.string m2) ∧ Hid (AX w g t1 (.slice px1 py1 pz1) ⟨aw1, at1, az1⟩ ⟨cw1, ct1, cz1⟩ m1 t2 (.slice px2 py2 pz2) ⟨aw2, at2, az2⟩ ⟨cw2, ct2, cz2⟩ m2 C V')) ∧ Hid (StrsV V' (.slice ta tn tc) us) ∧ Hid (∀ v l, Hid (StrsV V v l) → Hid (StrsV V' v l)) :=
  h1.mono fun _ _ ⟨pv, hx, ho, hb⟩ => by
    obtain ⟨ta, tn, tc, hpv⟩ := ho.slice
    subst hpv
    exact ⟨ta, tn, tc, hx, (H.out.next hb).full, ho.strs, fun _ _ h => h.out.below hb⟩
theorem tag_no_tree (t : Lb) : lineP wTree (tagL t) = none := by
  cases e : lineP wTree (tagL t) with
  | none => rfl
  | some x =>
    obtain ⟨x, r⟩ := x
    have := (lineP_some e).1
    simp [tagL, wTree, wObject] at this
/-- of what has no first line of a commit: the error -/
theorem parse_none (s : ByteArray) (w : World) (hG : GT w) (hs : s.size ≤ 281474976710656) (h : lineP wTree s.data.toList = none) :
    Calls Tryd.prog 17 #[.string s] w fun e w' => e = .returned (.tuple #[.agg z26, .int .i64 3]) ∧ Below w.heap.size w w' := by
  have hc : changeP s.data.toList = none := by unfold changeP; rw [h]
  have hp : parE s = 3 := by unfold parE; rw [hc]
  refine (parse_any s w hG hs (fun t r0 h' => by rw [h] at h'; cases h') hG.five).mono ?_
  rintro e w' ⟨hb, h1⟩
  rcases h1 with ⟨_, h1⟩ | ⟨h1, _⟩
  · exact ⟨by rw [h1, hp]; rfl, hb⟩
  · rw [hp] at h1; cases h1
theorem texts_same {t1 : ByteArray} {l1 : List ByteArray} {a1 c1 : Sb} {m1 t2 : ByteArray} {l2 : List ByteArray} {a2 c2 : Sb} {m2 : ByteArray} (h1 : checkE t1 l1 a1 c1 = 0) (h2 : checkE t2 l2 a2 c2 = 0) :
    ((textB t1 l1 a1 c1 m1).toList == (textB t2 l2 a2 c2 m2).toList) = sameC t1 l1 a1 c1 m1 t2 l2 a2 c2 m2 := by
  rw [bytesEq, Bool.eq_iff_iff, decide_eq_true_eq, sameC_iff]
  constructor
  · intro h
    have e1 := text_change (m := m1) h1
    rw [h, text_change h2] at e1
    injection e1 with e1
    have q1 := congrArg Cm.tree e1
    have q2 := congrArg Cm.parents e1
    have q3 := congrArg Cm.author e1
    have q4 := congrArg Cm.committer e1
    have q5 := congrArg Cm.message e1
    simp only [cmOf] at q1 q2 q3 q4 q5
    have q2' := congrArg (List.map baL) q2
    rw [pars_back, pars_back] at q2'
    have q3' := congrArg sbOf q3
    have q4' := congrArg sbOf q4
    exact ⟨(bytes_ext q1).symm, q2'.symm, q3'.symm, q4'.symm, (bytes_ext q5).symm⟩
  · rintro ⟨rfl, rfl, rfl, rfl, rfl⟩
    rfl
theorem tag_size {o : ByteArray} {k : Int} {n : ByteArray} {s : Sb} (m : ByteArray) (h : checkT o k n s = 0) (hm : m.size ≤ 140737488351232) : (tagB o k n s m).size ≤ 281474976710656 := by
  obtain ⟨h1, _, h3, h4⟩ := tag_zero h
  have e1 := id_size h1
  have e2 := lineB_size h3
  have e3 := sgB_size s h4
  have e4 := nameL_six k
  rw [← sl_len] at e1 e2
  rw [← sl_len, sgB_list] at e3
  unfold tagB
  rw [ba_size]
  simp only [tagL, lbOf, List.length_append, List.length_cons]
  rw [sl_len m, show wObject.length = 7 from rfl, show wType.length = 5 from rfl, show wTag.length = 4 from rfl, show wTagger.length = 7 from rfl]
  omega
set_option maxHeartbeats 4000000 in
set_option maxRecDepth 100000 in
theorem apart_any (t1 : ByteArray) (p1 : Value) (l1 : List ByteArray) (a1 c1 : Sb) (m1 t2 : ByteArray) (p2 : Value) (l2 : List ByteArray) (a2 c2 : Sb) (m2 o : ByteArray) (k : Int) (n : ByteArray) (s : Sb) (m : ByteArray) (w : World) (hG : GT w) (hN : NamesAt w)
    (hp1 : StrsO w p1 l1) (hp2 : StrsO w p2 l2) (ht1 : t1.size ≤ maxLen) (ht2 : t2.size ≤ maxLen) (hps1 : ∀ p ∈ l1, p.size ≤ maxLen) (hps2 : ∀ p ∈ l2, p.size ≤ maxLen) (hm1 : m1.size ≤ 140737488351232) (hm2 : m2.size ≤ 140737488351232) (ho : o.size ≤ maxLen) (hm : m.size ≤ 140737488351232) :
    Calls Tryd.prog 6 #[.agg (c26 t1 p1 a1 c1 m1), .agg (c26 t2 p2 a2 c2 m2), .agg (c43 o k n s m)] w fun e w' => e = .returned (.bool true) ∧ Below w.heap.size w w' := by
  have hu1 : ∀ p ∈ l1.take 40, p.size ≤ maxLen := fun p h => hps1 p (List.mem_of_mem_take h)
  have hu2 : ∀ p ∈ l2.take 40, p.size ≤ maxLen := fun p h => hps2 p (List.mem_of_mem_take h)
  have h40 : (l1.take 40).length ≤ 1000000 := by simp; omega
  have HF1 := hidM (fun V h => few_any t1 p1 l1 a1 c1 m1 V h)
  have HF2 := hidM (fun V h => few_any t2 p2 l2 a2 c2 m2 V h)
  have hs1 : ∃ x y z, p1 = .slice x y z := by
    rcases hp1 with ⟨rfl, _⟩ | ⟨ad, cap, rfl, _⟩ | ⟨b, off, cap, rfl, _⟩ <;> exact ⟨_,_,_, rfl⟩
  have hs2 : ∃ x y z, p2 = .slice x y z := by
    rcases hp2 with ⟨rfl, _⟩ | ⟨ad, cap, rfl, _⟩ | ⟨b, off, cap, rfl, _⟩ <;> exact ⟨_,_,_, rfl⟩
  have HP1 := hidM (fun V hV => strso_below hp1 (w' := V) hV)
  have HP2 := hidM (fun V hV => strso_below hp2 (w' := V) hV)
  obtain ⟨us, hue⟩ : ∃ us, l1.take 40 = us := ⟨_, rfl⟩
  obtain ⟨ws, hwe⟩ : ∃ us, l2.take 40 = us := ⟨_, rfl⟩
  rw [hue] at HF1 hu1 h40
  rw [hwe] at HF2 hu2
  obtain ⟨px1, py1, pz1, rfl⟩ := hs1
  obtain ⟨px2, py2, pz2, rfl⟩ := hs2
  clear hue hwe hps1 hps2 hp1 hp2
  unfold FewPost at HF1 HF2
  have HAW := hidM (fun V hV => awake_any V hV)
  have HM1 := hidM (fun V pv hV hs => format_any t1 pv us a1 c1 m1 V hV hs ht1 hu1 hm1)
  have HM2 := hidM (fun V pv hV hs => format_any t2 pv ws a2 c2 m2 V hV hs ht2 hu2 hm2)
  unfold fmtR at HM1 HM2
  have HFT := hidM (fun V hV hN => ftag_any o k n s m V hV hN ho hm)
  have HSA := hidM (fun V p q h1 h2 => same16_any t1 p us a1 c1 m1 t2 q ws a2 c2 m2 V h1 h2 h40)
  have HXY : Hid (checkE t1 us a1 c1 = 0 → checkE t2 ws a2 c2 = 0 → ((if checkE t1 us a1 c1 = 0 then textB t1 us a1 c1 m1 else ⟨#[]⟩ : ByteArray).toList == (if checkE t2 ws a2 c2 = 0 then textB t2 ws a2 c2 m2 else ⟨#[]⟩ : ByteArray).toList) = sameC t1 us a1 c1 m1 t2 ws a2 c2 m2) := fun h1 h2 => by
    rw [if_pos h1, if_pos h2]; exact texts_same h1 h2
  have HQX : Hid (∀ V, Calls Tryd.prog 22 #[.string (if checkE t1 us a1 c1 = 0 then textB t1 us a1 c1 m1 else ⟨#[]⟩)] V fun e w' => e = .returned (.tuple #[.agg z43, .int .i64 3]) ∧ Below V.heap.size V w') := fun V => by
    by_cases h : checkE t1 us a1 c1 = 0
    · rw [if_pos h]
      exact ptag_no _ V (by have := text_size m1 h; omega) (text_no_object _)
    · rw [if_neg h]
      exact ptag_no _ V (by decide) nil_no_object
  have HPZ : Hid (∀ V, GT V → Calls Tryd.prog 17 #[.string (if checkT o k n s = 0 then tagB o k n s m else ⟨#[]⟩)] V fun e w' => e = .returned (.tuple #[.agg z26, .int .i64 3]) ∧ Below V.heap.size V w') := fun V hV => by
    by_cases h : checkT o k n s = 0
    · rw [if_pos h]
      exact parse_none _ V hV (tag_size m h hm) (tag_no_tree _)
    · rw [if_neg h]
      exact parse_none _ V hV (by decide) rfl
  generalize sameC t1 us a1 c1 m1 t2 ws a2 c2 m2 = sm at *
  generalize (if checkE t1 us a1 c1 = 0 then textB t1 us a1 c1 m1 else ⟨#[]⟩ : ByteArray) = X at *
  generalize (if checkE t2 ws a2 c2 = 0 then textB t2 ws a2 c2 m2 else ⟨#[]⟩ : ByteArray) = Y at *
  generalize (if checkT o k n s = 0 then tagB o k n s m else ⟨#[]⟩ : ByteArray) = ZT at *
  generalize checkE t1 us a1 c1 = E1 at *
  generalize checkE t2 ws a2 c2 = E2 at *
  generalize checkT o k n s = E3 at *
  clear ht1 ht2 hu1 hu2 hm1 hm2 ho hm h40
  have HX0 : Hid (AX w w.heap.size t1 (.slice px1 py1 pz1) a1 c1 m1 t2 (.slice px2 py2 pz2) a2 c2 m2 (fun V => LBox V (w.heap.size + 2) o k n s m ∧ NamesAt V) (((w.alloc (.cells (c26 t1 (.slice px1 py1 pz1) a1 c1 m1) 26)).alloc (.cells (c26 t2 (.slice px2 py2 pz2) a2 c2 m2) 26)).alloc (.cells (c43 o k n s m) 43))) := by
    have b12 : Below w.heap.size w ((w.alloc (.cells (c26 t1 (.slice px1 py1 pz1) a1 c1 m1) 26)).alloc (.cells (c26 t2 (.slice px2 py2 pz2) a2 c2 m2) 26)) := ((Below.refl _ w).alloc (Nat.le_refl _) _).alloc (by simp) _
    have e1 := heap_alloc2_old w (.cells (c26 t1 (.slice px1 py1 pz1) a1 c1 m1) 26) (.cells (c26 t2 (.slice px2 py2 pz2) a2 c2 m2) 26)
    have e2 := heap_alloc2_new w (.cells (c26 t1 (.slice px1 py1 pz1) a1 c1 m1) 26) (.cells (c26 t2 (.slice px2 py2 pz2) a2 c2 m2) 26)
    have sz : ((w.alloc (.cells (c26 t1 (.slice px1 py1 pz1) a1 c1 m1) 26)).alloc (.cells (c26 t2 (.slice px2 py2 pz2) a2 c2 m2) 26)).heap.size = w.heap.size + 2 := by simp
    generalize (w.alloc (.cells (c26 t1 (.slice px1 py1 pz1) a1 c1 m1) 26)).alloc (.cells (c26 t2 (.slice px2 py2 pz2) a2 c2 m2) 26) = W2 at *
    have b3 : Below W2.heap.size W2 (W2.alloc (.cells (c43 o k n s m) 43)) := (Below.refl _ W2).alloc (Nat.le_refl _) _
    have e3 := heap_alloc_new W2 (.cells (c43 o k n s m) 43)
    rw [sz] at e3
    exact ⟨b12.trans (b3.mono b12.size), box_bel e1 b3, box_bel e2 b3, (hG.below b12).below b3, ⟨e3, (hN.below b12).below b3⟩, fun W W' h hb => ⟨h.1.below hb, h.2.below hb⟩⟩
  clear hG hN
  obtain ⟨aw1, at1, az1⟩ := a1
  obtain ⟨cw1, ct1, cz1⟩ := c1
  obtain ⟨aw2, at2, az2⟩ := a2
  obtain ⟨cw2, ct2, cz2⟩ := c2
  obtain ⟨who, ts, zs⟩ := s
  generalize hCe : (fun V => LBox V (w.heap.size + 2) o k n ⟨who, ts, zs⟩ m ∧ NamesAt V) = C at *
  have HCE : Hid (∀ V, C V → LBox V (w.heap.size + 2) o k n ⟨who, ts, zs⟩ m ∧ NamesAt V) := fun V h => by rw [← hCe] at h; exact h
  clear hCe
  have HF1' : Hid (∀ V, Hid (AX w w.heap.size t1 (.slice px1 py1 pz1) ⟨aw1, at1, az1⟩ ⟨cw1, ct1, cz1⟩ m1 t2 (.slice px2 py2 pz2) ⟨aw2, at2, az2⟩ ⟨cw2, ct2, cz2⟩ m2 C V) → _) := fun V hV => AX.few (HF1.out V (HP1.out V hV.out.bel)) hV
  have HF2' : Hid (∀ V, Hid (AX w w.heap.size t1 (.slice px1 py1 pz1) ⟨aw1, at1, az1⟩ ⟨cw1, ct1, cz1⟩ m1 t2 (.slice px2 py2 pz2) ⟨aw2, at2, az2⟩ ⟨cw2, ct2, cz2⟩ m2 C V) → _) := fun V hV => AX.few (HF2.out V (HP2.out V hV.out.bel)) hV
  have HSA' : Hid (∀ V p q, Hid (AX w w.heap.size t1 (.slice px1 py1 pz1) ⟨aw1, at1, az1⟩ ⟨cw1, ct1, cz1⟩ m1 t2 (.slice px2 py2 pz2) ⟨aw2, at2, az2⟩ ⟨cw2, ct2, cz2⟩ m2 C V) → Hid (StrsV V p us) → Hid (StrsV V q ws) → _) := fun V p q hV h1 h2 => AX.call (HSA.out V p q h1.out h2.out) hV
  clear HSA
  simp only [c26, c43, z26, z43] at HX0 HM1 HM2 HFT HSA' HF1 HF2 HF1' HF2' HPZ HQX ⊢
  by_cases hz1 : E1 = 0
  · by_cases hz2 : E2 = 0
    · subst hz1 hz2
      have hxy := HXY.out rfl rfl
      have bsm : (sm != sm) = false := by simp
      clear HXY
      rw [show ((0 : Nat) : Int) = 0 from rfl] at HM1 HM2
      have HX := HX0
      go_enter Tryd.func6, Tryd.ntmps6
      go_upto_region 1 with fail
      generalize ((w.alloc (.cells #[.string t1, .slice px1 py1 pz1, .string aw1, .int .i64 at1, .int .i64 az1, .string cw1, .int .i64 ct1, .int .i64 cz1, .string m1] 26)).alloc (.cells #[.string t2, .slice px2 py2 pz2, .string aw2, .int .i64 at2, .int .i64 az2, .string cw2, .int .i64 ct2, .int .i64 cz2, .string m2] 26)).alloc (.cells #[.string o, .int .i64 k, .string n, .string who, .int .i64 ts, .int .i64 zs, .string m] 43) = w1 at *
      obtain ⟨g, hg⟩ : ∃ X, w.heap.size = X := ⟨_, rfl⟩
      rw [hg] at HX HX0 HCE HF1' HF2' HSA' ⊢
      obtain ⟨k0, k1, k2, k3, k4, k5, k6, k7, k8⟩ := HX.out.b1.nine
      go_wp2_with fail
      refine (HF1.out _ (HP1.out _ HX.out.bel)).mono ?_
      rintro _ w2 ⟨pa, rfl, ho2, hb2⟩
      have HS2 := hidM ho2.strs
      obtain ⟨va, vn, vc, hpa⟩ := ho2.slice
      subst hpa
      have HX2 := hidM (HX.out.next hb2)
      clear ho2 hb2 HX HX0 k0 k1 k2 k3 k4 k5 k6 k7 k8
      go_wp2_with fail
      refine (HM1.out _ _ HX2.out.gt HS2.out).mono ?_
      rintro _ w3 ⟨rfl, hb3⟩
      have HX3 := hidM (HX2.out.next hb3)
      clear hb3 HX2 HS2
      obtain ⟨k0, k1, k2, k3, k4, k5, k6, k7, k8⟩ := HX3.out.b2.nine
      go_wp2_with fail
      refine (HF2.out _ (HP2.out _ HX3.out.bel)).mono ?_
      rintro _ w4 ⟨pb, rfl, ho4, hb4⟩
      have HS4 := hidM ho4.strs
      obtain ⟨ua, un, uc, hpb⟩ := ho4.slice
      subst hpb
      have HX4 := hidM (HX3.out.next hb4)
      clear ho4 hb4 HX3 k0 k1 k2 k3 k4 k5 k6 k7 k8
      go_wp2_with fail
      refine (HM2.out _ _ HX4.out.gt HS4.out).mono ?_
      rintro _ w5 ⟨rfl, hb5⟩
      have HX5 := hidM (HX4.out.next hb5)
      clear hb5 HX4 HS4
      go_upto_region 3 with fail
      have HX := HX5
      obtain ⟨k0, k1, k2, k3, k4, k5, k6, k7, k8, i0, i1, i2, i3, i4, i5, i6, i7, i8, _⟩ := AX.full HX.out
      go_region_held3 (fun V => V.cell? ⟨g, 0, none⟩ = some (.string t1) ∧ V.cell? ⟨g, 1, none⟩ = some (.slice px1 py1 pz1) ∧ V.cell? ⟨g, 2, none⟩ = some (.string aw1) ∧ V.cell? ⟨g, 3, none⟩ = some (.int .i64 at1) ∧ V.cell? ⟨g, 4, none⟩ = some (.int .i64 az1) ∧ V.cell? ⟨g, 5, none⟩ = some (.string cw1) ∧ V.cell? ⟨g, 6, none⟩ = some (.int .i64 ct1) ∧ V.cell? ⟨g, 7, none⟩ = some (.int .i64 cz1) ∧ V.cell? ⟨g, 8, none⟩ = some (.string m1) ∧ V.cell? ⟨g + 1, 0, none⟩ = some (.string t2) ∧ V.cell? ⟨g + 1, 1, none⟩ = some (.slice px2 py2 pz2) ∧ V.cell? ⟨g + 1, 2, none⟩ = some (.string aw2) ∧ V.cell? ⟨g + 1, 3, none⟩ = some (.int .i64 at2) ∧ V.cell? ⟨g + 1, 4, none⟩ = some (.int .i64 az2) ∧ V.cell? ⟨g + 1, 5, none⟩ = some (.string cw2) ∧ V.cell? ⟨g + 1, 6, none⟩ = some (.int .i64 ct2) ∧ V.cell? ⟨g + 1, 7, none⟩ = some (.int .i64 cz2) ∧ V.cell? ⟨g + 1, 8, none⟩ = some (.string m2) ∧ Hid (AX w g t1 (.slice px1 py1 pz1) ⟨aw1, at1, az1⟩ ⟨cw1, ct1, cz1⟩ m1 t2 (.slice px2 py2 pz2) ⟨aw2, at2, az2⟩ ⟨cw2, ct2, cz2⟩ m2 C V))
        (first | exact hS3 | exact hS2 | exact hS1 | exact AX.full (Hid.out (by repeat (first | exact hS3.2.2.2.2.2.2.2.2.2.2.2.2.2.2.2.2.2.2 | exact hS2.2.2.2.2.2.2.2.2.2.2.2.2.2.2.2.2.2.2 | exact hS1.2.2.2.2.2.2.2.2.2.2.2.2.2.2.2.2.2.2 | exact HX | apply AX.drew | apply AX.drewN))))
        (first
          | (go_at_call 9; first | (with_reducible refine (HF1'.out _ (by repeat (first | exact hS3.2.2.2.2.2.2.2.2.2.2.2.2.2.2.2.2.2.2 | exact hS2.2.2.2.2.2.2.2.2.2.2.2.2.2.2.2.2.2.2 | exact hS1.2.2.2.2.2.2.2.2.2.2.2.2.2.2.2.2.2.2 | exact HX | apply AX.drew | apply AX.drewN))).mono ?_; rintro _ v1 ⟨ta1, tn1, tc1, rfl, hS1, hT1, hM1⟩) | (with_reducible refine (HF2'.out _ (by repeat (first | exact hS3.2.2.2.2.2.2.2.2.2.2.2.2.2.2.2.2.2.2 | exact hS2.2.2.2.2.2.2.2.2.2.2.2.2.2.2.2.2.2.2 | exact hS1.2.2.2.2.2.2.2.2.2.2.2.2.2.2.2.2.2.2 | exact HX | apply AX.drew | apply AX.drewN))).mono ?_; rintro _ v2 ⟨ta2, tn2, tc2, rfl, hS2, hT2, hM2⟩))
          | (go_at_call 16; with_reducible refine (HSA'.out _ _ _ (by repeat (first | exact hS3.2.2.2.2.2.2.2.2.2.2.2.2.2.2.2.2.2.2 | exact hS2.2.2.2.2.2.2.2.2.2.2.2.2.2.2.2.2.2.2 | exact hS1.2.2.2.2.2.2.2.2.2.2.2.2.2.2.2.2.2.2 | exact HX | apply AX.drew | apply AX.drewN)) (by repeat (first | exact hT1 | apply hM2.out | apply strs_drew | apply strs_drewN)) (by repeat (first | exact hT2 | apply strs_drew | apply strs_drewN))).mono ?_; rintro _ v3 ⟨rfl, hS3⟩))
      all_goals
        have HX9 := hidM hS3.2.2.2.2.2.2.2.2.2.2.2.2.2.2.2.2.2.2.out
        clear hS3 hS2 hS1 hT1 hT2 hM1 hM2 HX HX5 k0 k1 k2 k3 k4 k5 k6 k7 k8 i0 i1 i2 i3 i4 i5 i6 i7 i8
        obtain ⟨j0, j1, j2, j3, j4, j5, j6⟩ := (HCE.out _ HX9.out.rest).1.seven
        go_wp2_with fail
        refine (HFT.out _ HX9.out.gt (HCE.out _ HX9.out.rest).2).mono ?_
        rintro _ w10 ⟨rfl, hb10⟩
        have HX10 := hidM (HX9.out.next hb10)
        clear hb10 HX9 j0 j1 j2 j3 j4 j5 j6
        go_wp2_with fail
        refine (HPZ.out _ HX10.out.gt).mono ?_
        rintro _ w11 ⟨rfl, hb11⟩
        have HX11 := hidM (HX10.out.next hb11)
        have HX12 := hidM (HX11.out.next ((Below.refl _ w11).alloc (Nat.le_refl _) (.cells #[.string ⟨#[]⟩, .slice none 0 0, .string ⟨#[]⟩, .int .i64 0, .int .i64 0, .string ⟨#[]⟩, .int .i64 0, .int .i64 0, .string ⟨#[]⟩] 26)))
        clear hb11 HX10 HX11
        go_upto_region 7 with fail
        generalize w11.alloc (.cells #[.string ⟨#[]⟩, .slice none 0 0, .string ⟨#[]⟩, .int .i64 0, .int .i64 0, .string ⟨#[]⟩, .int .i64 0, .int .i64 0, .string ⟨#[]⟩] 26) = w12 at *
        go_wp2_with fail
        refine (HQX.out _).mono ?_
        rintro _ w13 ⟨rfl, hb13⟩
        have HX13 := hidM (HX12.out.next hb13)
        have HX14 := hidM (HX13.out.next ((Below.refl _ w13).alloc (Nat.le_refl _) (.cells #[.string ⟨#[]⟩, .int .i64 0, .string ⟨#[]⟩, .string ⟨#[]⟩, .int .i64 0, .int .i64 0, .string ⟨#[]⟩] 43)))
        clear hb13 HX12 HX13
        go_upto_region 8 with fail
        generalize w13.alloc (.cells #[.string ⟨#[]⟩, .int .i64 0, .string ⟨#[]⟩, .string ⟨#[]⟩, .int .i64 0, .int .i64 0, .string ⟨#[]⟩] 43) = w14 at *
        go_wp2_with fail
        refine (HAW.out _ HX14.out.gt).mono ?_
        rintro _ w15 ⟨rfl, hb15⟩
        have HX15 := hidM (HX14.out.next hb15)
        clear hb15
        go_wp2
        all_goals go_ret
        all_goals exact ⟨rfl, HX15.out.bel⟩
    · have b2 : ¬ ((E2 : Int) = 0) := by omega
      subst hz1
      clear HXY
      rw [show ((0 : Nat) : Int) = 0 from rfl] at HM1
      generalize (E2 : Int) = F2 at *
      have b3 : (F2 == 0) = false := by simpa using b2
      have HX := HX0
      go_enter Tryd.func6, Tryd.ntmps6
      go_upto_region 1 with fail
      generalize ((w.alloc (.cells #[.string t1, .slice px1 py1 pz1, .string aw1, .int .i64 at1, .int .i64 az1, .string cw1, .int .i64 ct1, .int .i64 cz1, .string m1] 26)).alloc (.cells #[.string t2, .slice px2 py2 pz2, .string aw2, .int .i64 at2, .int .i64 az2, .string cw2, .int .i64 ct2, .int .i64 cz2, .string m2] 26)).alloc (.cells #[.string o, .int .i64 k, .string n, .string who, .int .i64 ts, .int .i64 zs, .string m] 43) = w1 at *
      obtain ⟨g, hg⟩ : ∃ X, w.heap.size = X := ⟨_, rfl⟩
      rw [hg] at HX HX0 HCE HF1' HF2' HSA' ⊢
      obtain ⟨k0, k1, k2, k3, k4, k5, k6, k7, k8⟩ := HX.out.b1.nine
      go_wp2_with fail
      refine (HF1.out _ (HP1.out _ HX.out.bel)).mono ?_
      rintro _ w2 ⟨pa, rfl, ho2, hb2⟩
      have HS2 := hidM ho2.strs
      obtain ⟨va, vn, vc, hpa⟩ := ho2.slice
      subst hpa
      have HX2 := hidM (HX.out.next hb2)
      clear ho2 hb2 HX HX0 k0 k1 k2 k3 k4 k5 k6 k7 k8
      go_wp2_with fail
      refine (HM1.out _ _ HX2.out.gt HS2.out).mono ?_
      rintro _ w3 ⟨rfl, hb3⟩
      have HX3 := hidM (HX2.out.next hb3)
      clear hb3 HX2 HS2
      obtain ⟨k0, k1, k2, k3, k4, k5, k6, k7, k8⟩ := HX3.out.b2.nine
      go_wp2_with fail
      refine (HF2.out _ (HP2.out _ HX3.out.bel)).mono ?_
      rintro _ w4 ⟨pb, rfl, ho4, hb4⟩
      have HS4 := hidM ho4.strs
      obtain ⟨ua, un, uc, hpb⟩ := ho4.slice
      subst hpb
      have HX4 := hidM (HX3.out.next hb4)
      clear ho4 hb4 HX3 k0 k1 k2 k3 k4 k5 k6 k7 k8
      go_wp2_with fail
      refine (HM2.out _ _ HX4.out.gt HS4.out).mono ?_
      rintro _ w5 ⟨rfl, hb5⟩
      have HX5 := hidM (HX4.out.next hb5)
      clear hb5 HX4 HS4
      go_upto_region 3 with fail
      go_region
      all_goals
        have HX9 := AX.drew HX5
        generalize w5.drew = w9 at *
        obtain ⟨j0, j1, j2, j3, j4, j5, j6⟩ := (HCE.out _ HX9.out.rest).1.seven
        go_wp2_with fail
        refine (HFT.out _ HX9.out.gt (HCE.out _ HX9.out.rest).2).mono ?_
        rintro _ w10 ⟨rfl, hb10⟩
        have HX10 := hidM (HX9.out.next hb10)
        clear hb10 HX9 j0 j1 j2 j3 j4 j5 j6
        go_wp2_with fail
        refine (HPZ.out _ HX10.out.gt).mono ?_
        rintro _ w11 ⟨rfl, hb11⟩
        have HX11 := hidM (HX10.out.next hb11)
        have HX12 := hidM (HX11.out.next ((Below.refl _ w11).alloc (Nat.le_refl _) (.cells #[.string ⟨#[]⟩, .slice none 0 0, .string ⟨#[]⟩, .int .i64 0, .int .i64 0, .string ⟨#[]⟩, .int .i64 0, .int .i64 0, .string ⟨#[]⟩] 26)))
        clear hb11 HX10 HX11
        go_upto_region 7 with fail
        generalize w11.alloc (.cells #[.string ⟨#[]⟩, .slice none 0 0, .string ⟨#[]⟩, .int .i64 0, .int .i64 0, .string ⟨#[]⟩, .int .i64 0, .int .i64 0, .string ⟨#[]⟩] 26) = w12 at *
        go_wp2_with fail
        refine (HQX.out _).mono ?_
        rintro _ w13 ⟨rfl, hb13⟩
        have HX13 := hidM (HX12.out.next hb13)
        have HX14 := hidM (HX13.out.next ((Below.refl _ w13).alloc (Nat.le_refl _) (.cells #[.string ⟨#[]⟩, .int .i64 0, .string ⟨#[]⟩, .string ⟨#[]⟩, .int .i64 0, .int .i64 0, .string ⟨#[]⟩] 43)))
        clear hb13 HX12 HX13
        go_upto_region 8 with fail
        generalize w13.alloc (.cells #[.string ⟨#[]⟩, .int .i64 0, .string ⟨#[]⟩, .string ⟨#[]⟩, .int .i64 0, .int .i64 0, .string ⟨#[]⟩] 43) = w14 at *
        go_wp2_with fail
        refine (HAW.out _ HX14.out.gt).mono ?_
        rintro _ w15 ⟨rfl, hb15⟩
        have HX15 := hidM (HX14.out.next hb15)
        clear hb15
        go_wp2
        all_goals go_ret
        all_goals exact ⟨rfl, HX15.out.bel⟩
  · have b1 : ¬ ((E1 : Int) = 0) := by omega
    clear HXY
    generalize (E1 : Int) = F1 at *
    generalize (E2 : Int) = F2 at *
    have b3 : (F1 == 0) = false := by simpa using b1
    have HX := HX0
    go_enter Tryd.func6, Tryd.ntmps6
    go_upto_region 1 with fail
    generalize ((w.alloc (.cells #[.string t1, .slice px1 py1 pz1, .string aw1, .int .i64 at1, .int .i64 az1, .string cw1, .int .i64 ct1, .int .i64 cz1, .string m1] 26)).alloc (.cells #[.string t2, .slice px2 py2 pz2, .string aw2, .int .i64 at2, .int .i64 az2, .string cw2, .int .i64 ct2, .int .i64 cz2, .string m2] 26)).alloc (.cells #[.string o, .int .i64 k, .string n, .string who, .int .i64 ts, .int .i64 zs, .string m] 43) = w1 at *
    obtain ⟨g, hg⟩ : ∃ X, w.heap.size = X := ⟨_, rfl⟩
    rw [hg] at HX HX0 HCE HF1' HF2' HSA' ⊢
    obtain ⟨k0, k1, k2, k3, k4, k5, k6, k7, k8⟩ := HX.out.b1.nine
    go_wp2_with fail
    refine (HF1.out _ (HP1.out _ HX.out.bel)).mono ?_
    rintro _ w2 ⟨pa, rfl, ho2, hb2⟩
    have HS2 := hidM ho2.strs
    obtain ⟨va, vn, vc, hpa⟩ := ho2.slice
    subst hpa
    have HX2 := hidM (HX.out.next hb2)
    clear ho2 hb2 HX HX0 k0 k1 k2 k3 k4 k5 k6 k7 k8
    go_wp2_with fail
    refine (HM1.out _ _ HX2.out.gt HS2.out).mono ?_
    rintro _ w3 ⟨rfl, hb3⟩
    have HX3 := hidM (HX2.out.next hb3)
    clear hb3 HX2 HS2
    obtain ⟨k0, k1, k2, k3, k4, k5, k6, k7, k8⟩ := HX3.out.b2.nine
    go_wp2_with fail
    refine (HF2.out _ (HP2.out _ HX3.out.bel)).mono ?_
    rintro _ w4 ⟨pb, rfl, ho4, hb4⟩
    have HS4 := hidM ho4.strs
    obtain ⟨ua, un, uc, hpb⟩ := ho4.slice
    subst hpb
    have HX4 := hidM (HX3.out.next hb4)
    clear ho4 hb4 HX3 k0 k1 k2 k3 k4 k5 k6 k7 k8
    go_wp2_with fail
    refine (HM2.out _ _ HX4.out.gt HS4.out).mono ?_
    rintro _ w5 ⟨rfl, hb5⟩
    have HX5 := hidM (HX4.out.next hb5)
    clear hb5 HX4 HS4
    go_upto_region 3 with fail
    go_region
    all_goals
      have HX9 := AX.drew HX5
      generalize w5.drew = w9 at *
      obtain ⟨j0, j1, j2, j3, j4, j5, j6⟩ := (HCE.out _ HX9.out.rest).1.seven
      go_wp2_with fail
      refine (HFT.out _ HX9.out.gt (HCE.out _ HX9.out.rest).2).mono ?_
      rintro _ w10 ⟨rfl, hb10⟩
      have HX10 := hidM (HX9.out.next hb10)
      clear hb10 HX9 j0 j1 j2 j3 j4 j5 j6
      go_wp2_with fail
      refine (HPZ.out _ HX10.out.gt).mono ?_
      rintro _ w11 ⟨rfl, hb11⟩
      have HX11 := hidM (HX10.out.next hb11)
      have HX12 := hidM (HX11.out.next ((Below.refl _ w11).alloc (Nat.le_refl _) (.cells #[.string ⟨#[]⟩, .slice none 0 0, .string ⟨#[]⟩, .int .i64 0, .int .i64 0, .string ⟨#[]⟩, .int .i64 0, .int .i64 0, .string ⟨#[]⟩] 26)))
      clear hb11 HX10 HX11
      go_upto_region 7 with fail
      generalize w11.alloc (.cells #[.string ⟨#[]⟩, .slice none 0 0, .string ⟨#[]⟩, .int .i64 0, .int .i64 0, .string ⟨#[]⟩, .int .i64 0, .int .i64 0, .string ⟨#[]⟩] 26) = w12 at *
      go_wp2_with fail
      refine (HQX.out _).mono ?_
      rintro _ w13 ⟨rfl, hb13⟩
      have HX13 := hidM (HX12.out.next hb13)
      have HX14 := hidM (HX13.out.next ((Below.refl _ w13).alloc (Nat.le_refl _) (.cells #[.string ⟨#[]⟩, .int .i64 0, .string ⟨#[]⟩, .string ⟨#[]⟩, .int .i64 0, .int .i64 0, .string ⟨#[]⟩] 43)))
      clear hb13 HX12 HX13
      go_upto_region 8 with fail
      generalize w13.alloc (.cells #[.string ⟨#[]⟩, .int .i64 0, .string ⟨#[]⟩, .string ⟨#[]⟩, .int .i64 0, .int .i64 0, .string ⟨#[]⟩] 43) = w14 at *
      go_wp2_with fail
      refine (HAW.out _ HX14.out.gt).mono ?_
      rintro _ w15 ⟨rfl, hb15⟩
      have HX15 := hidM (HX14.out.next hb15)
      clear hb15
      go_wp2
      all_goals go_ret
      all_goals exact ⟨rfl, HX15.out.bel⟩
end Go.Proofs.YtbghailohnppmaaDoor
namespace Go.Proofs.YtbghailohnppmaaDoor
open Go.ChangeShapes Go.WideShapes Go.ChangeAt Go.WideMaps Go.WideElems Go.RowKit

theorem gNames : Tryd.prog.globalNamed "cartulary/object.names" = some 0 := by kernel_rfl
theorem tNames : (Tryd.prog.globals[0]?).map (·.type) = some 91 := by kernel_rfl
theorem cells91 : Tryd.prog.cellsOf 91 = 5 := by kernel_rfl
def strData {H : Type} (ls : List (List UInt8)) : DataW H := .agg (ls.map fun b => .lit (.string b))
theorem cells_of_strs {H : Type} {enc : TypeId × Value → H} {P : Program} {w : World} {base : Nat} {sp : Nat → Bool} {held : Bool} {fuel : Nat} {t e : TypeId} {n : Nat} {cs : List Value} {ls : List (List UInt8)} {p : List MemPlace}
    (ht : P.underlying t = some (.array n e)) (he : P.underlying e = some .string) (hce : P.cellsOf e = 1) (hct : P.cellsOf t = n)
    (h : DataW.trod enc P w base sp held fuel t cs = some (strData ls, p)) : cs = ls.map fun b => Value.string ⟨b.toArray⟩ := by
  cases fuel with
  | zero => simp [DataW.trod] at h
  | succ fuel =>
    simp only [DataW.trod, ht, hce, hct, Nat.mul_one] at h
    split at h
    · rename_i hl
      obtain ⟨xs, hm, hx⟩ := Option.map_eq_some_iff.1 h
      have hxs : xs.map (·.1) = ls.map fun b => (DataW.lit (.string b) : DataW H) := by
        have := congrArg Prod.fst hx
        simpa [strData] using this
      have hxl : xs.length = n := by simpa using Lib.mapM_length hm
      have hzl : ls.length = n := by
        have := congrArg List.length hxs
        simp at this
        omega
      apply List.ext_getElem?
      intro i
      by_cases hi : i < n
      · obtain ⟨b, hb, hf⟩ := Lib.mapM_at hm i i (by simp [hi])
        obtain ⟨z, hc, rfl, _⟩ := DataW.trod_string he hf
        have h1 : cs[i]? = some (.string z) := by
          have := congrArg (·[0]?) hc
          simpa [List.getElem?_take, List.getElem?_drop] using this
        have h2 : (xs.map (·.1))[i]? = some (DataW.lit (.string z.data.toList) : DataW H) := by simp [hb]
        rw [hxs] at h2
        simp only [List.getElem?_map, Option.map_eq_some_iff, DataW.lit.injEq, Lit.string.injEq] at h2
        obtain ⟨z', hz', rfl⟩ := h2
        simp [h1, hz']
      · rw [List.getElem?_eq_none (by omega), List.getElem?_eq_none (by simp; omega)]
    · cases h
theorem names_data : (Rows.laid_cartulary_object_names : DataW Unit) = strData ((List.range 5).map nm) := rfl

theorem names_of {W : World} {rest : List (String × DataW Unit)} (h : laidMet Tryd.prog (("cartulary/object.names", strData ((List.range 5).map nm)) :: rest) W) : NamesAt W := by
  obtain ⟨ps, ⟨g', t', cs, fuel, p, q, hg', ht', hvar, hd, _,_⟩, _⟩ := h
  obtain rfl := Option.some.inj (gNames.symm.trans hg')
  obtain rfl := Option.some.inj (tNames.symm.trans ht')
  have hcs := cells_of_strs Tryd.underlying91 Tryd.underlying9 cells9l cells91 hd
  have hc : ∀ i, i < 5 → W.cell? ⟨0, i, none⟩ = some (.string ⟨(nm i).toArray⟩) := by
    intro i hi
    have := World.var?_cell gNames hvar i
    rw [this, ← Array.getElem?_toList, hcs]
    simp [hi]
  exact ⟨World.block_lt_of_cell? W _ (hc 0 (by decide)), hc⟩

def laidS : List (String × DataW Unit) := laidT ++ [("cartulary/object.names", Rows.laid_cartulary_object_names)]
theorem laidS_met (os : Os) (args : Array Value) : laidMetH Tryd.prog laidS ((World.laidAll Tryd.prog os laidS).forCall (fun _ _ => 0) ⟨#[], args, []⟩).memory := by
  rw [MakeChecks.laidMetH_plain _ _ _ (by kernel_rfl)]; exact laidMet_laidAll _ (by kernel_rfl) (by kernel_rfl)
theorem of_laidS {W : World} (h : laidMetH Tryd.prog laidS W) : GT W ∧ NamesAt W := by
  rw [MakeChecks.laidMetH_plain _ _ _ (by kernel_rfl)] at h
  refine ⟨of_rows h, ?_⟩
  unfold laidS laidT at h
  simp only [List.cons_append, List.nil_append] at h
  rw [names_data] at h
  exact names_of h.tail.tail.tail.tail.tail
theorem cells43 : Tryd.prog.cellsOf 43 = 7 := by kernel_rfl
theorem array7 {α : Type} {cs : Array α} (h : cs.size = 7) : ∃ a b c d e f g, cs = #[a, b, c, d, e, f, g] := by
  obtain ⟨l⟩ := cs
  match l, h with
  | [a, b, c, d, e, f, g], _ => exact ⟨a, b, c, d, e, f, g, rfl⟩
set_option maxRecDepth 100000 in
theorem open_label {H : Type} {enc : TypeId × Value → H} {W : World} {b0 : Nat} {v : Value} {d : DataW H} {p : List MemPlace}
    (hv : Value.okWide Tryd.prog W .any b0 43 v) (h : DataW.Trod enc Tryd.prog W 0 (fun _ => true) true 43 v d p) :
    ∃ (o : ByteArray) (k : Int) (n : ByteArray) (s : Sb) (m : ByteArray), v = .agg (c43 o k n s m) ∧ o.size ≤ maxLen ∧ n.size ≤ maxLen ∧ s.who.size ≤ maxLen ∧ ∃ d0 d1 d2 d3, d = .agg [d0, d1, d2, d3, .lit (.string m.data.toList)] := by
  obtain ⟨cs, rfl, hsz⟩ := okWide_struct Tryd.underlying43 hv
  obtain ⟨v0, v1, v2, v3, v4, v5, v6, rfl⟩ := array7 (hsz.trans cells43)
  obtain ⟨fuel, hf⟩ := h
  obtain ⟨y0, y1, y2, y3, y4, n, hx, h0, h1, h2, h3, h4⟩ := trod_struct5 Tryd.underlying43 hf
  simp only [Value.cells, cells9l, cells3l, cells24, List.drop_zero, List.take_succ_cons, List.take_zero, List.drop_succ_cons] at h0 h1 h2 h3 h4
  obtain ⟨o, ho, _, wo⟩ := DataW.trod_string Tryd.underlying9 h0
  obtain ⟨k, hk, _,_⟩ := DataW.trod_int Tryd.underlying3 h1
  obtain ⟨nn, hn, _, wn⟩ := DataW.trod_string Tryd.underlying9 h2
  obtain ⟨s, rfl, rfl, rfl, s1, _,_⟩ := sign_cells h3
  obtain ⟨m, hm, gm, _⟩ := DataW.trod_string Tryd.underlying9 h4
  simp only [List.cons.injEq, and_true] at ho hk hn hm
  subst ho hk hn hm
  refine ⟨o, k, nn, s, m, rfl, wo, wn, s1, y0.1, y1.1, y2.1, y3.1, ?_⟩
  rw [show d = _ from hx, gm]
theorem label_reach {H : Type} {ts : List TypeId} {ds : List (DataW H)} {j : Nat} {d d0 d1 d2 d3 : DataW H} {m : ByteArray}
    (hw : (DataW.weightsEach Tryd.prog ts ds).all (· ≤ reachBytes) = true) (htj : ts[j]? = some 43) (hdj : ds[j]? = some d) (hd : d = .agg [d0, d1, d2, d3, .lit (.string m.data.toList)]) : m.size ≤ 140737488351232 := by
  have h1 : m.size ∈ d.weights Tryd.prog 43 := by
    rw [hd, Lib.size_eq]
    simp only [DataW.weights, Tryd.underlying43, DataW.weightsEach, List.map_cons, List.map_nil]
    simp
  have := List.all_eq_true.1 hw _ (DataW.weights_mem_each htj hdj _ h1)
  unfold reachBytes at this
  have := of_decide_eq_true this
  omega
end Go.Proofs.YtbghailohnppmaaDoor
