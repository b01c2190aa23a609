/-
  CommitReads: the law's walk.
  Walks of commit: CheckTag.
  Walks of commit: FormatTag.
  Walks of commit: ParseTag of what is no tag from its first line on.
  Walks of commit: label and ParseTag, of any text.
  Walks of commit: ParseTag, of any text.
  The document's CheckTag.
  The document's ParseTag.
  The document's TagText.
  What the law on tags compares; what is read of a tag's text.
  CommitTags: the law's walk.
  A commit that was handed in, opened.
-/
import Derived.Test.YtbghailohnppmaaDoorJCoZB
import Derived.Test.YtbghailohnppmaaDoorLaid
import Derived.Test.YtbghailohnppmaaDoorJComL
import Derived.Deep.Strs
import Derived.SizedLaws
namespace Go.Proofs.YtbghailohnppmaaDoor
open Go.RowKit

end Go.Proofs.YtbghailohnppmaaDoor
namespace Go.Proofs.YtbghailohnppmaaDoor
open Go.RowKit

/-- a tag's cells, in a row -/
def c43 (o : ByteArray) (k : Int) (n : ByteArray) (s : Sb) (m : ByteArray) : Array Value := #[.string o, .int .i64 k, .string n, .string s.who, .int .i64 s.time, .int .i64 s.zone, .string m]
def LBox (w : World) (g : Nat) (o : ByteArray) (k : Int) (n : ByteArray) (s : Sb) (m : ByteArray) : Prop := w.heap[g]? = some (.cells (c43 o k n s m) 43 (0, 0))
theorem LBox.cell {w : World} {g : Nat} {o : ByteArray} {k : Int} {n : ByteArray} {s : Sb} {m : ByteArray} (h : LBox w g o k n s m) (i : Nat) {v : Value} (hv : (c43 o k n s m)[i]? = some v) : w.cell? ⟨g, i, none⟩ = some v := by
  rw [cell_of_row w g _ _ 43 (0, 0) h]; exact hv
theorem LBox.below {w w' : World} {g : Nat} {o : ByteArray} {k : Int} {n : ByteArray} {s : Sb} {m : ByteArray} (h : LBox w g o k n s m) (hb : Below w.heap.size w w') : LBox w' g o k n s m := box_bel h hb
theorem LBox.seven {w : World} {g : Nat} {o n who m : ByteArray} {k t z : Int} (h : LBox w g o k n ⟨who, t, z⟩ m) :
    w.cell? ⟨g, 0, none⟩ = some (.string o) ∧ w.cell? ⟨g, 1, none⟩ = some (.int .i64 k) ∧ w.cell? ⟨g, 2, none⟩ = some (.string n) ∧ w.cell? ⟨g, 3, none⟩ = some (.string who) ∧ w.cell? ⟨g, 4, none⟩ = some (.int .i64 t) ∧ w.cell? ⟨g, 5, none⟩ = some (.int .i64 z) ∧ w.cell? ⟨g, 6, none⟩ = some (.string m) :=
  ⟨h.cell 0 rfl, h.cell 1 rfl, h.cell 2 rfl, h.cell 3 rfl, h.cell 4 rfl, h.cell 5 rfl, h.cell 6 rfl⟩
def tagG (o : ByteArray) (k : Int) (n : ByteArray) (s : Sb) : Bool := idB o.data.toList && (!(nameL k).isEmpty && (lineB n.data.toList && signedG (sgOf s)))
def checkT (o : ByteArray) (k : Int) (n : ByteArray) (s : Sb) : Nat := if tagG o k n s then 0 else 4
theorem name_empty (l : List UInt8) : (⟨l.toArray⟩ : ByteArray).toList.isEmpty = l.isEmpty := by
  rw [ByteArray.toList_eq]
set_option maxHeartbeats 2000000 in
set_option maxRecDepth 100000 in
theorem ctag_any (o : ByteArray) (k : Int) (n : ByteArray) (s : Sb) (m : ByteArray) (w : World) (hN : NamesAt w) (ho : o.size ≤ maxLen) :
    Calls Tryd.prog 24 #[.agg (c43 o k n s m)] w fun e w' => e = .returned (.int .i64 (checkT o k n s : Nat)) ∧ Below w.heap.size w w' := by
  have HI := hidM (fun V => id_any o V ho)
  have HM := hidM (fun V hV => name_any k V hV)
  have HL := hidM (fun V => line_any n V)
  have HS := hidM (fun V => signed_any s V)
  have hem := name_empty (nameL k)
  have HR : Hid (checkT o k n s = if idB o.data.toList && (!(nameL k).isEmpty && (lineB n.data.toList && signedG (sgOf s))) then 0 else 4) := rfl
  generalize checkT o k n s = R at *
  generalize (⟨(nameL k).toArray⟩ : ByteArray) = NM at *
  generalize idB o.data.toList = bi at *
  generalize (nameL k).isEmpty = bm at *
  generalize lineB n.data.toList = bl at *
  generalize signedG (sgOf s) = bs at *
  have HB : Hid (Below w.heap.size w (w.alloc (.cells (c43 o k n s m) 43))) := (Below.refl _ w).alloc (Nat.le_refl _) _
  have HC : Hid (LBox (w.alloc (.cells (c43 o k n s m) 43)) w.heap.size o k n s m) := heap_alloc_new w _
  have HN := hidM (hN.below HB.out)
  clear hN
  obtain ⟨who, t, z⟩ := s
  unfold sbV at HS
  simp only [c43] at HB HC HN HS ⊢
  go_enter Tryd.func24, Tryd.ntmps24
  go_upto_region 1 with fail
  generalize w.alloc (.cells #[.string o, .int .i64 k, .string n, .string who, .int .i64 t, .int .i64 z, .string m] 43) = W at *
  obtain ⟨g, hg⟩ : ∃ X, w.heap.size = X := ⟨_, rfl⟩
  rw [hg] at HC ⊢
  obtain ⟨k0, k1, k2, k3, k4, k5, k6⟩ := HC.out.seven
  go_wp2_with fail
  refine (HI.out _).mono ?_
  rintro _ w3 ⟨rfl, hw3⟩
  rw [hw3]
  clear hw3
  cases bi with
  | false =>
    have HR2 : Hid (R = 4) := by unfold Hid; rw [HR.out]; rfl
    clear HR
    go_wp2
    go_ret
    exact ⟨by rw [HR2.out]; rfl, HB.out⟩
  | true =>
    go_wp2_with fail
    refine (HM.out _ HN.out).mono ?_
    rintro _ w4 ⟨rfl, hw4⟩
    rw [hw4]
    clear hw4
    cases bm with
    | true =>
      have hx : NM.toList = [] := by simpa using hem
      have HR2 : Hid (R = 4) := by unfold Hid; rw [HR.out]; rfl
      clear HR
      go_wp2
      go_ret
      exact ⟨by rw [HR2.out]; rfl, HB.out⟩
    | false =>
      have hx : ¬ NM.toList = [] := by simpa using hem
      go_wp2_with fail
      refine (HL.out _).mono ?_
      rintro _ w5 ⟨rfl, hw5⟩
      rw [hw5]
      clear hw5
      cases bl with
      | false =>
        have HR2 : Hid (R = 4) := by unfold Hid; rw [HR.out]; rfl
        clear HR
        go_wp2
        go_ret
        exact ⟨by rw [HR2.out]; rfl, HB.out⟩
      | true =>
        go_wp2_with fail
        refine (HS.out _).mono ?_
        rintro _ w6 ⟨rfl, hb6⟩
        have HB6 := hidM (HB.out.trans (hb6.mono HB.out.size))
        clear hb6
        cases bs with
        | false =>
          have HR2 : Hid (R = 4) := by unfold Hid; rw [HR.out]; rfl
          clear HR
          go_wp2
          go_ret
          exact ⟨by rw [HR2.out]; rfl, HB6.out⟩
        | true =>
          have HR2 : Hid (R = 0) := by unfold Hid; rw [HR.out]; rfl
          clear HR
          go_wp2
          go_ret
          exact ⟨by rw [HR2.out]; rfl, HB6.out⟩
end Go.Proofs.YtbghailohnppmaaDoor
namespace Go.Proofs.YtbghailohnppmaaDoor
open Go.RowKit

theorem tag_zero {o : ByteArray} {k : Int} {n : ByteArray} {s : Sb} (h : checkT o k n s = 0) : idB o.data.toList = true ∧ (nameL k).isEmpty = false ∧ lineB n.data.toList = true ∧ signedG (sgOf s) = true := by
  unfold checkT at h
  split at h
  · rename_i hg
    unfold tagG at hg
    simp only [Bool.and_eq_true, Bool.not_eq_true'] at hg
    exact ⟨hg.1, hg.2.1, hg.2.2.1, hg.2.2.2⟩
  · cases h
theorem nm_six (i : Nat) : (nm i).length ≤ 6 := by unfold nm; split <;> decide
theorem nameL_six (k : Int) : (nameL k).length ≤ 6 := by unfold nameL; split; exact nm_six _; decide
theorem nm_no (i : Nat) : (10 : UInt8) ∉ nm i := by unfold nm; split <;> decide
theorem nameL_no (k : Int) : (10 : UInt8) ∉ nameL k := by unfold nameL; split; exact nm_no _; decide
theorem lineB_size {n : ByteArray} (h : lineB n.data.toList = true) : n.size ≤ 100 := by
  unfold lineB at h
  simp only [Bool.and_eq_true, decide_eq_true_eq] at h
  have := h.1.1.2
  rw [sl_len] at this
  exact this
def lbOf (o : ByteArray) (k : Int) (n : ByteArray) (s : Sb) (m : ByteArray) : Lb := ⟨o.data.toList, nameL k, n.data.toList, sgOf s, m.data.toList⟩
def tagB (o : ByteArray) (k : Int) (n : ByteArray) (s : Sb) (m : ByteArray) : ByteArray := ⟨(tagL (lbOf o k n s m)).toArray⟩
theorem lb_ok {o : ByteArray} {k : Int} {n : ByteArray} {s : Sb} (m : ByteArray) (h : checkT o k n s = 0) : LbOk (lbOf o k n s m) := by
  obtain ⟨h1, _, h3, h4⟩ := tag_zero h
  exact ⟨idB_nl h1, nameL_no k, lineB_no h3, sg_ok h4⟩
set_option maxHeartbeats 4000000 in
set_option maxRecDepth 100000 in
theorem ftag_any (o : ByteArray) (k : Int) (n : ByteArray) (s : Sb) (m : ByteArray) (w : World) (hG : GT w) (hN : NamesAt w) (ho : o.size ≤ maxLen) (hm : m.size ≤ 140737488351232) :
    Calls Tryd.prog 20 #[.agg (c43 o k n s m)] w fun e w' => e = .returned (.tuple #[.string (if checkT o k n s = 0 then tagB o k n s m else ⟨#[]⟩), .int .i64 (checkT o k n s : Nat)]) ∧ Below w.heap.size w w' := by
  have HB0 : Hid (Below w.heap.size w (w.alloc (.cells (c43 o k n s m) 43))) := (Below.refl _ w).alloc (Nat.le_refl _) _
  have HC0 : Hid (LBox (w.alloc (.cells (c43 o k n s m) 43)) w.heap.size o k n s m) := heap_alloc_new w _
  have HCK := hidM (ctag_any o k n s m _ (hN.below HB0.out) ho)
  have HG := hidM hG
  have HN := hidM hN
  clear hG hN
  obtain ⟨E, hE⟩ : ∃ E, checkT o k n s = E := ⟨_, rfl⟩
  rw [hE] at HCK ⊢
  have HE := hidM hE
  clear hE
  cases E with
  | zero =>
    obtain ⟨hid, _, hln, hsg⟩ := tag_zero HE.out
    have e40 := id_size hid
    have en := lineB_size hln
    have sa := sgB_size s hsg
    have enm : (⟨(nameL k).toArray⟩ : ByteArray).size ≤ 6 := by rw [ba_size]; exact nameL_six k
    obtain ⟨a1, -, a2, a3, a4, a5⟩ := signed_facts hsg
    have HFA := hidM (fun V (hV : LaidAt V) => signature_any s V hV (by omega) (by omega) (by omega) (by omega))
    have HNM := hidM (fun V hV => name_any k V hV)
    have HTX : Hid ((tagB o k n s m).data.toList = wObject ++ o.data.toList ++ 10 :: (wType ++ (⟨(nameL k).toArray⟩ : ByteArray).data.toList ++ 10 :: (wTag ++ n.data.toList ++ 10 :: (wTagger ++ (sgB s).data.toList ++ 10 :: 10 :: m.data.toList)))) := rfl
    rw [if_pos rfl]
    generalize tagB o k n s m = TX at *
    generalize (⟨(nameL k).toArray⟩ : ByteArray) = NM at *
    generalize sgB s = SA at *
    clear a1 a2 a3 a4 a5 hid hln hsg HE
    obtain ⟨A1, hA1⟩ : ∃ Q, (⟨#[111, 98, 106, 101, 99, 116, 32]⟩ : ByteArray) ++ o = Q := ⟨_, rfl⟩
    have eA1 : A1.size ≤ 47 := by rw [← hA1, ByteArray.size_append]; show 7 + o.size ≤ 47; omega
    have nA1 : ¬ 9223372036854775807 < 7 + o.size := by omega
    obtain ⟨A2, hA2⟩ : ∃ Q, A1 ++ (⟨#[10]⟩ : ByteArray) = Q := ⟨_, rfl⟩
    obtain ⟨lA, sA⟩ := join3 hA1 hA2
    have eA2 : A2.size ≤ 48 := by rw [sA]; show 7 + o.size + 1 ≤ 48; omega
    have nA2 : ¬ 9223372036854775807 < A1.size + 1 := by omega
    have HLA := hidM lA
    clear lA sA
    obtain ⟨B1, hB1⟩ : ∃ Q, (⟨#[116, 121, 112, 101, 32]⟩ : ByteArray) ++ NM = Q := ⟨_, rfl⟩
    have eB1 : B1.size ≤ 11 := by rw [← hB1, ByteArray.size_append]; show 5 + NM.size ≤ 11; omega
    have nB1 : ¬ 9223372036854775807 < 5 + NM.size := by omega
    obtain ⟨B2, hB2⟩ : ∃ Q, B1 ++ (⟨#[10]⟩ : ByteArray) = Q := ⟨_, rfl⟩
    obtain ⟨lB, sB⟩ := join3 hB1 hB2
    have eB2 : B2.size ≤ 12 := by rw [sB]; show 5 + NM.size + 1 ≤ 12; omega
    have nB2 : ¬ 9223372036854775807 < B1.size + 1 := by omega
    have HLB := hidM lB
    clear lB sB
    obtain ⟨C1, hC1⟩ : ∃ Q, (⟨#[116, 97, 103, 32]⟩ : ByteArray) ++ n = Q := ⟨_, rfl⟩
    have eC1 : C1.size ≤ 104 := by rw [← hC1, ByteArray.size_append]; show 4 + n.size ≤ 104; omega
    have nC1 : ¬ 9223372036854775807 < 4 + n.size := by omega
    obtain ⟨C2, hC2⟩ : ∃ Q, C1 ++ (⟨#[10]⟩ : ByteArray) = Q := ⟨_, rfl⟩
    obtain ⟨lC, sC⟩ := join3 hC1 hC2
    have eC2 : C2.size ≤ 105 := by rw [sC]; show 4 + n.size + 1 ≤ 105; omega
    have nC2 : ¬ 9223372036854775807 < C1.size + 1 := by omega
    have HLC := hidM lC
    clear lC sC
    obtain ⟨D1, hD1⟩ : ∃ Q, (⟨#[116, 97, 103, 103, 101, 114, 32]⟩ : ByteArray) ++ SA = Q := ⟨_, rfl⟩
    have eD1 : D1.size ≤ 137 := by rw [← hD1, ByteArray.size_append]; show 7 + SA.size ≤ 137; omega
    have nD1 : ¬ 9223372036854775807 < 7 + SA.size := by omega
    obtain ⟨D2, hD2⟩ : ∃ Q, D1 ++ (⟨#[10]⟩ : ByteArray) = Q := ⟨_, rfl⟩
    obtain ⟨lD, sD⟩ := join3 hD1 hD2
    have eD2 : D2.size ≤ 138 := by rw [sD]; show 7 + SA.size + 1 ≤ 138; omega
    have nD2 : ¬ 9223372036854775807 < D1.size + 1 := by omega
    have HLD := hidM lD
    clear lD sD
    obtain ⟨M1, hM1⟩ : ∃ Q, (⟨#[10]⟩ : ByteArray) ++ m = Q := ⟨_, rfl⟩
    have l7 : M1.data.toList = 10 :: m.data.toList := by rw [← hM1]; simp [ByteArray.data_append]
    have z1 : M1.size ≤ 140737488351233 := by rw [← hM1, ByteArray.size_append]; show 1 + m.size ≤ _; omega
    have n7 : ¬ 9223372036854775807 < 1 + m.size := by omega
    have HL7 := hidM l7
    clear l7
    obtain ⟨who, t, z⟩ := s
    unfold sbV at HFA
    simp only [c43] at HB0 HC0 HCK ⊢
    go_enter Tryd.func20, Tryd.ntmps20
    go_wp2_with fail
    refine HCK.out.mono ?_
    rintro _ w1 ⟨rfl, hb1⟩
    have HC1 := hidM (HC0.out.below hb1)
    have HB1 := hidM (HB0.out.trans (hb1.mono HB0.out.size))
    have HX0 : Hid (BuX w1 w1.heap.size [] (w1.alloc (.cells #[.pointer none, .slice none 0 0] 59))) := ⟨Lib.fresh_isBuilder 59 5 w1, (Below.refl _ w1).alloc (Nat.le_refl _) _, by rw [World.size_alloc]; omega⟩
    have HCW : Hid (∀ V, Below w1.heap.size w1 V → LBox V w.heap.size o k n ⟨who, t, z⟩ m) := fun V hV => HC1.out.below hV
    clear hb1 HCK HC0 HB0
    have hPA := put_any A2 HX0.out (by simp; omega)
    obtain ⟨c0, _⟩ := (HCW.out _ HX0.out.bel).seven
    have HPA := hidM hPA
    clear hPA
    go_wp2_with fail
    generalize w1.alloc (.cells #[.pointer none, .slice none 0 0] 59) = W1 at *
    generalize hBB : w1.heap.size = B at *
    have HBS : Hid (∀ V, Below B w1 V → Below w.heap.size w V) := fun V hV => HB1.out.trans (hV.mono (by rw [← hBB]; exact HB1.out.size))
    refine HPA.out.mono ?_
    rintro _ w2 ⟨rfl, hx2⟩
    have HX2 := hidM hx2
    rw [List.nil_append] at HX2
    clear hx2 c0 HPA HX0 hBB
    obtain ⟨_, c1, _⟩ := (HCW.out _ HX2.out.bel).seven
    have HPB := hidM (put_any B2 HX2.out (by rw [sl_len]; omega))
    go_wp2_with fail
    refine (HNM.out _ (HN.out.below (HBS.out _ HX2.out.bel))).mono ?_
    rintro _ w3 ⟨rfl, hw3⟩
    rw [hw3]
    clear hw3 w3
    go_wp2_with fail
    refine HPB.out.mono ?_
    rintro _ w3 ⟨rfl, hx3⟩
    have HX3 := hidM hx3
    clear hx3 c1 HPB HX2
    obtain ⟨_,_, c2, _⟩ := (HCW.out _ HX3.out.bel).seven
    have HPC := hidM (put_any C2 HX3.out (by rw [List.length_append, sl_len, sl_len]; omega))
    go_wp2_with fail
    refine HPC.out.mono ?_
    rintro _ w4 ⟨rfl, hx4⟩
    have HX4 := hidM hx4
    clear hx4 c2 HPC HX3
    obtain ⟨_,_,_, c3, c4, c5, _⟩ := (HCW.out _ HX4.out.bel).seven
    go_wp2_with fail
    refine (HFA.out _ (HG.out.below (HBS.out _ HX4.out.bel)).laid).mono ?_
    rintro _ w5 ⟨rfl, hb5⟩
    have HX5 := hidM (HX4.out.next hb5)
    clear hb5 c3 c4 c5 HX4
    have HPD := hidM (put_any D2 HX5.out (by simp only [List.length_append, sl_len]; omega))
    go_wp2_with fail
    refine HPD.out.mono ?_
    rintro _ w6 ⟨rfl, hx6⟩
    have HX6 := hidM hx6
    clear hx6 HPD HX5
    obtain ⟨_,_,_,_,_,_, c6⟩ := (HCW.out _ HX6.out.bel).seven
    have HPM := hidM (put_any M1 HX6.out (by simp only [List.length_append, sl_len]; omega))
    go_wp2_with fail
    refine HPM.out.mono ?_
    rintro _ w7 ⟨rfl, hx7⟩
    have HX7 := hidM hx7
    clear hx7 HPM HX6 c6
    have hfin : A2.data.toList ++ B2.data.toList ++ C2.data.toList ++ D2.data.toList ++ M1.data.toList = TX.data.toList := by
      rw [HTX.out, HLA.out, HLB.out, HLC.out, HLD.out, HL7.out]
      simp [wObject, wType, wTag, wTagger]
    have HST2 := hidM (Tryd.Builder_String_any B B _ w7 HX7.out.bu HX7.out.lt)
    rw [hfin] at HST2
    have hba : (⟨TX.data.toList.toArray⟩ : ByteArray) = TX := by cases TX; rfl
    rw [hba] at HST2
    clear hfin hba
    go_wp2_with fail
    refine HST2.out.mono ?_
    rintro _ w8 ⟨rfl, hb8⟩
    have HB8 := hidM (HBS.out _ (HX7.out.bel.trans hb8))
    clear hb8
    go_wp2
    go_ret2
    exact ⟨rfl, HB8.out⟩
  | succ j =>
    have hne : ((j + 1 : Nat) : Int) ≠ 0 := by omega
    rw [if_neg (by omega)]
    generalize ((j + 1 : Nat) : Int) = E at *
    have hb : (E != 0) = true := by simpa using hne
    simp only [c43] at HB0 HC0 HCK ⊢
    clear HE
    go_enter Tryd.func20, Tryd.ntmps20
    go_wp2_with fail
    refine HCK.out.mono ?_
    rintro _ w1 ⟨rfl, hb1⟩
    have HB1 := hidM (HB0.out.trans (hb1.mono HB0.out.size))
    clear hb1
    go_wp2
    go_ret2
    exact ⟨rfl, HB1.out⟩
end Go.Proofs.YtbghailohnppmaaDoor
namespace Go.Proofs.YtbghailohnppmaaDoor
open Go.RowKit

def z43 : Array Value := #[.string ⟨#[]⟩, .int .i64 0, .string ⟨#[]⟩, .string ⟨#[]⟩, .int .i64 0, .int .i64 0, .string ⟨#[]⟩]
theorem size43 : (Tryd.prog.info? 43).map (·.size) = some 7 := by kernel_rfl
theorem enters45 : ∀ args w, (callFunc 45 args).run Tryd.prog w = .ok (.enter 45 args) w := enters_of Tryd.func45 (by kernel_rfl) rfl
theorem ones43 (o n w m : ByteArray) (k i j : Int) : (#[.string o, .int .i64 k, .string n, .string w, .int .i64 i, .int .i64 j, .string m] : Array Value).all (·.oneCell') = true := by simp [Value.oneCell']
end Go.Proofs.YtbghailohnppmaaDoor
namespace Go.Proofs.YtbghailohnppmaaDoor
open Go.RowKit

theorem NamesAt.but {b : Nat} {w w' : World} (h : NamesAt w) (hb : But b w.heap.size w w') (h5 : 5 ≤ b) : NamesAt w' := by
  have h0 := h.1
  exact ⟨Nat.lt_of_lt_of_le h0 hb.size, fun i hi => (cell_eq (hb.block 0 h0 (by omega)) i).trans (h.2 i hi)⟩
/-- the boxes of a tag's reading -/
structure LX (w : World) (b : Nat) (cs : Array Value) (s : ByteArray) (V : World) : Prop where
  but : But b w.heap.size w V
  z : V.heap[w.heap.size]? = some (.cells z43 43 (0, 0))
  c : V.heap[w.heap.size + 1]? = some (.cells cs 43 (0, 0))
  rd : RB V b s
  gt : GT V
  nm : NamesAt V
theorem LX.next {w : World} {b : Nat} {cs : Array Value} {s r : ByteArray} {V V' : World} (h : LX w b cs s V) (hb : But b V.heap.size V V') (hr : RB V' b r) (h5 : 5 ≤ b) (hlt : b < w.heap.size) : LX w b cs r V' :=
  ⟨h.but.trans (hb.mono h.but.size), box_but h.z hb (by omega), box_but h.c hb (by omega), hr, h.gt.but hb h5, h.nm.but hb h5⟩
theorem LX.store {w : World} {b : Nat} {cs : Array Value} {s : ByteArray} {V : World} (h : LX w b cs s V) (cs' : Array Value) (hlt : b < w.heap.size) (h5 : 5 ≤ b) : LX w b cs' s (V.setRow (w.heap.size + 1) cs') := by
  have hbt : But b w.heap.size V (V.setRow (w.heap.size + 1) cs') := setRow_but (But.refl b w.heap.size V) (by omega)
  have ho : ∀ k, k ≠ w.heap.size + 1 → (V.setRow (w.heap.size + 1) cs').heap[k]? = V.heap[k]? := fun k hk => setRow_other V _ k cs' hk
  have h0 := h.nm.1
  exact ⟨h.but.trans hbt, (ho _ (by omega)).trans h.z, setRow_heap V (w.heap.size + 1) cs cs' 43 (0, 0) h.c, (ho b (by omega)).trans h.rd, h.gt.blocks (by simp) (fun k hk => ho k (by omega)),
    Nat.lt_of_lt_of_le h0 (by simp), fun i hi => (cell_eq (ho 0 (by omega)) i).trans (h.nm.2 i hi)⟩
theorem LX.set {w : World} {b : Nat} {cs : Array Value} {s : ByteArray} {V : World} (h : LX w b cs s V) (i : Nat) (x : Value) (hlt : b < w.heap.size) (h5 : 5 ≤ b) : LX w b (cs.setIfInBounds i x) s (V.setCell ⟨w.heap.size + 1, i, none⟩ x) := by
  rw [setCell_eq_setRow V _ i cs 43 (0, 0) x h.c]
  exact h.store _ hlt h5
theorem LX.cell {w : World} {b : Nat} {cs : Array Value} {s : ByteArray} {V : World} (h : LX w b cs s V) (i : Nat) {v : Value} (hv : cs[i]? = some v) : V.cell? ⟨w.heap.size + 1, i, none⟩ = some v := by
  rw [cell_of_row _ _ _ _ 43 (0, 0) h.c]; exact hv
theorem LX.free {w : World} {b : Nat} {cs : Array Value} {s : ByteArray} {V : World} (h : LX w b cs s V) (i : Nat) : V.frozen? ⟨w.heap.size + 1, i, none⟩ = false := by simp [World.frozen?, h.c]
theorem LX.sign {w V : World} {b : Nat} {o n m r : ByteArray} {k : Int} {s : Sb} (h : LX w b (c43 o k n s m) r V) (g : Sb) (hlt : b < w.heap.size) (h5 : 5 ≤ b) :
    LX w b (c43 o k n g m) r (((V.setCell ⟨w.heap.size + 1, 3, none⟩ (.string g.who)).setCell ⟨w.heap.size + 1, 4, none⟩ (.int .i64 g.time)).setCell ⟨w.heap.size + 1, 5, none⟩ (.int .i64 g.zone)) :=
  ((h.set 3 (.string g.who) hlt h5).set 4 (.int .i64 g.time) hlt h5).set 5 (.int .i64 g.zone) hlt h5
def lbV (c : Lb) : Array Value := c43 (baL c.object) (kindL c.kind : Nat) (baL c.name) (sbOf c.tagger) (baL c.message)
def LblPost (b : Nat) (s : ByteArray) (w : World) (e : Ending) (w' : World) : Prop := But b w.heap.size w w' ∧ match labelP s.data.toList with
  | none => e = gave
  | some c => e = .returned (.agg (lbV c))
theorem lbl_fail {b : Nat} {s : ByteArray} {w w' : World} (h : labelP s.data.toList = none) (hb : But b w.heap.size w w') : LblPost b s w gave w' := by
  unfold LblPost
  rw [h]
  exact ⟨hb, rfl⟩
theorem lbl_done {b : Nat} {s : ByteArray} {w w' : World} {c : Lb} (h : labelP s.data.toList = some c) (hb : But b w.heap.size w w') : LblPost b s w (.returned (.agg (lbV c))) w' := by
  unfold LblPost
  rw [h]
  exact ⟨hb, rfl⟩
theorem lab_1 {l : List UInt8} (h : lineP wObject l = none) : labelP l = none := by unfold labelP; rw [h]
theorem lab_2 {l o r : List UInt8} (h : lineP wObject l = some (o, r)) (h2 : lineP wType r = none) : labelP l = none := by unfold labelP; rw [h]; simp only; rw [h2]
theorem lab_3 {l o r k r2 : List UInt8} (h : lineP wObject l = some (o, r)) (h2 : lineP wType r = some (k, r2)) (h3 : lineP wTag r2 = none) : labelP l = none := by unfold labelP; rw [h]; simp only; rw [h2]; simp only; rw [h3]
theorem lab_4 {l o r k r2 n r3 : List UInt8} (h : lineP wObject l = some (o, r)) (h2 : lineP wType r = some (k, r2)) (h3 : lineP wTag r2 = some (n, r3)) (h4 : signLn wTagger r3 = none) : labelP l = none := by unfold labelP; rw [h]; simp only; rw [h2]; simp only; rw [h3]; simp only; rw [h4]
theorem lab_5 {l o r k r2 n r3 r4 : List UInt8} {g : Sg} (h : lineP wObject l = some (o, r)) (h2 : lineP wType r = some (k, r2)) (h3 : lineP wTag r2 = some (n, r3)) (h4 : signLn wTagger r3 = some (g, r4)) : labelP l = (msgP r4).map fun m => ⟨o, k, n, g, m⟩ := by
  unfold labelP
  rw [h]; simp only; rw [h2]; simp only; rw [h3]; simp only; rw [h4]; simp only
  unfold msgP
  split
  · rfl
  · rename_i hx
    split
    · rename_i m
      exact absurd rfl (hx m)
    · rfl
set_option maxHeartbeats 4000000 in
set_option maxRecDepth 20000 in
theorem label_any (b : Nat) (s : ByteArray) (w : World) (hG : GT w) (hN : NamesAt w) (hR : RB w b s) (h5 : 5 ≤ b) (hs : s.size ≤ 281474976710656) :
    Calls Tryd.prog 46 #[.pointer (some ⟨b, 0, none⟩)] w fun e w' => LblPost b s w e w' := by
  have hblt := hR.lt
  have HX0 : Hid (LX w b z43 s ((w.alloc (.cells z43 43)).alloc (.cells z43 43))) := by
    have h2 : Below w.heap.size w ((w.alloc (.cells z43 43)).alloc (.cells z43 43)) := ((Below.refl _ w).alloc (Nat.le_refl _) _).alloc (by simp) _
    exact ⟨But.of_below h2, heap_alloc2_old _ _ _, heap_alloc2_new _ _ _, hR.below h2, hG.below h2, hN.below h2⟩
  clear hG hN hR
  unfold z43 at HX0
  cases e1 : lineP wObject s.data.toList with
  | none =>
    have HL := hidM (fun V (hR : RB V b s) => line_no b s ⟨#[111, 98, 106, 101, 99, 116, 32]⟩ V hR hs e1)
    have HNO := hidM (lab_1 e1)
    clear e1
    go_enter Tryd.func46, Tryd.ntmps46
    go_wp2_with fail
    refine (HL.out _ HX0.out.rd).mono ?_
    rintro _ wz ⟨rfl, hb⟩
    have HBZ := hidM (HX0.out.but.trans (hb.mono HX0.out.but.size))
    clear hb
    unfold gave
    go_wp2
    exact ⟨rfl, lbl_fail HNO.out HBZ.out⟩
  | some xr =>
    obtain ⟨o, r1⟩ := xr
    have hl1 := lineP_len e1
    rw [sl_len] at hl1
    have HE1 := hidM e1
    have HL := hidM (fun V (hR : RB V b s) => line_ok b s ⟨#[111, 98, 106, 101, 99, 116, 32]⟩ V o r1 hR hs e1)
    clear e1
    have hrs1 := ba_size r1
    have HRL1 : Hid ((⟨r1.toArray⟩ : ByteArray).data.toList = r1) := rfl
    generalize (⟨r1.toArray⟩ : ByteArray) = R1 at HL hrs1 HRL1
    obtain ⟨O, hO⟩ : ∃ O : ByteArray, ⟨o.toArray⟩ = O := ⟨_, rfl⟩
    have HO := hidM hO
    rw [hO] at HL
    clear hO
    have hs1 : R1.size ≤ 281474976710656 := by omega
    go_enter Tryd.func46, Tryd.ntmps46
    go_wp2_with fail
    refine (HL.out _ HX0.out.rd).mono ?_
    rintro _ W1 ⟨rfl, hr, hb⟩
    have HX1 := hidM (HX0.out.next hb hr h5 hblt)
    clear hb hr HX0 HL
    have f0 := HX1.out.free 0
    have q0 := HX1.out.cell 0 (v := .string ⟨#[]⟩) rfl
    go_upto_region 3 with fail
    have HX2 : Hid (LX w b (c43 O 0 ⟨#[]⟩ noS ⟨#[]⟩) R1 (W1.setCell ⟨w.heap.size + 1, 0, none⟩ (.string O))) := HX1.out.set 0 (.string O) hblt h5
    generalize W1.setCell ⟨w.heap.size + 1, 0, none⟩ (.string O) = W2 at HX2 ⊢
    clear HX1 f0 q0
    cases e2 : lineP wType r1 with
    | none =>
      have e2' : lineP wType R1.data.toList = none := by rw [HRL1.out]; exact e2
      have HL := hidM (fun V (hR : RB V b R1) => line_no b R1 ⟨#[116, 121, 112, 101, 32]⟩ V hR hs1 e2')
      have HNO := hidM (lab_2 HE1.out e2)
      clear e2'
      go_wp2_with fail
      refine (HL.out _ HX2.out.rd).mono ?_
      rintro _ wz ⟨rfl, hb⟩
      have HBZ := hidM (HX2.out.but.trans (hb.mono HX2.out.but.size))
      clear hb
      unfold gave
      go_wp2
      exact ⟨rfl, lbl_fail HNO.out HBZ.out⟩
    | some xr =>
      obtain ⟨k, r2⟩ := xr
      have hl2 := lineP_len e2
      have HE2 := hidM e2
      have e2' : lineP wType R1.data.toList = some (k, r2) := by rw [HRL1.out]; exact e2
      have HL := hidM (fun V (hR : RB V b R1) => line_ok b R1 ⟨#[116, 121, 112, 101, 32]⟩ V k r2 hR hs1 e2')
      clear e2 e2'
      have hrs2 := ba_size r2
      have HRL2 : Hid ((⟨r2.toArray⟩ : ByteArray).data.toList = r2) := rfl
      generalize (⟨r2.toArray⟩ : ByteArray) = R2 at HL hrs2 HRL2
      have HKL : Hid ((⟨k.toArray⟩ : ByteArray).data.toList = k) := rfl
      generalize (⟨k.toArray⟩ : ByteArray) = K at HL HKL
      have HKD := hidM (fun V hV => kind_any K V hV)
      rw [HKL.out] at HKD
      have hs2 : R2.size ≤ 281474976710656 := by omega
      go_wp2_with fail
      refine (HL.out _ HX2.out.rd).mono ?_
      rintro _ W1 ⟨rfl, hr, hb⟩
      have HX3 := hidM (HX2.out.next hb hr h5 hblt)
      clear hb hr HX2 HL
      go_wp2_with fail
      refine (HKD.out _ HX3.out.nm).mono ?_
      rintro _ wq ⟨rfl, hq⟩
      rw [hq]
      clear hq HKD
      have f0 := HX3.out.free 1
      have q0 := HX3.out.cell 1 (v := .int .i64 0) rfl
      go_upto_region 4 with fail
      have HX4 : Hid (LX w b (c43 O (kindL k : Nat) ⟨#[]⟩ noS ⟨#[]⟩) R2 (W1.setCell ⟨w.heap.size + 1, 1, none⟩ (.int .i64 (kindL k : Nat)))) := HX3.out.set 1 (.int .i64 (kindL k : Nat)) hblt h5
      generalize W1.setCell ⟨w.heap.size + 1, 1, none⟩ (.int .i64 (kindL k : Nat)) = W3 at HX4 ⊢
      clear HX3 f0 q0
      cases e3 : lineP wTag r2 with
      | none =>
        have e3' : lineP wTag R2.data.toList = none := by rw [HRL2.out]; exact e3
        have HL := hidM (fun V (hR : RB V b R2) => line_no b R2 ⟨#[116, 97, 103, 32]⟩ V hR hs2 e3')
        have HNO := hidM (lab_3 HE1.out HE2.out e3)
        clear e3'
        go_wp2_with fail
        refine (HL.out _ HX4.out.rd).mono ?_
        rintro _ wz ⟨rfl, hb⟩
        have HBZ := hidM (HX4.out.but.trans (hb.mono HX4.out.but.size))
        clear hb
        unfold gave
        go_wp2
        exact ⟨rfl, lbl_fail HNO.out HBZ.out⟩
      | some xr =>
        obtain ⟨n, r3⟩ := xr
        have hl3 := lineP_len e3
        have HE3 := hidM e3
        have e3' : lineP wTag R2.data.toList = some (n, r3) := by rw [HRL2.out]; exact e3
        have HL := hidM (fun V (hR : RB V b R2) => line_ok b R2 ⟨#[116, 97, 103, 32]⟩ V n r3 hR hs2 e3')
        clear e3 e3'
        have hrs3 := ba_size r3
        have HRL3 : Hid ((⟨r3.toArray⟩ : ByteArray).data.toList = r3) := rfl
        generalize (⟨r3.toArray⟩ : ByteArray) = R3 at HL hrs3 HRL3
        obtain ⟨N, hN⟩ : ∃ O : ByteArray, ⟨n.toArray⟩ = O := ⟨_, rfl⟩
        have HN := hidM hN
        rw [hN] at HL
        clear hN
        have hs3 : R3.size ≤ 281474976710656 := by omega
        go_wp2_with fail
        refine (HL.out _ HX4.out.rd).mono ?_
        rintro _ W1 ⟨rfl, hr, hb⟩
        have HX5 := hidM (HX4.out.next hb hr h5 hblt)
        clear hb hr HX4 HL
        have f0 := HX5.out.free 2
        have q0 := HX5.out.cell 2 (v := .string ⟨#[]⟩) rfl
        go_upto_region 5 with fail
        have HX6 : Hid (LX w b (c43 O (kindL k : Nat) N noS ⟨#[]⟩) R3 (W1.setCell ⟨w.heap.size + 1, 2, none⟩ (.string N))) := HX5.out.set 2 (.string N) hblt h5
        generalize W1.setCell ⟨w.heap.size + 1, 2, none⟩ (.string N) = W4 at HX6 ⊢
        clear HX5 f0 q0
        have HSG := hidM (fun V (hG : GT V) (hR : RB V b R3) => sign_any b R3 ⟨#[116, 97, 103, 103, 101, 114, 32]⟩ V hG hR h5 hs3)
        have hwg : (⟨#[116, 97, 103, 103, 101, 114, 32]⟩ : ByteArray).data.toList = wTagger := rfl
        rw [hwg, HRL3.out] at HSG
        unfold SignPost at HSG
        clear hwg
        cases e4 : signLn wTagger r3 with
        | none =>
          rw [e4] at HSG
          have HNO := hidM (lab_4 HE1.out HE2.out HE3.out e4)
          clear e4
          unfold gave at HSG
          go_wp2_with fail
          refine (HSG.out _ HX6.out.gt HX6.out.rd).mono ?_
          rintro _ wz ⟨hb, rfl⟩
          have HBZ := hidM (HX6.out.but.trans (hb.mono HX6.out.but.size))
          clear hb
          go_wp2
          exact ⟨rfl, lbl_fail HNO.out HBZ.out⟩
        | some xr =>
          obtain ⟨g, r4⟩ := xr
          rw [e4] at HSG
          have HE4 := hidM (lab_5 HE1.out HE2.out HE3.out e4)
          clear e4
          have hrs4 := ba_size r4
          have HRL4 : Hid ((⟨r4.toArray⟩ : ByteArray).data.toList = r4) := rfl
          simp only at HSG
          generalize (⟨r4.toArray⟩ : ByteArray) = R4 at HSG hrs4 HRL4
          have HGV : Hid (sgV g = .agg #[.string (sbOf g).who, .int .i64 (sbOf g).time, .int .i64 (sbOf g).zone]) := rfl
          rw [HGV.out] at HSG
          obtain ⟨A, hA⟩ : ∃ A, sbOf g = A := ⟨_, rfl⟩
          have HA := hidM hA
          rw [hA] at HSG
          clear HGV hA
          go_wp2_with fail
          refine (HSG.out _ HX6.out.gt HX6.out.rd).mono ?_
          rintro _ W1 ⟨hb, rfl, hr⟩
          have HX7 := hidM (HX6.out.next hb hr h5 hblt)
          clear hb hr HX6 HSG
          have f3 := HX7.out.free 3
          have f4 := HX7.out.free 4
          have f5 := HX7.out.free 5
          have q3 := HX7.out.cell 3 (v := .string ⟨#[]⟩) rfl
          have q4 := HX7.out.cell 4 (v := .int .i64 0) rfl
          have q5 := HX7.out.cell 5 (v := .int .i64 0) rfl
          go_upto_region 6 with fail
          have HX8 := hidM (HX7.out.sign A hblt h5)
          generalize (((W1.setCell ⟨w.heap.size + 1, 3, none⟩ (.string A.who)).setCell ⟨w.heap.size + 1, 4, none⟩ (.int .i64 A.time)).setCell ⟨w.heap.size + 1, 5, none⟩ (.int .i64 A.zone)) = W5 at HX8 ⊢
          clear HX7 f3 f4 f5 q3 q4 q5
          cases hm : msgP r4 with
          | none =>
            have HMS := hidM (fun V (hR : RB V b R4) => message_no b R4 V hR (by rw [HRL4.out]; exact hm))
            have HNO : Hid (labelP s.data.toList = none) := by unfold Hid; rw [HE4.out, hm]; rfl
            clear hm
            unfold gave at HMS
            go_wp2_with fail
            refine (HMS.out _ HX8.out.rd).mono ?_
            rintro _ wq ⟨rfl, hq⟩
            rw [hq]
            clear hq
            go_wp2
            exact ⟨rfl, lbl_fail HNO.out HX8.out.but⟩
          | some mm =>
            have HMS := hidM (fun V (hR : RB V b R4) => message_ok b R4 V mm hR (by rw [HRL4.out]; exact hm))
            have HYS : Hid (labelP s.data.toList = some ⟨o, k, n, g, mm⟩) := by unfold Hid; rw [HE4.out, hm]; rfl
            clear hm
            obtain ⟨M, hM⟩ : ∃ O : ByteArray, ⟨mm.toArray⟩ = O := ⟨_, rfl⟩
            have HM := hidM hM
            rw [hM] at HMS
            clear hM
            go_wp2_with fail
            refine (HMS.out _ HX8.out.rd).mono ?_
            rintro _ wq ⟨rfl, hq⟩
            rw [hq]
            clear hq HMS
            have f6 := HX8.out.free 6
            have q6 := HX8.out.cell 6 (v := .string ⟨#[]⟩) rfl
            go_upto_region 7 with fail
            have HX9 : Hid (LX w b (c43 O (kindL k : Nat) N A M) R4 (W5.setCell ⟨w.heap.size + 1, 6, none⟩ (.string M))) := HX8.out.set 6 (.string M) hblt h5
            generalize W5.setCell ⟨w.heap.size + 1, 6, none⟩ (.string M) = W6 at HX9 ⊢
            clear HX8 f6 q6
            have q0 := HX9.out.cell 0 (v := .string O) rfl
            have q1 := HX9.out.cell 1 (v := .int .i64 (kindL k : Nat)) rfl
            have q2 := HX9.out.cell 2 (v := .string N) rfl
            have q3 := HX9.out.cell 3 (v := .string A.who) rfl
            have q4 := HX9.out.cell 4 (v := .int .i64 A.time) rfl
            have q5 := HX9.out.cell 5 (v := .int .i64 A.zone) rfl
            have q6 := HX9.out.cell 6 (v := .string M) rfl
            go_wp2_with (refine wpList_store_row rfl 43 (.tmp 2) (.tmp 20) rfl w.heap.size #[.string O, .int .i64 (kindL k : Nat), .string N, .string A.who, .int .i64 A.time, .int .i64 A.zone, .string M] rfl rfl 43 z43 HX9.out.z size43 rfl (ones43 _ _ _ _ _ _ _) ?_)
            exact bodyPost_ret (results_cell_row rfl _ _ w.heap.size 43 #[.string O, .int .i64 (kindL k : Nat), .string N, .string A.who, .int .i64 A.time, .int .i64 A.zone, .string M] (0, 0) _ rfl (setRow_heap _ _ _ _ 43 _ HX9.out.z) Tryd.underlying43 rfl size43) rfl (by
              have := lbl_done (w := w) (b := b) HYS.out (setRow_but (c := #[.string O, .int .i64 (kindL k : Nat), .string N, .string A.who, .int .i64 A.time, .int .i64 A.zone, .string M]) HX9.out.but (Nat.le_refl _))
              unfold lbV c43 baL at this
              simp only [HO.out, HN.out, HA.out, HM.out] at this
              exact this)
end Go.Proofs.YtbghailohnppmaaDoor
namespace Go.Proofs.YtbghailohnppmaaDoor
open Go.RowKit

set_option maxRecDepth 20000 in
theorem parse2_some (C P b : Nat) (s : ByteArray) (W : World) (c : Lb) (hP : W.heap[P]? = some (.cells #[.pointer (some ⟨b, 0, none⟩)] 68 (0, 0))) (hC : W.heap[C]? = some (.cells z43 43 (0, 0)))
    (hG : GT W) (hN : NamesAt W) (hR : RB W b s) (h5 : 5 ≤ b) (hs : s.size ≤ 281474976710656) (hCb : C ≠ b) (hc : labelP s.data.toList = some c) :
    Calls Tryd.prog 45 #[.pointer (some ⟨P, 0, none⟩), .pointer (some ⟨C, 0, none⟩)] W fun e w' => e = .returned (.tuple #[]) ∧ ∃ w1, But b W.heap.size W w1 ∧ w' = w1.setRow C (lbV c) := by
  have HC := hidM (label_any b s W hG hN hR h5 hs)
  unfold LblPost at HC
  rw [hc] at HC
  have cp : W.cell? ⟨P, 0, none⟩ = some (.pointer (some ⟨b, 0, none⟩)) := by rw [cell_of_row W P _ _ 68 (0, 0) hP]; rfl
  have HX := hidM hC
  clear hc hP hC hG hN hR
  unfold lbV c43 at HC ⊢
  simp only at HC
  go_enter Tryd.func45, Tryd.ntmps45
  go_wp2_with fail
  refine HC.out.mono ?_
  rintro _ w1 ⟨hb1, rfl⟩
  have HB1 := hidM hb1
  have HX1 := hidM (box_but HX.out hb1 hCb)
  clear hb1
  go_wp2_with (refine wpList_store_row rfl 43 (.tmp 1) (.tmp 3) rfl C #[.string (baL c.object), .int .i64 (kindL c.kind : Nat), .string (baL c.name), .string (sbOf c.tagger).who, .int .i64 (sbOf c.tagger).time, .int .i64 (sbOf c.tagger).zone, .string (baL c.message)] rfl rfl 43 z43 HX1.out size43 rfl (ones43 _ _ _ _ _ _ _) ?_)
  go_end0
  exact ⟨rfl, _, HB1.out, rfl⟩
set_option maxRecDepth 20000 in
theorem parse2_none (C P b : Nat) (s : ByteArray) (W : World) (hP : W.heap[P]? = some (.cells #[.pointer (some ⟨b, 0, none⟩)] 68 (0, 0)))
    (hG : GT W) (hN : NamesAt W) (hR : RB W b s) (h5 : 5 ≤ b) (hs : s.size ≤ 281474976710656) (hc : labelP s.data.toList = none) :
    Calls Tryd.prog 45 #[.pointer (some ⟨P, 0, none⟩), .pointer (some ⟨C, 0, none⟩)] W fun e w' => e = gave ∧ But b W.heap.size W w' := by
  have HC := hidM (label_any b s W hG hN hR h5 hs)
  unfold LblPost at HC
  rw [hc] at HC
  have cp : W.cell? ⟨P, 0, none⟩ = some (.pointer (some ⟨b, 0, none⟩)) := by rw [cell_of_row W P _ _ 68 (0, 0) hP]; rfl
  clear hc hP hG hN hR
  unfold gave at HC
  simp only at HC
  go_enter Tryd.func45, Tryd.ntmps45
  go_wp2_with fail
  refine HC.out.mono ?_
  rintro _ w1 ⟨hb1, rfl⟩
  have HB1 := hidM hb1
  clear hb1
  go_wp2
  exact ⟨rfl, rfl, HB1.out⟩
structure Rdl (H : Nat) (s : ByteArray) (W : World) : Prop where
  c : W.heap[H]? = some (.cells z43 43 (0, 0))
  r : RB W (H + 1) s
  p : W.heap[H + 2]? = some (.cells #[.pointer (some ⟨H + 1, 0, none⟩)] 68 (0, 0))
  gt : GT W
  nm : NamesAt W
  size : W.heap.size = H + 3
  five : 5 ≤ H + 1
theorem patt2_some (H : Nat) (s : ByteArray) (W : World) (c : Lb) (h : Rdl H s W) (hs : s.size ≤ 281474976710656) (hc : labelP s.data.toList = some c) :
    Calls Tryd.prog 37 #[.func (.func 45) #[] #[.pointer (some ⟨H + 2, 0, none⟩), .pointer (some ⟨H, 0, none⟩)]] W fun e w' => e = .returned (.int .i64 0) ∧ Below H W w' ∧ w'.heap[H]? = some (.cells (lbV c) 43 (0, 0)) := by
  have hz := h.size
  have hb : Below W.heap.size W (W.alloc (.cells #[.int .i64 0] 28)) := (Below.refl _ W).alloc (Nat.le_refl _) _
  have nw : (W.alloc (.cells #[.int .i64 0] 28)).heap[W.heap.size]? = some (.cells #[.int .i64 0] 28 (0, 0)) := heap_alloc_new W _
  have sz : (W.alloc (.cells #[.int .i64 0] 28)).heap.size = H + 4 := by rw [World.size_alloc, hz]
  have main := parse2_some H (H + 2) (H + 1) s _ c (box_bel h.p hb) (box_bel h.c hb) (h.gt.below hb) (h.nm.below hb) (h.r.below hb) h.five hs (by omega) hc
  refine (attempt_ok 45 _ W (fun w' => Below H W w' ∧ w'.heap[H]? = some (.cells (lbV c) 43 (0, 0))) enters45 (main.mono ?_)).mono ?_
  · rintro e w' ⟨rfl, w1, hb1, rfl⟩
    rw [sz] at hb1
    have hl : w1.heap[H]? = some (.cells z43 43 (0, 0)) := (hb1.block H (by omega) (by omega)).trans (box_bel h.c hb)
    have ht : ∀ k, k ≠ H → (w1.setRow H (lbV c)).heap[k]? = w1.heap[k]? := fun k hk => setRow_other w1 H k _ hk
    refine ⟨rfl, ?_, ?_, setRow_heap w1 H _ _ 43 (0, 0) hl⟩
    · rw [ht _ (by omega), hb1.block _ (by omega) (by omega)]; exact nw
    · exact ⟨hb1.os, hb1.tape, hb1.output, by have := hb1.size; simp; rw [sz] at this; omega, fun k hk => by rw [ht k (by omega), hb1.block k (by omega) (by omega)]; exact hb.block k (by omega)⟩
  · rintro e w' ⟨rfl, w1, ⟨g1, g2⟩, rfl⟩
    have vb : ∀ k, k ≠ W.heap.size → (w1.setCell ⟨W.heap.size, 0, none⟩ (.int .i64 0)).heap[k]? = w1.heap[k]? := fun k hk => Below.heap_setCell w1 ⟨W.heap.size, 0, none⟩ _ k hk
    exact ⟨rfl, g1.setCell (p := ⟨W.heap.size, 0, none⟩) (by simp; omega) _, (vb _ (by omega)).trans g2⟩
theorem patt2_none (H : Nat) (s : ByteArray) (W : World) (h : Rdl H s W) (hs : s.size ≤ 281474976710656) (hc : labelP s.data.toList = none) :
    Calls Tryd.prog 37 #[.func (.func 45) #[] #[.pointer (some ⟨H + 2, 0, none⟩), .pointer (some ⟨H, 0, none⟩)]] W fun e w' => e = .returned (.int .i64 3) ∧ Below H W w' ∧ w'.heap[H]? = some (.cells z43 43 (0, 0)) := by
  have hz := h.size
  have hb : Below W.heap.size W (W.alloc (.cells #[.int .i64 0] 28)) := (Below.refl _ W).alloc (Nat.le_refl _) _
  have nw : (W.alloc (.cells #[.int .i64 0] 28)).heap[W.heap.size]? = some (.cells #[.int .i64 0] 28 (0, 0)) := heap_alloc_new W _
  have sz : (W.alloc (.cells #[.int .i64 0] 28)).heap.size = H + 4 := by rw [World.size_alloc, hz]
  have main := parse2_none H (H + 2) (H + 1) s _ (box_bel h.p hb) (h.gt.below hb) (h.nm.below hb) (h.r.below hb) h.five hs hc
  refine (attempt_gave 45 _ W (fun w' => Below H W w' ∧ w'.heap[H]? = some (.cells z43 43 (0, 0))) enters45 (main.mono ?_)).mono ?_
  · rintro e w' ⟨rfl, hb1⟩
    rw [sz] at hb1
    refine ⟨rfl, ?_, ?_, (hb1.block H (by omega) (by omega)).trans (box_bel h.c hb)⟩
    · rw [hb1.block _ (by omega) (by omega)]; exact nw
    · exact ⟨hb1.os, hb1.tape, hb1.output, by have := hb1.size; rw [sz] at this; omega, fun k hk => by rw [hb1.block k (by omega) (by omega)]; exact hb.block k (by omega)⟩
  · rintro e w' ⟨rfl, w1, ⟨g1, g2⟩, hlt, rfl⟩
    have vb : ∀ k, k < W.heap.size → ((w1.alloc (.cells #[] 85)).setCell ⟨W.heap.size, 0, none⟩ (.int .i64 3)).heap[k]? = w1.heap[k]? := fun k hk =>
      (Below.heap_setCell _ ⟨W.heap.size, 0, none⟩ _ k (by simp; omega)).trans (Below.heap_alloc w1 _ k (by omega))
    exact ⟨rfl, (g1.alloc (by have := g1.size; omega) _).setCell (p := ⟨W.heap.size, 0, none⟩) (by simp; omega) _, (vb _ (by omega)).trans g2⟩
/-- what is answered of a text -/
def tagR (s : ByteArray) : Array Value × Nat := match labelP s.data.toList with
  | none => (z43, 3)
  | some c => if checkT (baL c.object) (kindL c.kind : Nat) (baL c.name) (sbOf c.tagger) = 0 then (lbV c, 0) else (z43, checkT (baL c.object) (kindL c.kind : Nat) (baL c.name) (sbOf c.tagger))
def TagPost (s : ByteArray) (w : World) (e : Ending) (w' : World) : Prop := e = .returned (.tuple #[.agg (tagR s).1, .int .i64 ((tagR s).2 : Nat)]) ∧ Below w.heap.size w w'
set_option maxHeartbeats 2000000 in
set_option maxRecDepth 100000 in
theorem ptag_any (s : ByteArray) (w : World) (hG : GT w) (hN : NamesAt w) (hs : s.size ≤ 281474976710656) :
    Calls Tryd.prog 22 #[.string s] w fun e w' => TagPost s w e w' := by
  have hmf : ∀ (fn : Fn) (first cap : Array Value) (w : World), (Instr.makeFunc fn first cap).run Tryd.prog w = .ok (.func fn first cap) w := fun _ _ _ _ => rfl
  have h5 := hG.five
  have HRD : Hid (Rdl w.heap.size s (((w.alloc (.cells z43 43)).alloc (.cells #[.string s] 70)).alloc (.cells #[.pointer (some ⟨w.heap.size + 1, 0, none⟩)] 68))) := by
    have b1 : Below w.heap.size w (w.alloc (.cells z43 43)) := (Below.refl _ w).alloc (Nat.le_refl _) _
    have h1 := heap_alloc_new w (.cells z43 43)
    have s1 : (w.alloc (.cells z43 43)).heap.size = w.heap.size + 1 := World.size_alloc _ _
    generalize w.alloc (.cells z43 43) = w1 at *
    have b2 : Below w1.heap.size w1 (w1.alloc (.cells #[.string s] 70)) := (Below.refl _ w1).alloc (Nat.le_refl _) _
    have h2 := heap_alloc_new w1 (.cells #[.string s] 70)
    have s2 : (w1.alloc (.cells #[.string s] 70)).heap.size = w.heap.size + 2 := by rw [World.size_alloc, s1]
    rw [s1] at h2
    generalize w1.alloc (.cells #[.string s] 70) = w2 at *
    have b3 : Below w2.heap.size w2 (w2.alloc (.cells #[.pointer (some ⟨w.heap.size + 1, 0, none⟩)] 68)) := (Below.refl _ w2).alloc (Nat.le_refl _) _
    have h3 := heap_alloc_new w2 (.cells #[.pointer (some ⟨w.heap.size + 1, 0, none⟩)] 68)
    have s3 : (w2.alloc (.cells #[.pointer (some ⟨w.heap.size + 1, 0, none⟩)] 68)).heap.size = w.heap.size + 3 := by rw [World.size_alloc, s2]
    rw [s2] at h3
    exact ⟨box_bel (box_bel h1 b2) b3, box_bel h2 b3, h3, ((hG.below b1).below b2).below b3, ((hN.below b1).below b2).below b3, s3, by omega⟩
  have HB0 : Hid (Below w.heap.size w (((w.alloc (.cells z43 43)).alloc (.cells #[.string s] 70)).alloc (.cells #[.pointer (some ⟨w.heap.size + 1, 0, none⟩)] 68))) :=
    (((Below.refl w.heap.size w).alloc (Nat.le_refl _) _).alloc (by simp) _).alloc (by simp; omega) _
  have HNM := hidM hN
  cases hc : labelP s.data.toList with
  | none =>
    have HA := hidM (patt2_none _ s _ HRD.out hs hc)
    have HPE : Hid (tagR s = (z43, 3)) := by unfold Hid tagR; rw [hc]
    unfold z43 at HA HRD HB0
    clear hG hN hc HRD HNM
    go_enter Tryd.func22, Tryd.ntmps22
    go_wp2_with fail
    refine HA.out.mono ?_
    rintro _ w1 ⟨rfl, hb1, hz1⟩
    have HB1 := hidM (HB0.out.trans hb1)
    have HZ1 := hidM hz1
    clear hb1 hz1 HA
    go_wp2_with (refine wpList_store_row rfl 43 (.tmp 2) (.tmp 16) rfl w.heap.size z43 rfl rfl 43 z43 HZ1.out size43 rfl (ones43 _ _ _ _ _ _ _) ?_)
    exact bodyPost_ret (run_box_tmp rfl _ _ w.heap.size _ rfl (run_loadVar_row _ w.heap.size 43 43 z43 (0, 0) _ (setRow_heap _ _ _ _ 43 _ HZ1.out) Tryd.underlying43 rfl size43)) rfl ⟨by rw [HPE.out]; rfl, below_setRow HB1.out (Nat.le_refl _)⟩
  | some c =>
    have HA := hidM (patt2_some _ s _ c HRD.out hs hc)
    have hlen := congrArg List.length (labelP_some hc)
    rw [sl_len] at hlen
    unfold tagL at hlen
    simp only [List.length_append, List.length_cons] at hlen
    have hO : (baL c.object).size ≤ maxLen := by rw [baL_size]; unfold maxLen; omega
    have HPE : Hid (tagR s = if checkT (baL c.object) (kindL c.kind : Nat) (baL c.name) (sbOf c.tagger) = 0 then (c43 (baL c.object) (kindL c.kind : Nat) (baL c.name) (sbOf c.tagger) (baL c.message), 0) else (z43, checkT (baL c.object) (kindL c.kind : Nat) (baL c.name) (sbOf c.tagger))) := by unfold Hid tagR; rw [hc]; rfl
    unfold lbV at HA
    clear hlen hG hN hc HRD
    generalize baL c.object = O at *
    generalize ((kindL c.kind : Nat) : Int) = K at *
    generalize baL c.name = N at *
    generalize sbOf c.tagger = A at *
    generalize baL c.message = M at *
    unfold z43 at HA HB0
    unfold c43 at HA
    go_enter Tryd.func22, Tryd.ntmps22
    go_wp2_with fail
    refine HA.out.mono ?_
    rintro _ w1 ⟨rfl, hb1, hz1⟩
    have HB1 := hidM (HB0.out.trans hb1)
    have HZ1 : Hid (LBox w1 w.heap.size O K N ⟨A.who, A.time, A.zone⟩ M) := hz1
    have HCK := hidM (ctag_any O K N A M w1 (HNM.out.below HB1.out) hO)
    unfold c43 at HCK
    obtain ⟨k0, k1, k2, k3, k4, k5, k6⟩ := HZ1.out.seven
    clear hb1 hz1 HA hO
    go_wp2_with fail
    refine HCK.out.mono ?_
    rintro _ w2 ⟨rfl, hb2⟩
    have HZ2 : Hid (LBox w2 w.heap.size O K N ⟨A.who, A.time, A.zone⟩ M) := HZ1.out.below hb2
    have HB2 := hidM (HB1.out.trans (hb2.mono HB1.out.size))
    clear hb2 HCK HZ1 HB1 k0 k1 k2 k3 k4 k5 k6
    obtain ⟨k0, k1, k2, k3, k4, k5, k6⟩ := HZ2.out.seven
    obtain ⟨E, hE⟩ : ∃ E, checkT O K N A = E := ⟨_, rfl⟩
    rw [hE] at HPE ⊢
    clear hE
    by_cases h0 : E = 0
    · have HP2 := HPE
      subst h0
      rw [if_pos rfl] at HP2
      clear HPE
      go_wp2_with (refine wpList_store_row rfl 43 (.tmp 2) (.tmp 18) rfl w.heap.size #[.string O, .int .i64 K, .string N, .string A.who, .int .i64 A.time, .int .i64 A.zone, .string M] rfl rfl 43 #[.string O, .int .i64 K, .string N, .string A.who, .int .i64 A.time, .int .i64 A.zone, .string M] HZ2.out size43 rfl (ones43 _ _ _ _ _ _ _) ?_)
      exact bodyPost_ret (run_box_tmp rfl _ _ w.heap.size _ rfl (run_loadVar_row _ w.heap.size 43 43 #[.string O, .int .i64 K, .string N, .string A.who, .int .i64 A.time, .int .i64 A.zone, .string M] (0, 0) _ (setRow_heap _ _ _ _ 43 _ HZ2.out) Tryd.underlying43 rfl size43)) rfl (by
        exact ⟨by rw [HP2.out]; rfl, below_setRow HB2.out (Nat.le_refl _)⟩)
    · have HP2 : Hid (tagR s = (z43, E)) := by unfold Hid; rw [HPE.out, if_neg h0]
      clear HPE
      have hne : ((E : Int) != 0) = true := by simp; omega
      go_wp2_with (refine wpList_store_row rfl 43 (.tmp 2) (.tmp 16) rfl w.heap.size z43 rfl rfl 43 #[.string O, .int .i64 K, .string N, .string A.who, .int .i64 A.time, .int .i64 A.zone, .string M] HZ2.out size43 rfl (ones43 _ _ _ _ _ _ _) ?_)
      exact bodyPost_ret (run_box_tmp rfl _ _ w.heap.size _ rfl (run_loadVar_row _ w.heap.size 43 43 z43 (0, 0) _ (setRow_heap _ _ _ _ 43 _ HZ2.out) Tryd.underlying43 rfl size43)) rfl (by
        exact ⟨by rw [HP2.out]; rfl, below_setRow HB2.out (Nat.le_refl _)⟩)
end Go.Proofs.YtbghailohnppmaaDoor
namespace Go.Proofs.YtbghailohnppmaaDoor
open Go.RowKit

set_option maxHeartbeats 2000000 in
set_option maxRecDepth 100000 in
theorem rctag_any (o : ByteArray) (k : Int) (n : ByteArray) (s : Sb) (m : ByteArray) (w : World) (hs : s.who.size ≤ 9223372036854775807) (hn : n.size ≤ 9223372036854775807) :
    Calls Tryd.prog 21 #[.agg (c43 o k n s m)] w fun e w' => e = .returned (.int .i64 (checkT o k n s : Nat)) ∧ Below w.heap.size w w' := by
  have HI := hidM (fun V => rid_any o V)
  have HM := hidM (fun V => rname_any k V)
  have HL := hidM (fun V => rline_any n V hn)
  have HS := hidM (fun V => rsigned_any s V hs)
  have hem := name_empty (nameL k)
  have HR : Hid (checkT o k n s = if idB o.data.toList && (!(nameL k).isEmpty && (lineB n.data.toList && signedG (sgOf s))) then 0 else 4) := rfl
  generalize checkT o k n s = R at *
  generalize (⟨(nameL k).toArray⟩ : ByteArray) = NM at *
  generalize idB o.data.toList = bi at *
  generalize (nameL k).isEmpty = bm at *
  generalize lineB n.data.toList = bl at *
  generalize signedG (sgOf s) = bs at *
  have HB : Hid (Below w.heap.size w (w.alloc (.cells (c43 o k n s m) 43))) := (Below.refl _ w).alloc (Nat.le_refl _) _
  have HC : Hid (LBox (w.alloc (.cells (c43 o k n s m) 43)) w.heap.size o k n s m) := heap_alloc_new w _
  obtain ⟨who, t, z⟩ := s
  unfold sbV at HS
  simp only [c43] at HB HC HS ⊢
  go_enter Tryd.func21, Tryd.ntmps21
  go_upto_region 1 with fail
  generalize w.alloc (.cells #[.string o, .int .i64 k, .string n, .string who, .int .i64 t, .int .i64 z, .string m] 43) = W at *
  obtain ⟨g, hg⟩ : ∃ X, w.heap.size = X := ⟨_, rfl⟩
  rw [hg] at HC ⊢
  obtain ⟨k0, k1, k2, k3, k4, k5, k6⟩ := HC.out.seven
  go_wp2_with fail
  refine (HI.out _).mono ?_
  rintro _ w3 ⟨rfl, hw3⟩
  rw [hw3]
  clear hw3
  cases bi with
  | false =>
    have HR2 : Hid (R = 4) := by unfold Hid; rw [HR.out]; rfl
    clear HR
    go_wp2
    go_ret
    exact ⟨by rw [HR2.out]; rfl, HB.out⟩
  | true =>
    go_wp2_with fail
    refine (HM.out _).mono ?_
    rintro _ w4 ⟨rfl, hb4⟩
    have HB4 := hidM (HB.out.trans (hb4.mono HB.out.size))
    have HC4 : Hid (LBox w4 g o k n ⟨who, t, z⟩ m) := HC.out.below hb4
    clear hb4 k0 k1 k2 k3 k4 k5 k6
    obtain ⟨k0, k1, k2, k3, k4, k5, k6⟩ := HC4.out.seven
    cases bm with
    | true =>
      have hx : NM.toList = [] := by simpa using hem
      have HR2 : Hid (R = 4) := by unfold Hid; rw [HR.out]; rfl
      clear HR
      go_wp2
      go_ret
      exact ⟨by rw [HR2.out]; rfl, HB4.out⟩
    | false =>
      have hx : ¬ NM.toList = [] := by simpa using hem
      go_wp2_with fail
      refine (HL.out _).mono ?_
      rintro _ w5 ⟨rfl, hw5⟩
      rw [hw5]
      clear hw5
      cases bl with
      | false =>
        have HR2 : Hid (R = 4) := by unfold Hid; rw [HR.out]; rfl
        clear HR
        go_wp2
        go_ret
        exact ⟨by rw [HR2.out]; rfl, HB4.out⟩
      | true =>
        go_wp2_with fail
        refine (HS.out _).mono ?_
        rintro _ w6 ⟨rfl, hb6⟩
        have HB6 := hidM (HB4.out.trans (hb6.mono HB4.out.size))
        clear hb6
        cases bs with
        | false =>
          have HR2 : Hid (R = 4) := by unfold Hid; rw [HR.out]; rfl
          clear HR
          go_wp2
          go_ret
          exact ⟨by rw [HR2.out]; rfl, HB6.out⟩
        | true =>
          have HR2 : Hid (R = 0) := by unfold Hid; rw [HR.out]; rfl
          clear HR
          go_wp2
          go_ret
          exact ⟨by rw [HR2.out]; rfl, HB6.out⟩
end Go.Proofs.YtbghailohnppmaaDoor
namespace Go.Proofs.YtbghailohnppmaaDoor
open Go.RowKit

/-- what stands in the two boxes of the document's ParseTag -/
structure TX (w : World) (cs : Array Value) (V : World) : Prop where
  bel : Below w.heap.size w V
  z : V.heap[w.heap.size]? = some (.cells z43 43 (0, 0))
  c : V.heap[w.heap.size + 1]? = some (.cells cs 43 (0, 0))
theorem TX.below {w V V' : World} {cs : Array Value} (h : TX w cs V) (hb : Below V.heap.size V V') : TX w cs V' :=
  ⟨h.bel.trans (hb.mono h.bel.size), box_bel h.z hb, box_bel h.c hb⟩
theorem TX.store {w V : World} {cs : Array Value} (h : TX w cs V) (cs' : Array Value) : TX w cs' (V.setRow (w.heap.size + 1) cs') :=
  ⟨below_setRow h.bel (by omega), (setRow_other V _ _ cs' (by omega)).trans h.z, setRow_heap V (w.heap.size + 1) cs cs' 43 (0, 0) h.c⟩
theorem TX.set {w V : World} {cs : Array Value} (h : TX w cs V) (i : Nat) (x : Value) : TX w (cs.setIfInBounds i x) (V.setCell ⟨w.heap.size + 1, i, none⟩ x) := by
  rw [setCell_eq_setRow V _ i cs 43 (0, 0) x h.c]
  exact h.store _
theorem TX.free {w V : World} {cs : Array Value} (h : TX w cs V) (i : Nat) : V.frozen? ⟨w.heap.size + 1, i, none⟩ = false := by simp [World.frozen?, h.c]
theorem TX.cell {w V : World} {cs : Array Value} (h : TX w cs V) (i : Nat) {v : Value} (hv : cs[i]? = some v) : V.cell? ⟨w.heap.size + 1, i, none⟩ = some v := by
  rw [cell_of_row _ _ _ _ 43 (0, 0) h.c]; exact hv
theorem TX.sign {w V : World} {o n m : ByteArray} {k : Int} {s : Sb} (h : TX w (c43 o k n s m) V) (g : Sb) :
    TX w (c43 o k n g m) (((V.setCell ⟨w.heap.size + 1, 3, none⟩ (.string g.who)).setCell ⟨w.heap.size + 1, 4, none⟩ (.int .i64 g.time)).setCell ⟨w.heap.size + 1, 5, none⟩ (.int .i64 g.zone)) :=
  ((h.set 3 (.string g.who)).set 4 (.int .i64 g.time)).set 5 (.int .i64 g.zone)
theorem tag_fail {s : ByteArray} {w V : World} {cs : Array Value} {v : Value} (h : TX w cs V) (hc : labelP s.data.toList = none) (hv : v = .int .i64 3) :
    TagPost s w (.returned (.tuple #[.agg z43, v])) (V.setRow w.heap.size z43) := by
  subst hv
  have he : tagR s = (z43, 3) := by unfold tagR; rw [hc]
  exact ⟨by rw [he]; rfl, below_setRow h.bel (Nat.le_refl _)⟩
set_option maxHeartbeats 4000000 in
set_option maxRecDepth 20000 in
theorem reftag_any (s : ByteArray) (w : World) (hs : s.size ≤ 1000000000000) :
    Calls Tryd.prog 23 #[.string s] w fun e w' => TagPost s w e w' := by
  have HX0 : Hid (TX w (c43 ⟨#[]⟩ 0 ⟨#[]⟩ noS ⟨#[]⟩) ((w.alloc (.cells z43 43)).alloc (.cells z43 43))) := by
    have h2 : Below w.heap.size w ((w.alloc (.cells z43 43)).alloc (.cells z43 43)) := ((Below.refl _ w).alloc (Nat.le_refl _) _).alloc (by simp) _
    exact ⟨h2, heap_alloc2_old _ _ _, heap_alloc2_new _ _ _⟩
  have HRD := hidM (fun V => refread_eq ⟨#[]⟩ V (by decide))
  obtain ⟨Z, hZ⟩ : ∃ A, rdS (signP (⟨#[]⟩ : ByteArray).data.toList) = A := ⟨_, rfl⟩
  obtain ⟨zd, hzd⟩ : ∃ gd, (signP (⟨#[]⟩ : ByteArray).data.toList).isSome = gd := ⟨_, rfl⟩
  rw [hZ, hzd] at HRD
  clear hZ hzd
  cases e1 : lineP wObject s.data.toList with
  | none =>
    have HL := hidM (fun V => refline_eq s ⟨#[111, 98, 106, 101, 99, 116]⟩ wObject V (by omega) (by decide) rfl)

    rw [e1] at HL
    have HNO : Hid (labelP s.data.toList = none) := lab_1 e1
    clear e1
    go_enter Tryd.func23, Tryd.ntmps23
    go_wp2_with fail
    refine (HL.out _).mono ?_
    rintro _ Va ⟨rfl, hb⟩
    have HXa := hidM (HX0.out.below hb)
    clear hb HL HX0
    simp only [lnX, lnR, Option.isSome]
    go_wp2_with fail
    refine (HRD.out _).mono ?_
    rintro _ V90 ⟨rfl, hb⟩
    have HX90 := hidM (HXa.out.below hb)
    clear hb HXa
    have f3 := HX90.out.free 3
    have f4 := HX90.out.free 4
    have f5 := HX90.out.free 5
    have q3 := HX90.out.cell 3 (v := .string ⟨#[]⟩) rfl
    have q4 := HX90.out.cell 4 (v := .int .i64 0) rfl
    have q5 := HX90.out.cell 5 (v := .int .i64 0) rfl
    go_upto_region 12 with fail
    have HX91 := hidM (HX90.out.sign Z)
    generalize (((V90.setCell ⟨w.heap.size + 1, 3, none⟩ (.string Z.who)).setCell ⟨w.heap.size + 1, 4, none⟩ (.int .i64 Z.time)).setCell ⟨w.heap.size + 1, 5, none⟩ (.int .i64 Z.zone)) = V91 at HX91 ⊢
    clear HX90 f3 f4 f5 q3 q4 q5
    go_wp2_with (refine wpList_store_row rfl 43 (.tmp 2) (.tmp 58) rfl w.heap.size z43 rfl rfl 43 z43 HX91.out.z size43 rfl (ones43 _ _ _ _ _ _ _) ?_)
    exact bodyPost_ret (run_box_tmp rfl _ _ w.heap.size _ rfl (run_loadVar_row _ w.heap.size 43 43 z43 (0, 0) _ (setRow_heap _ _ _ _ 43 _ HX91.out.z) Tryd.underlying43 rfl size43)) rfl (by exact tag_fail HX91.out HNO.out rfl)
  | some xr =>
    obtain ⟨o, r1⟩ := xr
    have HL := hidM (fun V => refline_eq s ⟨#[111, 98, 106, 101, 99, 116]⟩ wObject V (by omega) (by decide) rfl)

    rw [e1] at HL
    have hl1 := lineP_len e1
    rw [sl_len] at hl1
    have HE1 := hidM e1
    clear e1
    have hxs1 := ba_size o
    have hrs1 := ba_size r1
    obtain ⟨O, hO⟩ : ∃ O : ByteArray, ⟨o.toArray⟩ = O := ⟨_, rfl⟩
    obtain ⟨R1, hR1⟩ : ∃ O : ByteArray, ⟨r1.toArray⟩ = O := ⟨_, rfl⟩
    have HO := hidM hO
    have HRL1 : Hid (R1.data.toList = r1) := by rw [← hR1]; rfl
    have HLN : Hid (lnX (some (o, r1)) = O ∧ lnR (some (o, r1)) = R1) := ⟨hO, hR1⟩
    rw [HLN.out.1, HLN.out.2] at HL
    rw [hO] at hxs1
    rw [hR1] at hrs1
    clear hO hR1 HLN
    go_enter Tryd.func23, Tryd.ntmps23
    go_wp2_with fail
    refine (HL.out _).mono ?_
    rintro _ V1 ⟨rfl, hb⟩
    have HX1 := hidM (HX0.out.below hb)
    clear hb HL HX0
    cases e2 : lineP wType r1 with
    | none =>
      have HL := hidM (fun V => refline_eq R1 ⟨#[116, 121, 112, 101]⟩ wType V (by omega) (by decide) rfl)
      rw [HRL1.out] at HL
      rw [e2] at HL
      have HNO : Hid (labelP s.data.toList = none) := lab_2 HE1.out e2
      clear e2

      go_wp2_with fail
      refine (HL.out _).mono ?_
      rintro _ Va ⟨rfl, hb⟩
      have HXa := hidM (HX1.out.below hb)
      clear hb HL HX1
      simp only [lnX, lnR, Option.isSome]
      go_wp2_with fail
      refine (HRD.out _).mono ?_
      rintro _ V90 ⟨rfl, hb⟩
      have HX90 := hidM (HXa.out.below hb)
      clear hb HXa
      have f3 := HX90.out.free 3
      have f4 := HX90.out.free 4
      have f5 := HX90.out.free 5
      have q3 := HX90.out.cell 3 (v := .string ⟨#[]⟩) rfl
      have q4 := HX90.out.cell 4 (v := .int .i64 0) rfl
      have q5 := HX90.out.cell 5 (v := .int .i64 0) rfl
      go_upto_region 12 with fail
      have HX91 := hidM (HX90.out.sign Z)
      generalize (((V90.setCell ⟨w.heap.size + 1, 3, none⟩ (.string Z.who)).setCell ⟨w.heap.size + 1, 4, none⟩ (.int .i64 Z.time)).setCell ⟨w.heap.size + 1, 5, none⟩ (.int .i64 Z.zone)) = V91 at HX91 ⊢
      clear HX90 f3 f4 f5 q3 q4 q5
      go_wp2_with (refine wpList_store_row rfl 43 (.tmp 2) (.tmp 58) rfl w.heap.size z43 rfl rfl 43 z43 HX91.out.z size43 rfl (ones43 _ _ _ _ _ _ _) ?_)
      exact bodyPost_ret (run_box_tmp rfl _ _ w.heap.size _ rfl (run_loadVar_row _ w.heap.size 43 43 z43 (0, 0) _ (setRow_heap _ _ _ _ 43 _ HX91.out.z) Tryd.underlying43 rfl size43)) rfl (by exact tag_fail HX91.out HNO.out rfl)
    | some xr =>
      obtain ⟨k, r2⟩ := xr
      have HL := hidM (fun V => refline_eq R1 ⟨#[116, 121, 112, 101]⟩ wType V (by omega) (by decide) rfl)
      rw [HRL1.out] at HL
      rw [e2] at HL
      have hl2 := lineP_len e2

      have HE2 := hidM e2
      clear e2
      have hxs2 := ba_size k
      have hrs2 := ba_size r2
      obtain ⟨K, hK⟩ : ∃ O : ByteArray, ⟨k.toArray⟩ = O := ⟨_, rfl⟩
      obtain ⟨R2, hR2⟩ : ∃ O : ByteArray, ⟨r2.toArray⟩ = O := ⟨_, rfl⟩
      have HK := hidM hK
      have HRL2 : Hid (R2.data.toList = r2) := by rw [← hR2]; rfl
      have HLN : Hid (lnX (some (k, r2)) = K ∧ lnR (some (k, r2)) = R2) := ⟨hK, hR2⟩
      rw [HLN.out.1, HLN.out.2] at HL
      rw [hK] at hxs2
      rw [hR2] at hrs2
      clear hK hR2 HLN

      go_wp2_with fail
      refine (HL.out _).mono ?_
      rintro _ V2 ⟨rfl, hb⟩
      have HX2 := hidM (HX1.out.below hb)
      clear hb HL HX1
      cases e3 : lineP wTag r2 with
      | none =>
        have HL := hidM (fun V => refline_eq R2 ⟨#[116, 97, 103]⟩ wTag V (by omega) (by decide) rfl)
        rw [HRL2.out] at HL
        rw [e3] at HL
        have HNO : Hid (labelP s.data.toList = none) := lab_3 HE1.out HE2.out e3
        clear e3

        go_wp2_with fail
        refine (HL.out _).mono ?_
        rintro _ Va ⟨rfl, hb⟩
        have HXa := hidM (HX2.out.below hb)
        clear hb HL HX2
        simp only [lnX, lnR, Option.isSome]
        go_wp2_with fail
        refine (HRD.out _).mono ?_
        rintro _ V90 ⟨rfl, hb⟩
        have HX90 := hidM (HXa.out.below hb)
        clear hb HXa
        have f3 := HX90.out.free 3
        have f4 := HX90.out.free 4
        have f5 := HX90.out.free 5
        have q3 := HX90.out.cell 3 (v := .string ⟨#[]⟩) rfl
        have q4 := HX90.out.cell 4 (v := .int .i64 0) rfl
        have q5 := HX90.out.cell 5 (v := .int .i64 0) rfl
        go_upto_region 12 with fail
        have HX91 := hidM (HX90.out.sign Z)
        generalize (((V90.setCell ⟨w.heap.size + 1, 3, none⟩ (.string Z.who)).setCell ⟨w.heap.size + 1, 4, none⟩ (.int .i64 Z.time)).setCell ⟨w.heap.size + 1, 5, none⟩ (.int .i64 Z.zone)) = V91 at HX91 ⊢
        clear HX90 f3 f4 f5 q3 q4 q5
        go_wp2_with (refine wpList_store_row rfl 43 (.tmp 2) (.tmp 58) rfl w.heap.size z43 rfl rfl 43 z43 HX91.out.z size43 rfl (ones43 _ _ _ _ _ _ _) ?_)
        exact bodyPost_ret (run_box_tmp rfl _ _ w.heap.size _ rfl (run_loadVar_row _ w.heap.size 43 43 z43 (0, 0) _ (setRow_heap _ _ _ _ 43 _ HX91.out.z) Tryd.underlying43 rfl size43)) rfl (by exact tag_fail HX91.out HNO.out rfl)
      | some xr =>
        obtain ⟨n, r3⟩ := xr
        have HL := hidM (fun V => refline_eq R2 ⟨#[116, 97, 103]⟩ wTag V (by omega) (by decide) rfl)
        rw [HRL2.out] at HL
        rw [e3] at HL
        have hl3 := lineP_len e3

        have HE3 := hidM e3
        clear e3
        have hxs3 := ba_size n
        have hrs3 := ba_size r3
        obtain ⟨N, hN⟩ : ∃ O : ByteArray, ⟨n.toArray⟩ = O := ⟨_, rfl⟩
        obtain ⟨R3, hR3⟩ : ∃ O : ByteArray, ⟨r3.toArray⟩ = O := ⟨_, rfl⟩
        have HN := hidM hN
        have HRL3 : Hid (R3.data.toList = r3) := by rw [← hR3]; rfl
        have HLN : Hid (lnX (some (n, r3)) = N ∧ lnR (some (n, r3)) = R3) := ⟨hN, hR3⟩
        rw [HLN.out.1, HLN.out.2] at HL
        rw [hN] at hxs3
        rw [hR3] at hrs3
        clear hN hR3 HLN

        go_wp2_with fail
        refine (HL.out _).mono ?_
        rintro _ V3 ⟨rfl, hb⟩
        have HX3 := hidM (HX2.out.below hb)
        clear hb HL HX2
        cases e4 : lineP wTagger r3 with
        | none =>
          have HL := hidM (fun V => refline_eq R3 ⟨#[116, 97, 103, 103, 101, 114]⟩ wTagger V (by omega) (by decide) rfl)
          rw [HRL3.out] at HL
          rw [e4] at HL
          have HNO : Hid (labelP s.data.toList = none) := lab_4 HE1.out HE2.out HE3.out (by unfold signLn; rw [e4])
          clear e4

          go_wp2_with fail
          refine (HL.out _).mono ?_
          rintro _ Va ⟨rfl, hb⟩
          have HXa := hidM (HX3.out.below hb)
          clear hb HL HX3
          simp only [lnX, lnR, Option.isSome]
          go_wp2_with fail
          refine (HRD.out _).mono ?_
          rintro _ V90 ⟨rfl, hb⟩
          have HX90 := hidM (HXa.out.below hb)
          clear hb HXa
          have f3 := HX90.out.free 3
          have f4 := HX90.out.free 4
          have f5 := HX90.out.free 5
          have q3 := HX90.out.cell 3 (v := .string ⟨#[]⟩) rfl
          have q4 := HX90.out.cell 4 (v := .int .i64 0) rfl
          have q5 := HX90.out.cell 5 (v := .int .i64 0) rfl
          go_upto_region 12 with fail
          have HX91 := hidM (HX90.out.sign Z)
          generalize (((V90.setCell ⟨w.heap.size + 1, 3, none⟩ (.string Z.who)).setCell ⟨w.heap.size + 1, 4, none⟩ (.int .i64 Z.time)).setCell ⟨w.heap.size + 1, 5, none⟩ (.int .i64 Z.zone)) = V91 at HX91 ⊢
          clear HX90 f3 f4 f5 q3 q4 q5
          go_wp2_with (refine wpList_store_row rfl 43 (.tmp 2) (.tmp 58) rfl w.heap.size z43 rfl rfl 43 z43 HX91.out.z size43 rfl (ones43 _ _ _ _ _ _ _) ?_)
          exact bodyPost_ret (run_box_tmp rfl _ _ w.heap.size _ rfl (run_loadVar_row _ w.heap.size 43 43 z43 (0, 0) _ (setRow_heap _ _ _ _ 43 _ HX91.out.z) Tryd.underlying43 rfl size43)) rfl (by exact tag_fail HX91.out HNO.out rfl)
        | some xr =>
          obtain ⟨d, r4⟩ := xr
          have HL := hidM (fun V => refline_eq R3 ⟨#[116, 97, 103, 103, 101, 114]⟩ wTagger V (by omega) (by decide) rfl)
          rw [HRL3.out] at HL
          rw [e4] at HL
          have hl4 := lineP_len e4

          have HE4 := hidM e4
          clear e4
          have hxs4 := ba_size d
          have hrs4 := ba_size r4
          obtain ⟨D, hD⟩ : ∃ O : ByteArray, ⟨d.toArray⟩ = O := ⟨_, rfl⟩
          obtain ⟨R4, hR4⟩ : ∃ O : ByteArray, ⟨r4.toArray⟩ = O := ⟨_, rfl⟩
          have HD := hidM hD
          have HRL4 : Hid (R4.data.toList = r4) := by rw [← hR4]; rfl
          have HLN : Hid (lnX (some (d, r4)) = D ∧ lnR (some (d, r4)) = R4) := ⟨hD, hR4⟩
          rw [HLN.out.1, HLN.out.2] at HL
          rw [hD] at hxs4
          rw [hR4] at hrs4
          clear hD hR4 HLN

          go_wp2_with fail
          refine (HL.out _).mono ?_
          rintro _ V4 ⟨rfl, hb⟩
          have HX4 := hidM (HX3.out.below hb)
          clear hb HL HX3
          have HSN : Hid (signLn wTagger r3 = match signP d with | none => none | some g => some (g, r4)) := by unfold Hid signLn; rw [HE4.out]; try rfl
          have HRX := hidM (fun V => refread_eq D V (by omega))
          have HDL : Hid (D.data.toList = d) := by rw [← HD.out]; rfl
          rw [HDL.out] at HRX
          obtain ⟨A, hA⟩ : ∃ A, rdS (signP d) = A := ⟨_, rfl⟩
          obtain ⟨gd, hgd⟩ : ∃ gd, (signP d).isSome = gd := ⟨_, rfl⟩
          rw [hA, hgd] at HRX
          have HA := hidM hA
          have HGD := hidM hgd
          clear hA hgd HRD
          go_wp2_with fail
          refine (HRX.out _).mono ?_
          rintro _ V5 ⟨rfl, hb⟩
          have HX5 := hidM (HX4.out.below hb)
          clear hb HX4
          have f3 := HX5.out.free 3
          have f4 := HX5.out.free 4
          have f5 := HX5.out.free 5
          have q3 := HX5.out.cell 3 (v := .string ⟨#[]⟩) rfl
          have q4 := HX5.out.cell 4 (v := .int .i64 0) rfl
          have q5 := HX5.out.cell 5 (v := .int .i64 0) rfl
          go_upto_region 12 with fail
          have HX6 := hidM (HX5.out.sign A)
          generalize (((V5.setCell ⟨w.heap.size + 1, 3, none⟩ (.string A.who)).setCell ⟨w.heap.size + 1, 4, none⟩ (.int .i64 A.time)).setCell ⟨w.heap.size + 1, 5, none⟩ (.int .i64 A.zone)) = V6 at HX6 ⊢
          clear HX5 f3 f4 f5 q3 q4 q5
          have HBN := hidM (fun V => begins41_any R4 ⟨#[10]⟩ V)
          have h10 : (⟨#[10]⟩ : ByteArray).data.toList = [10] := rfl
          rw [h10, HRL4.out] at HBN
          clear h10
          cases gd with
          | false =>
            have HNO : Hid (labelP s.data.toList = none) := by
              cases hs2 : signP d with
              | none => exact lab_4 HE1.out HE2.out HE3.out (by rw [HSN.out, hs2])
              | some g => have := HGD.out; rw [hs2] at this; cases this
            clear HBN HA HGD HSN
            go_wp2_with (refine wpList_store_row rfl 43 (.tmp 2) (.tmp 58) rfl w.heap.size z43 rfl rfl 43 z43 HX6.out.z size43 rfl (ones43 _ _ _ _ _ _ _) ?_)
            exact bodyPost_ret (run_box_tmp rfl _ _ w.heap.size _ rfl (run_loadVar_row _ w.heap.size 43 43 z43 (0, 0) _ (setRow_heap _ _ _ _ 43 _ HX6.out.z) Tryd.underlying43 rfl size43)) rfl (by exact tag_fail HX6.out HNO.out rfl)
          | true =>
            obtain ⟨g, hg⟩ := Option.isSome_iff_exists.1 HGD.out
            have HLB := hidM (lab_5 HE1.out HE2.out HE3.out (show signLn wTagger r3 = some (g, r4) by rw [HSN.out, hg]))
            have HAE : Hid (A = sbOf g) := by unfold Hid; rw [← HA.out, hg]; rfl
            have HWA : Hid (A.who.size ≤ 1000000000000) := by
              have h1 := congrArg List.length (signP_some hg).1
              unfold sgL at h1
              rw [List.length_append] at h1
              unfold Hid
              rw [HAE.out]
              show (⟨g.who.toArray⟩ : ByteArray).size ≤ _
              rw [ba_size]; omega
            clear HA HGD HSN hg
            rcases msg_pref r4 with ⟨hm, hpf⟩ | ⟨mm, hm, hpf, -, hr4⟩
            · rw [hpf] at HBN
              have HNO : Hid (labelP s.data.toList = none) := by unfold Hid; rw [HLB.out, hm]; rfl
              clear HLB hm hpf
              go_wp2_with fail
              refine (HBN.out _).mono ?_
              rintro _ wq ⟨rfl, hq⟩
              rw [hq]
              clear hq HBN
              go_wp2_with (refine wpList_store_row rfl 43 (.tmp 2) (.tmp 58) rfl w.heap.size z43 rfl rfl 43 z43 HX6.out.z size43 rfl (ones43 _ _ _ _ _ _ _) ?_)
              exact bodyPost_ret (run_box_tmp rfl _ _ w.heap.size _ rfl (run_loadVar_row _ w.heap.size 43 43 z43 (0, 0) _ (setRow_heap _ _ _ _ 43 _ HX6.out.z) Tryd.underlying43 rfl size43)) rfl (by exact tag_fail HX6.out HNO.out rfl)
            · rw [hpf] at HBN
              clear hpf
              have hl5 := congrArg List.length hr4
              rw [List.length_cons] at hl5
              have HLS : Hid (labelP s.data.toList = some ⟨o, k, n, g, mm⟩) := by unfold Hid; rw [HLB.out, hm]; rfl
              obtain ⟨M, hM⟩ : ∃ M, R4.extract 1 R4.size = M := ⟨_, rfl⟩
              have HM : Hid (M = baL mm) := by
                unfold Hid
                rw [← hM, ext_list, HRL4.out, hr4]
                have : R4.size = (10 :: mm).length := by rw [← hr4]; omega
                rw [this, List.take_length]
                rfl
              have k1 : (1 : Int) ≤ (R4.size : Int) := by omega
              have HKD := hidM (fun V => rkind_any K V)
              have HKL : Hid (K.data.toList = k) := by rw [← HK.out]; rfl
              rw [HKL.out] at HKD
              have hNs : N.size ≤ 1000000000000 := by omega
              clear HLB hm hr4 hl5 hrs4
              go_wp2_with fail
              refine (HBN.out _).mono ?_
              rintro _ wq ⟨rfl, hq⟩
              rw [hq]
              clear hq HBN
              have f0 := HX6.out.free 0
              have q0 := HX6.out.cell 0 (v := .string ⟨#[]⟩) rfl
              go_upto_region 15 with fail
              have HX7 : Hid (TX w (c43 O 0 ⟨#[]⟩ A ⟨#[]⟩) (V6.setCell ⟨w.heap.size + 1, 0, none⟩ (.string O))) := HX6.out.set 0 (.string O)
              generalize V6.setCell ⟨w.heap.size + 1, 0, none⟩ (.string O) = V7 at HX7 ⊢
              clear HX6 f0 q0
              go_wp2_with fail
              refine (HKD.out _).mono ?_
              rintro _ V8 ⟨rfl, hb⟩
              have HX8 := hidM (HX7.out.below hb)
              clear hb HX7 HKD
              obtain ⟨KK, hKK⟩ : ∃ z : Int, ((kindL k : Nat) : Int) = z := ⟨_, rfl⟩
              have HKK := hidM hKK
              rw [hKK]
              clear hKK
              have f0 := HX8.out.free 1
              have q0 := HX8.out.cell 1 (v := .int .i64 0) rfl
              go_upto_region 16 with fail
              have HX9 : Hid (TX w (c43 O KK ⟨#[]⟩ A ⟨#[]⟩) (V8.setCell ⟨w.heap.size + 1, 1, none⟩ (.int .i64 KK))) := HX8.out.set 1 (.int .i64 KK)
              generalize V8.setCell ⟨w.heap.size + 1, 1, none⟩ (.int .i64 KK) = V9 at HX9 ⊢
              clear HX8 f0 q0
              have f0 := HX9.out.free 2
              have q0 := HX9.out.cell 2 (v := .string ⟨#[]⟩) rfl
              go_upto_region 17 with fail
              have HX10 : Hid (TX w (c43 O KK N A ⟨#[]⟩) (V9.setCell ⟨w.heap.size + 1, 2, none⟩ (.string N))) := HX9.out.set 2 (.string N)
              generalize V9.setCell ⟨w.heap.size + 1, 2, none⟩ (.string N) = V10 at HX10 ⊢
              clear HX9 f0 q0
              have f0 := HX10.out.free 6
              have q0 := HX10.out.cell 6 (v := .string ⟨#[]⟩) rfl
              go_upto_region 18 with fail
              have HX11 : Hid (TX w (c43 O KK N A M) (V10.setCell ⟨w.heap.size + 1, 6, none⟩ (.string M))) := HX10.out.set 6 (.string M)
              generalize V10.setCell ⟨w.heap.size + 1, 6, none⟩ (.string M) = V11 at HX11 ⊢
              clear HX10 f0 q0
              have HCK := hidM (rctag_any O KK N A M V11 (by have := HWA.out; omega) (by omega))
              have HPE : Hid (tagR s = if checkT O KK N A = 0 then (c43 O KK N A M, 0) else (z43, checkT O KK N A)) := by
                unfold Hid tagR
                rw [HLS.out]
                have h : ∀ O' K' N' A' M', O' = O → K' = KK → N' = N → A' = A → M' = M → (if checkT O' K' N' A' = 0 then (c43 O' K' N' A' M', 0) else (z43, checkT O' K' N' A')) = (if checkT O KK N A = 0 then (c43 O KK N A M, 0) else (z43, checkT O KK N A)) := by
                  rintro _ _ _ _ _ rfl rfl rfl rfl rfl
                  rfl
                exact h _ _ _ _ _ HO.out HKK.out HN.out HAE.out.symm HM.out.symm
              have q0 := HX11.out.cell 0 (v := .string O) rfl
              have q1 := HX11.out.cell 1 (v := .int .i64 KK) rfl
              have q2 := HX11.out.cell 2 (v := .string N) rfl
              have q3 := HX11.out.cell 3 (v := .string A.who) rfl
              have q4 := HX11.out.cell 4 (v := .int .i64 A.time) rfl
              have q5 := HX11.out.cell 5 (v := .int .i64 A.zone) rfl
              have q6 := HX11.out.cell 6 (v := .string M) rfl
              unfold c43 at HCK
              go_wp2_with fail
              refine HCK.out.mono ?_
              rintro _ Va ⟨rfl, hb⟩
              have HXa := hidM (HX11.out.below hb)
              clear hb HX11 HCK q0 q1 q2 q3 q4 q5 q6
              obtain ⟨E, hE⟩ : ∃ n, checkT O KK N A = n := ⟨_, rfl⟩
              rw [hE] at HPE ⊢
              clear hE
              by_cases hz : E = 0
              · subst hz
                have HP2 := HPE
                rw [if_pos rfl] at HP2
                have q0 := HXa.out.cell 0 (v := .string O) rfl
                have q1 := HXa.out.cell 1 (v := .int .i64 KK) rfl
                have q2 := HXa.out.cell 2 (v := .string N) rfl
                have q3 := HXa.out.cell 3 (v := .string A.who) rfl
                have q4 := HXa.out.cell 4 (v := .int .i64 A.time) rfl
                have q5 := HXa.out.cell 5 (v := .int .i64 A.zone) rfl
                have q6 := HXa.out.cell 6 (v := .string M) rfl
                go_wp2_with (refine wpList_store_row rfl 43 (.tmp 2) (.tmp 75) rfl w.heap.size #[.string O, .int .i64 KK, .string N, .string A.who, .int .i64 A.time, .int .i64 A.zone, .string M] rfl rfl 43 z43 HXa.out.z size43 rfl (ones43 _ _ _ _ _ _ _) ?_)
                exact bodyPost_ret (run_box_tmp rfl _ _ w.heap.size _ rfl (run_loadVar_row _ w.heap.size 43 43 #[.string O, .int .i64 KK, .string N, .string A.who, .int .i64 A.time, .int .i64 A.zone, .string M] (0, 0) _ (setRow_heap _ _ _ _ 43 _ HXa.out.z) Tryd.underlying43 rfl size43)) rfl (by
                  exact ⟨by rw [HP2.out]; rfl, below_setRow HXa.out.bel (Nat.le_refl _)⟩)
              · have hzd : ((E : Int) != 0) = true := by simp; omega
                have HP2 : Hid (tagR s = (z43, E)) := by unfold Hid; rw [HPE.out, if_neg hz]
                go_wp2_with (refine wpList_store_row rfl 43 (.tmp 2) (.tmp 73) rfl w.heap.size z43 rfl rfl 43 z43 HXa.out.z size43 rfl (ones43 _ _ _ _ _ _ _) ?_)
                exact bodyPost_ret (run_box_tmp rfl _ _ w.heap.size _ rfl (run_loadVar_row _ w.heap.size 43 43 z43 (0, 0) _ (setRow_heap _ _ _ _ 43 _ HXa.out.z) Tryd.underlying43 rfl size43)) rfl (by
                  exact ⟨by rw [HP2.out]; rfl, below_setRow HXa.out.bel (Nat.le_refl _)⟩)
end Go.Proofs.YtbghailohnppmaaDoor
namespace Go.Proofs.YtbghailohnppmaaDoor
open Go.RowKit

/-- the argument's box, while the text grows -/
structure TgX (w : World) (g : Nat) (o : ByteArray) (k : Int) (n : ByteArray) (s : Sb) (m : ByteArray) (V : World) : Prop where
  bel : Below w.heap.size w V
  box : LBox V g o k n s m
  gt : GT V
theorem TgX.next {w V w' : World} {g : Nat} {o n m : ByteArray} {k : Int} {s : Sb} (H : TgX w g o k n s m V) (hb : Below V.heap.size V w') : TgX w g o k n s m w' := ⟨H.bel.trans (hb.mono H.bel.size), H.box.below hb, H.gt.below hb⟩
theorem TgX.drew {w V : World} {g : Nat} {o n m : ByteArray} {k : Int} {s : Sb} (H : Hid (TgX w g o k n s m V)) : Hid (TgX w g o k n s m V.drew) := H.out.next ((Below.refl _ V).trans ⟨rfl, rfl, rfl, Nat.le_refl _, fun _ _ => rfl⟩)
theorem TgX.drewN {w V : World} {g : Nat} {o n m : ByteArray} {k : Int} {s : Sb} {j : Nat} (H : Hid (TgX w g o k n s m V)) : Hid (TgX w g o k n s m (V.drewN j)) := H.out.next (below_drewN (Below.refl _ _) j)
theorem TgX.full {w w' : World} {g : Nat} {o n who m : ByteArray} {k st sz : Int} (H : TgX w g o k n ⟨who, st, sz⟩ m w') :
    w'.cell? ⟨g, 0, none⟩ = some (.string o) ∧ w'.cell? ⟨g, 1, none⟩ = some (.int .i64 k) ∧ w'.cell? ⟨g, 2, none⟩ = some (.string n) ∧ w'.cell? ⟨g, 3, none⟩ = some (.string who) ∧ w'.cell? ⟨g, 4, none⟩ = some (.int .i64 st) ∧ w'.cell? ⟨g, 5, none⟩ = some (.int .i64 sz) ∧ w'.cell? ⟨g, 6, none⟩ = some (.string m) ∧ Hid (TgX w g o k n ⟨who, st, sz⟩ m w') := by
  obtain ⟨k0, k1, k2, k3, k4, k5, k6⟩ := H.box.seven
  exact ⟨k0, k1, k2, k3, k4, k5, k6, H⟩
theorem TgX.call {w V : World} {f g : Nat} {o n who m : ByteArray} {k st sz : Int} {args : Array Value} {v : Value} (h : Calls Tryd.prog f args V fun x w' => x = .returned v ∧ Below V.heap.size V w') (H : Hid (TgX w g o k n ⟨who, st, sz⟩ m V)) :
    Calls Tryd.prog f args V fun x w' => x = .returned v ∧ (w'.cell? ⟨g, 0, none⟩ = some (.string o) ∧ w'.cell? ⟨g, 1, none⟩ = some (.int .i64 k) ∧ w'.cell? ⟨g, 2, none⟩ = some (.string n) ∧ w'.cell? ⟨g, 3, none⟩ = some (.string who) ∧ w'.cell? ⟨g, 4, none⟩ = some (.int .i64 st) ∧ w'.cell? ⟨g, 5, none⟩ = some (.int .i64 sz) ∧ w'.cell? ⟨g, 6, none⟩ = some (.string m) ∧ Hid (TgX w g o k n ⟨who, st, sz⟩ m w')) :=
  h.mono fun _ _ ⟨hx, hb⟩ => ⟨hx, (H.out.next hb).full⟩
theorem tag_text (o : ByteArray) (k : Int) (n : ByteArray) (s : Sb) (m : ByteArray) : (⟨#[111, 98, 106, 101, 99, 116, 32]⟩ : ByteArray) ++ o ++ (⟨#[10, 116, 121, 112, 101, 32]⟩ : ByteArray) ++ (⟨(nameL k).toArray⟩ : ByteArray) ++ (⟨#[10, 116, 97, 103, 32]⟩ : ByteArray) ++ n ++ (⟨#[10, 116, 97, 103, 103, 101, 114, 32]⟩ : ByteArray) ++ sgB s ++ (⟨#[10, 10]⟩ : ByteArray) ++ m = tagB o k n s m := by
  apply bytes_ext
  simp [tagB, tagL, lbOf, wObject, wType, wTag, wTagger, sgB, ByteArray.data_append]
set_option maxHeartbeats 2000000 in
set_option maxRecDepth 100000 in
theorem rtagtext_any (o : ByteArray) (k : Int) (n : ByteArray) (s : Sb) (m : ByteArray) (w : World) (hG : GT w) (hck : checkT o k n s = 0) (hm : m.size ≤ 140737488355328) :
    Calls Tryd.prog 25 #[.agg (c43 o k n s m)] w fun e w' => e = .returned (.string (tagB o k n s m)) ∧ Below w.heap.size w w' := by
  obtain ⟨ho, hk, hn, hs⟩ := tag_zero hck
  have ho40 := id_size ho
  have hn100 := lineB_size hn
  obtain ⟨f1, -, f3, f4, f5, f6⟩ := signed_facts hs
  have szs := sgB_size s hs
  have hnm := nameL_six k
  have HSG := hidM (fun V hV => rsign_any s V hV (by omega) (by omega) (by omega) (by omega))
  have HNM := hidM (fun V => rname_any k V)
  have HFIN := hidM (tag_text o k n s m)
  have hnms : (⟨(nameL k).toArray⟩ : ByteArray).size ≤ 6 := by rw [ba_size]; exact hnm
  generalize (⟨(nameL k).toArray⟩ : ByteArray) = NM at HNM HFIN hnms
  generalize sgB s = S at HSG HFIN szs
  generalize tagB o k n s m = T at *
  have HX1 : Hid (TgX w w.heap.size o k n s m (w.alloc (.cells (c43 o k n s m) 43))) := ⟨(Below.refl _ w).alloc (Nat.le_refl _) _, heap_alloc_new w _, hG.below ((Below.refl _ w).alloc (Nat.le_refl _) _)⟩
  clear hck ho hk hn hs f1 f3 f4 f5 f6 hnm hG
  obtain ⟨Q1, hQ1⟩ : ∃ Q, (⟨#[111, 98, 106, 101, 99, 116, 32]⟩ : ByteArray) ++ o = Q := ⟨_, rfl⟩
  have q1 : Q1.size ≤ 47 := by rw [← hQ1, ByteArray.size_append]; show 7 + o.size ≤ _; omega
  have n0 : ¬ 9223372036854775807 < 7 + o.size := by omega
  obtain ⟨Q2, hQ2⟩ : ∃ Q, Q1 ++ (⟨#[10, 116, 121, 112, 101, 32]⟩ : ByteArray) = Q := ⟨_, rfl⟩
  have q2 : Q2.size ≤ 53 := by rw [← hQ2, ByteArray.size_append]; show Q1.size + 6 ≤ _; omega
  have n1 : ¬ 9223372036854775807 < Q1.size + 6 := by omega
  obtain ⟨Q3, hQ3⟩ : ∃ Q, Q2 ++ NM = Q := ⟨_, rfl⟩
  have q3 : Q3.size ≤ 59 := by rw [← hQ3, ByteArray.size_append]; omega
  have n2 : ¬ 9223372036854775807 < Q2.size + NM.size := by omega
  obtain ⟨Q4, hQ4⟩ : ∃ Q, Q3 ++ (⟨#[10, 116, 97, 103, 32]⟩ : ByteArray) = Q := ⟨_, rfl⟩
  have q4 : Q4.size ≤ 64 := by rw [← hQ4, ByteArray.size_append]; show Q3.size + 5 ≤ _; omega
  have n3 : ¬ 9223372036854775807 < Q3.size + 5 := by omega
  obtain ⟨Q5, hQ5⟩ : ∃ Q, Q4 ++ n = Q := ⟨_, rfl⟩
  have q5 : Q5.size ≤ 164 := by rw [← hQ5, ByteArray.size_append]; omega
  have n4 : ¬ 9223372036854775807 < Q4.size + n.size := by omega
  obtain ⟨Q6, hQ6⟩ : ∃ Q, Q5 ++ (⟨#[10, 116, 97, 103, 103, 101, 114, 32]⟩ : ByteArray) = Q := ⟨_, rfl⟩
  have q6 : Q6.size ≤ 172 := by rw [← hQ6, ByteArray.size_append]; show Q5.size + 8 ≤ _; omega
  have n5 : ¬ 9223372036854775807 < Q5.size + 8 := by omega
  obtain ⟨Q7, hQ7⟩ : ∃ Q, Q6 ++ S = Q := ⟨_, rfl⟩
  have q7 : Q7.size ≤ 302 := by rw [← hQ7, ByteArray.size_append]; omega
  have n6 : ¬ 9223372036854775807 < Q6.size + S.size := by omega
  obtain ⟨Q8, hQ8⟩ : ∃ Q, Q7 ++ (⟨#[10, 10]⟩ : ByteArray) = Q := ⟨_, rfl⟩
  have q8 : Q8.size ≤ 304 := by rw [← hQ8, ByteArray.size_append]; show Q7.size + 2 ≤ _; omega
  have n7 : ¬ 9223372036854775807 < Q7.size + 2 := by omega
  have hQ9 : Q8 ++ m = T := by rw [← HFIN.out, ← hQ8, ← hQ7, ← hQ6, ← hQ5, ← hQ4, ← hQ3, ← hQ2, ← hQ1]
  have n8 : ¬ 9223372036854775807 < Q8.size + m.size := by omega
  clear q1 q2 q3 q4 q5 q6 q7 q8 HFIN szs hnms hm ho40 hn100
  obtain ⟨who, st, sz⟩ := s
  have HSG2 : Hid (∀ V g, Hid (TgX w g o k n ⟨who, st, sz⟩ m V) → _) := fun V g hV => TgX.call (g := g) (HSG.out V hV.out.gt) hV
  have HNM2 : Hid (∀ V g, Hid (TgX w g o k n ⟨who, st, sz⟩ m V) → _) := fun V g hV => TgX.call (g := g) (HNM.out V) hV
  unfold sbV at HSG2
  simp only [c43] at HX1 HSG2 HNM2 ⊢
  clear HSG HNM
  go_enter Tryd.func25, Tryd.ntmps25
  go_upto_region 1 with fail
  generalize w.alloc (.cells #[.string o, .int .i64 k, .string n, .string who, .int .i64 st, .int .i64 sz, .string m] 43) = W at *
  obtain ⟨g, hg⟩ : ∃ g, w.heap.size = g := ⟨_, rfl⟩
  rw [hg] at HX1 ⊢
  clear hg
  obtain ⟨k0, k1, k2, k3, k4, k5, k6, _⟩ := TgX.full HX1.out
  go_region_held3 (fun w' => w'.cell? ⟨g, 0, none⟩ = some (.string o) ∧ w'.cell? ⟨g, 1, none⟩ = some (.int .i64 k) ∧ w'.cell? ⟨g, 2, none⟩ = some (.string n) ∧ w'.cell? ⟨g, 3, none⟩ = some (.string who) ∧ w'.cell? ⟨g, 4, none⟩ = some (.int .i64 st) ∧ w'.cell? ⟨g, 5, none⟩ = some (.int .i64 sz) ∧ w'.cell? ⟨g, 6, none⟩ = some (.string m) ∧ Hid (TgX w g o k n ⟨who, st, sz⟩ m w'))
    (first | exact hS2 | exact hS1 | exact TgX.full (Hid.out (by repeat (first | exact hS2.2.2.2.2.2.2.2 | exact hS1.2.2.2.2.2.2.2 | exact HX1 | apply TgX.drew | apply TgX.drewN))))
    (first | (go_at_call 44; with_reducible refine (HNM2.out _ _ (by repeat (first | exact hS2.2.2.2.2.2.2.2 | exact hS1.2.2.2.2.2.2.2 | exact HX1 | apply TgX.drew | apply TgX.drewN))).mono ?_; rintro _ v1 ⟨rfl, hS1⟩) | (go_at_call 27; with_reducible refine (HSG2.out _ _ (by repeat (first | exact hS2.2.2.2.2.2.2.2 | exact hS1.2.2.2.2.2.2.2 | exact HX1 | apply TgX.drew | apply TgX.drewN))).mono ?_; rintro _ v2 ⟨rfl, hS2⟩))
  all_goals
    have HS9 := hidM hS2.2.2.2.2.2.2.2.out
    go_wp2
    go_ret
    exact ⟨rfl, HS9.out.bel⟩
end Go.Proofs.YtbghailohnppmaaDoor
namespace Go.Proofs.YtbghailohnppmaaDoor
open Go.RowKit

theorem self24 (f : Nat) (a : Sb) (w : World) : (Op.equalIn (f + 2) 24 (sbV a) (sbV a)).run Tryd.prog w = .ok true w := by
  obtain ⟨n1, m1, i1⟩ := a
  unfold sbV
  rw [run_equalIn_struct w (f + 1) 24 _ _ struct24 held24]
  have hf := fields24
  obtain ⟨f1, f2, f3, he⟩ : ∃ f1 f2 f3, (Tryd.prog.fieldsOf 24).toList = [f1, f2, f3] := by
    generalize (Tryd.prog.fieldsOf 24).toList = fl at hf
    rcases fl with _ | ⟨f1, _ | ⟨f2, _ | ⟨f3, _ | ⟨f4, fl⟩⟩⟩⟩
    · simp at hf
    · simp at hf
    · simp at hf
    · exact ⟨f1, f2, f3, rfl⟩
    · simp at hf
  rw [he] at hf ⊢
  simp only [List.map_cons, List.map_nil, List.cons.injEq, Prod.mk.injEq, and_true] at hf
  obtain ⟨⟨a1, a2, a3⟩, ⟨b1, b2, b3⟩, ⟨c1, c2, c3⟩⟩ := hf
  have p1 : ∀ (n : ByteArray) (m i : Int) (w : World), (part 9 #[.string n, .int .i64 m, .int .i64 i] 0).run Tryd.prog w = .ok (.string n) w := by intro n m i w; kernel_rfl
  have p2 : ∀ (n : ByteArray) (m i : Int) (w : World), (part 3 #[.string n, .int .i64 m, .int .i64 i] 1).run Tryd.prog w = .ok (.int .i64 m) w := by intro n m i w; kernel_rfl
  have p3 : ∀ (n : ByteArray) (m i : Int) (w : World), (part 3 #[.string n, .int .i64 m, .int .i64 i] 2).run Tryd.prog w = .ok (.int .i64 i) w := by intro n m i w; kernel_rfl
  simp only [Op.eqFields, a1, a2, a3, b1, b2, b3, c1, c2, c3, Sem.run_ite, Sem.run_bind, p1, p2, p3, Result.andThen_ok, ne_eq, String.reduceEq, not_false_eq_true, if_true]
  rw [run_equalIn_string w f 9 n1 n1 Tryd.underlying9]
  simp only [Result.andThen_ok]
  rw [show (n1.toList == n1.toList) = true by simp]
  simp only [Bool.not_true, Bool.false_eq_true, if_false]
  rw [run_equalIn_int w f 3 .i64 .i64 m1 m1 Tryd.underlying3]
  simp only [Result.andThen_ok]
  rw [show (m1 == m1) = true by simp]
  simp only [Bool.not_true, Bool.false_eq_true, if_false]
  rw [run_equalIn_int w f 3 .i64 .i64 i1 i1 Tryd.underlying3]
  simp
theorem held43 : Tryd.prog.stoodInHeld 43 = false := by kernel_rfl
theorem guard43 : Tryd.prog.eqGuardType Tryd.prog.depth 43 = false := by kernel_rfl
theorem struct43 : Tryd.prog.underlying 43 = some (.struct (Tryd.prog.fieldsOf 43)) := by kernel_rfl
theorem fields43 : (Tryd.prog.fieldsOf 43).toList.map (fun f => (f.name, f.type, f.offset)) = [("Object", 9, 0), ("Kind", 3, 1), ("Name", 9, 2), ("Tagger", 24, 3), ("Message", 9, 6)] := by kernel_rfl
theorem self43 (o : ByteArray) (k : Int) (n : ByteArray) (s : Sb) (m : ByteArray) (w : World) :
    (Op.equalIn 10000 43 (.agg (c43 o k n s m)) (.agg (c43 o k n s m))).run Tryd.prog w = .ok true w := by
  obtain ⟨who, t, z⟩ := s
  unfold c43
  rw [run_equalIn_struct w 9999 43 _ _ struct43 held43]
  have hf := fields43
  obtain ⟨f1, f2, f3, f4, f5, he⟩ : ∃ f1 f2 f3 f4 f5, (Tryd.prog.fieldsOf 43).toList = [f1, f2, f3, f4, f5] := by
    generalize (Tryd.prog.fieldsOf 43).toList = fl at hf
    rcases fl with _ | ⟨f1, _ | ⟨f2, _ | ⟨f3, _ | ⟨f4, _ | ⟨f5, _ | ⟨f6, fl⟩⟩⟩⟩⟩⟩
    · simp at hf
    · simp at hf
    · simp at hf
    · simp at hf
    · simp at hf
    · exact ⟨f1, f2, f3, f4, f5, rfl⟩
    · simp at hf
  rw [he] at hf ⊢
  simp only [List.map_cons, List.map_nil, List.cons.injEq, Prod.mk.injEq, and_true] at hf
  obtain ⟨⟨a1, a2, a3⟩, ⟨b1, b2, b3⟩, ⟨c1, c2, c3⟩, ⟨d1, d2, d3⟩, ⟨e1, e2, e3⟩⟩ := hf
  have p1 : ∀ (o n who m : ByteArray) (k t z : Int) (w : World), (part 9 #[.string o, .int .i64 k, .string n, .string who, .int .i64 t, .int .i64 z, .string m] 0).run Tryd.prog w = .ok (.string o) w := by intros; kernel_rfl
  have p2 : ∀ (o n who m : ByteArray) (k t z : Int) (w : World), (part 3 #[.string o, .int .i64 k, .string n, .string who, .int .i64 t, .int .i64 z, .string m] 1).run Tryd.prog w = .ok (.int .i64 k) w := by intros; kernel_rfl
  have p3 : ∀ (o n who m : ByteArray) (k t z : Int) (w : World), (part 9 #[.string o, .int .i64 k, .string n, .string who, .int .i64 t, .int .i64 z, .string m] 2).run Tryd.prog w = .ok (.string n) w := by intros; kernel_rfl
  have p4 : ∀ (o n who m : ByteArray) (k t z : Int) (w : World), (part 24 #[.string o, .int .i64 k, .string n, .string who, .int .i64 t, .int .i64 z, .string m] 3).run Tryd.prog w = .ok (sbV ⟨who, t, z⟩) w := by intros; kernel_rfl
  have p5 : ∀ (o n who m : ByteArray) (k t z : Int) (w : World), (part 9 #[.string o, .int .i64 k, .string n, .string who, .int .i64 t, .int .i64 z, .string m] 6).run Tryd.prog w = .ok (.string m) w := by intros; kernel_rfl
  simp only [Op.eqFields, a1, a2, a3, b1, b2, b3, c1, c2, c3, d1, d2, d3, e1, e2, e3, Sem.run_ite, Sem.run_bind, p1, p2, p3, p4, p5, Result.andThen_ok, ne_eq, String.reduceEq, not_false_eq_true, if_true]
  rw [run_equalIn_string w 9998 9 o o Tryd.underlying9]
  simp only [Result.andThen_ok]
  rw [show (o.toList == o.toList) = true by simp]
  simp only [Bool.not_true, Bool.false_eq_true, if_false]
  rw [run_equalIn_int w 9998 3 .i64 .i64 k k Tryd.underlying3]
  simp only [Result.andThen_ok]
  rw [show (k == k) = true by simp]
  simp only [Bool.not_true, Bool.false_eq_true, if_false]
  rw [run_equalIn_string w 9998 9 n n Tryd.underlying9]
  simp only [Result.andThen_ok]
  rw [show (n.toList == n.toList) = true by simp]
  simp only [Bool.not_true, Bool.false_eq_true, if_false]
  rw [self24 9997 ⟨who, t, z⟩ w]
  simp only [Result.andThen_ok, Bool.not_true, Bool.false_eq_true, if_false]
  rw [run_equalIn_string w 9998 9 m m Tryd.underlying9]
  simp
theorem kind_name (k : Int) (h : nameL k ≠ []) : kindL (nameL k) = k.toNat ∧ 1 ≤ k ∧ k ≤ 4 := by
  have h1 : 1 ≤ k ∧ k ≤ 4 := by
    refine Classical.byContradiction fun hn => h ?_
    by_cases h5 : k < 1
    · exact nameL_small k h5
    · exact nameL_big k (by omega)
  obtain rfl | rfl | rfl | rfl : k = 1 ∨ k = 2 ∨ k = 3 ∨ k = 4 := by omega
  all_goals exact ⟨by decide, by decide, by decide⟩
theorem name_kind (l : List UInt8) (h : nameL (kindL l : Nat) ≠ []) : nameL (kindL l : Nat) = l := by
  unfold kindL at h ⊢
  split
  · rename_i e; rw [e]; decide
  · split
    · rename_i e; rw [e]; decide
    · split
      · rename_i e; rw [e]; decide
      · split
        · rename_i e; rw [e]; decide
        · exfalso
          rename_i e1 e2 e3 e4
          rw [if_neg e1, if_neg e2, if_neg e3, if_neg e4] at h
          exact h (by decide)
/-- a tag's text is read as the tag -/
theorem tag_back {o : ByteArray} {k : Int} {n : ByteArray} {s : Sb} {m : ByteArray} (h : checkT o k n s = 0) : tagR (tagB o k n s m) = (c43 o k n s m, 0) := by
  have h1 : labelP (tagB o k n s m).data.toList = some (lbOf o k n s m) := labelP_mk (lb_ok m h)
  have hk := kind_name k (by have := (tag_zero h).2.1; intro e; rw [e] at this; cases this)
  have h2 : ((kindL (nameL k) : Nat) : Int) = k := by rw [hk.1]; omega
  unfold tagR
  rw [h1]
  have hh : ∀ k' : Int, k' = k → (if checkT o k' n s = 0 then (c43 o k' n s m, 0) else (z43, checkT o k' n s)) = (c43 o k n s m, 0) := by
    rintro _ rfl
    rw [if_pos h]
  exact hh _ h2
/-- what is read of any text: a row, and if it is a tag, the text is the tag's -/
theorem tag_row (t : ByteArray) : ∃ o k n s m, (tagR t).1 = c43 o k n s m ∧ o.size ≤ t.size ∧ m.size ≤ t.size ∧ ((tagR t).2 = 0 → checkT o k n s = 0 ∧ tagB o k n s m = t) := by
  cases hc : labelP t.data.toList with
  | none =>
    refine ⟨⟨#[]⟩, 0, ⟨#[]⟩, noS, ⟨#[]⟩, ?_, Nat.zero_le _, Nat.zero_le _, ?_⟩
    · unfold tagR; rw [hc]; rfl
    · intro h; unfold tagR at h; rw [hc] at h; cases h
  | some c =>
    have ht := labelP_some hc
    have hlen := congrArg List.length ht
    rw [sl_len] at hlen
    unfold tagL at hlen
    simp only [List.length_append, List.length_cons] at hlen
    by_cases hz : checkT (baL c.object) (kindL c.kind : Nat) (baL c.name) (sbOf c.tagger) = 0
    · refine ⟨baL c.object, (kindL c.kind : Nat), baL c.name, sbOf c.tagger, baL c.message, ?_, by rw [baL_size]; omega, by rw [baL_size]; omega, fun _ => ⟨hz, ?_⟩⟩
      · unfold tagR; rw [hc]; simp only; rw [if_pos hz]; rfl
      · have hk := name_kind c.kind (by have := (tag_zero hz).2.1; intro e; rw [e] at this; cases this)
        refine ba_eq ?_
        show tagL (lbOf _ _ _ _ _) = _
        rw [ht]
        unfold lbOf
        rw [hk]
        rfl
    · refine ⟨⟨#[]⟩, 0, ⟨#[]⟩, noS, ⟨#[]⟩, ?_, Nat.zero_le _, Nat.zero_le _, ?_⟩
      · unfold tagR; rw [hc]; simp only; rw [if_neg hz]; rfl
      · intro h; unfold tagR at h; rw [hc] at h; simp only at h; rw [if_neg hz] at h; exact absurd h hz
end Go.Proofs.YtbghailohnppmaaDoor
namespace Go.Proofs.YtbghailohnppmaaDoor
open Go.RowKit

def TagPB (x : ByteArray) (r : Array Value) (V : World) : Prop := Calls Tryd.prog 22 #[.string x] V fun e w' => e = .returned (.tuple #[.agg r, .int .i64 0]) ∧ Below V.heap.size V w'
/-- the law's boxes -/
structure GX (w : World) (g1 g2 g3 : Nat) (r1 r2 r3 : Array Value) (V : World) : Prop where
  bel : Below w.heap.size w V
  b1 : V.heap[g1]? = some (.cells r1 43 (0, 0))
  b2 : V.heap[g2]? = some (.cells r2 43 (0, 0))
  b3 : V.heap[g3]? = some (.cells r3 43 (0, 0))
theorem GX.next {w V V' : World} {g1 g2 g3 : Nat} {r1 r2 r3 : Array Value} (h : GX w g1 g2 g3 r1 r2 r3 V) (hb : Below V.heap.size V V') : GX w g1 g2 g3 r1 r2 r3 V' :=
  ⟨h.bel.trans (hb.mono h.bel.size), box_bel h.b1 hb, box_bel h.b2 hb, box_bel h.b3 hb⟩
theorem tagB_size {o : ByteArray} {k : Int} {n : ByteArray} {s : Sb} (m : ByteArray) (h : checkT o k n s = 0) : (tagB o k n s m).size ≤ m.size + 1000 := by
  obtain ⟨ho, hk, hn, hs⟩ := tag_zero h
  have h1 := id_size ho
  have h2 := lineB_size hn
  have h3 := sgB_size s hs
  have h4 := nameL_six k
  rw [← tag_text]
  simp only [ByteArray.size_append]
  have h5 : (⟨(nameL k).toArray⟩ : ByteArray).size ≤ 6 := by rw [ba_size]; exact h4
  have l1 : (⟨#[111, 98, 106, 101, 99, 116, 32]⟩ : ByteArray).size = 7 := rfl
  have l2 : (⟨#[10, 116, 121, 112, 101, 32]⟩ : ByteArray).size = 6 := rfl
  have l3 : (⟨#[10, 116, 97, 103, 32]⟩ : ByteArray).size = 5 := rfl
  have l4 : (⟨#[10, 116, 97, 103, 103, 101, 114, 32]⟩ : ByteArray).size = 8 := rfl
  have l5 : (⟨#[10, 10]⟩ : ByteArray).size = 2 := rfl
  omega
set_option maxHeartbeats 4000000 in
set_option maxRecDepth 20000 in
theorem tags_any (o : ByteArray) (k : Int) (n : ByteArray) (s : Sb) (m t : ByteArray) (w : World) (hG : GT w) (hN : NamesAt w) (ho : o.size ≤ maxLen) (hn : n.size ≤ 9223372036854775807) (hw : s.who.size ≤ 9223372036854775807) (hm : m.size ≤ 1000000000) (ht : t.size ≤ 1000000000) :
    Calls Tryd.prog 5 #[.agg (c43 o k n s m), .string t] w fun e w' => e = .returned (.bool true) ∧ Below w.heap.size w w' := by
  have HAW := hidM (fun V hG => awake_any V hG)
  have HFT := hidM (fun V hG hN => ftag_any o k n s m V hG hN ho (by omega))
  have HRC := hidM (fun V => rctag_any o k n s m V hw hn)
  have HCT := hidM (fun V hN => ctag_any o k n s m V hN ho)
  have HBK : Hid (checkT o k n s = 0 → (∀ V, GT V → NamesAt V → TagPB (tagB o k n s m) (c43 o k n s m) V) ∧ (∀ V, GT V → Calls Tryd.prog 25 #[.agg (c43 o k n s m)] V fun e w' => e = .returned (.string (tagB o k n s m)) ∧ Below V.heap.size V w')) := fun h => ⟨fun V h1 h2 => by
      have := ptag_any (tagB o k n s m) V h1 h2 (by have := tagB_size m h; omega)
      unfold TagPost at this
      rw [tag_back h] at this
      exact this, fun V h1 => rtagtext_any o k n s m V h1 h (by omega)⟩
  have HPT := hidM (fun V hG hN => ptag_any t V hG hN (by omega))
  have HRP := hidM (fun V => reftag_any t V (by omega))
  obtain ⟨o2, k2, n2, s2, m2, hr, hs1, hs2, hz2⟩ := tag_row t
  have HZ2 := hidM hz2
  have HF2 := hidM (fun V hG hN => ftag_any o2 k2 n2 s2 m2 V hG hN (by unfold maxLen; omega) (by omega))
  unfold TagPost at HPT HRP
  rw [hr] at HPT HRP
  have hself := fun V => self43 o2 k2 n2 s2 m2 V
  have hself1 := fun V => self43 o k n s m V
  have hgd := guard43
  generalize (tagR t).2 = F at *
  have HG0 := hidM hG
  have HN0 := hidM hN
  clear hr hs1 hs2 hz2 hG hN
  have HB0 : Hid (Below w.heap.size w (w.alloc (.cells (c43 o k n s m) 43))) := (Below.refl _ w).alloc (Nat.le_refl _) _
  have HC0 : Hid (LBox (w.alloc (.cells (c43 o k n s m) 43)) w.heap.size o k n s m) := heap_alloc_new w _
  obtain ⟨E, hE⟩ : ∃ E, checkT o k n s = E := ⟨_, rfl⟩
  have HEE := hidM hE
  rw [hE] at HFT HRC HCT
  obtain ⟨X, hX⟩ : ∃ X, (if E = 0 then tagB o k n s m else ⟨#[]⟩) = X := ⟨_, rfl⟩
  rw [hX] at HFT
  have HXX := hidM hX
  clear hE hX
  have hEE : ((E : Int) != E) = false := by simp
  have hFF : ((F : Int) != F) = false := by simp
  obtain ⟨who, st, sz⟩ := s
  obtain ⟨who2, st2, sz2⟩ := s2
  simp only [c43] at HB0 HC0 HFT HRC HCT HPT HRP HF2 hself hself1 HBK ⊢
  go_enter Tryd.func5, Tryd.ntmps5
  go_upto_region 1 with fail
  generalize w.alloc (.cells #[.string o, .int .i64 k, .string n, .string who, .int .i64 st, .int .i64 sz, .string m] 43) = W at *
  obtain ⟨g, hg⟩ : ∃ X, w.heap.size = X := ⟨_, rfl⟩
  rw [hg] at HC0 ⊢
  obtain ⟨i0, i1, i2, i3, i4, i5, i6⟩ := HC0.out.seven
  go_wp2_with fail
  refine (HFT.out _ (HG0.out.below HB0.out) (HN0.out.below HB0.out)).mono ?_
  rintro _ w1 ⟨rfl, hb1⟩
  have HB1 := hidM (HB0.out.trans (hb1.mono HB0.out.size))
  have HC1 : Hid (LBox w1 g o k n ⟨who, st, sz⟩ m) := HC0.out.below hb1
  clear i0 i1 i2 i3 i4 i5 i6 hb1 HB0 HC0 HFT
  obtain ⟨i0, i1, i2, i3, i4, i5, i6⟩ := HC1.out.seven
  go_wp2_with fail
  refine (HRC.out _).mono ?_
  rintro _ w2 ⟨rfl, hb1⟩
  have HB2 := hidM (HB1.out.trans (hb1.mono HB1.out.size))
  have HC2 : Hid (LBox w2 g o k n ⟨who, st, sz⟩ m) := HC1.out.below hb1
  clear i0 i1 i2 i3 i4 i5 i6 hb1 HB1 HC1 HRC
  go_wp2_with fail
  refine (HPT.out _ (HG0.out.below HB2.out) (HN0.out.below HB2.out)).mono ?_
  rintro _ w3 ⟨rfl, hb1⟩
  have hba : Below w3.heap.size w3 (w3.alloc (.cells #[.string o2, .int .i64 k2, .string n2, .string who2, .int .i64 st2, .int .i64 sz2, .string m2] 43)) := (Below.refl _ w3).alloc (Nat.le_refl _) _
  have HB3 := hidM (HB2.out.trans ((hb1.trans (hba.mono hb1.size)).mono HB2.out.size))
  have HC3 : Hid (LBox (w3.alloc (.cells #[.string o2, .int .i64 k2, .string n2, .string who2, .int .i64 st2, .int .i64 sz2, .string m2] 43)) g o k n ⟨who, st, sz⟩ m) := (HC2.out.below hb1).below hba
  have HU3 : Hid (LBox (w3.alloc (.cells #[.string o2, .int .i64 k2, .string n2, .string who2, .int .i64 st2, .int .i64 sz2, .string m2] 43)) w3.heap.size o2 k2 n2 ⟨who2, st2, sz2⟩ m2) := heap_alloc_new w3 _
  clear hb1 hba HB2 HC2 HPT
  go_wp2_with fail
  generalize w3.alloc (.cells #[.string o2, .int .i64 k2, .string n2, .string who2, .int .i64 st2, .int .i64 sz2, .string m2] 43) = W3 at HB3 HC3 HU3 ⊢
  obtain ⟨gu, hgu⟩ : ∃ X, w3.heap.size = X := ⟨_, rfl⟩
  rw [hgu] at HU3 ⊢
  clear hgu
  refine (HRP.out _).mono ?_
  rintro _ w4 ⟨rfl, hb1⟩
  have hba : Below w4.heap.size w4 (w4.alloc (.cells #[.string o2, .int .i64 k2, .string n2, .string who2, .int .i64 st2, .int .i64 sz2, .string m2] 43)) := (Below.refl _ w4).alloc (Nat.le_refl _) _
  have HX5 : Hid (GX w g gu w4.heap.size #[.string o, .int .i64 k, .string n, .string who, .int .i64 st, .int .i64 sz, .string m] #[.string o2, .int .i64 k2, .string n2, .string who2, .int .i64 st2, .int .i64 sz2, .string m2] #[.string o2, .int .i64 k2, .string n2, .string who2, .int .i64 st2, .int .i64 sz2, .string m2] (w4.alloc (.cells #[.string o2, .int .i64 k2, .string n2, .string who2, .int .i64 st2, .int .i64 sz2, .string m2] 43))) :=
    ⟨HB3.out.trans ((hb1.trans (hba.mono hb1.size)).mono HB3.out.size), box_bel (box_bel HC3.out hb1) hba, box_bel (box_bel HU3.out hb1) hba, heap_alloc_new w4 _⟩
  clear hb1 hba HB3 HC3 HU3 HRP
  go_upto_region 5 with fail
  generalize w4.alloc (.cells #[.string o2, .int .i64 k2, .string n2, .string who2, .int .i64 st2, .int .i64 sz2, .string m2] 43) = W5 at HX5 ⊢
  obtain ⟨gv, hgv⟩ : ∃ X, w4.heap.size = X := ⟨_, rfl⟩
  rw [hgv] at HX5 ⊢
  clear hgv
  go_wp2_with fail
  refine (HAW.out _ (HG0.out.below HX5.out.bel)).mono ?_
  rintro _ w6 ⟨rfl, hb1⟩
  have HX6 := hidM (HX5.out.next hb1)
  clear hb1 HX5 HAW
  have HL6 : Hid (LBox w6 g o k n ⟨who, st, sz⟩ m) := HX6.out.b1
  obtain ⟨i0, i1, i2, i3, i4, i5, i6⟩ := HL6.out.seven
  go_wp2_with fail
  refine (HCT.out _ (HN0.out.below HX6.out.bel)).mono ?_
  rintro _ w7 ⟨rfl, hb1⟩
  have HX7 := hidM (HX6.out.next hb1)
  clear hb1 HX6 HL6 HCT i0 i1 i2 i3 i4 i5 i6
  have HL7 : Hid (LBox w7 gu o2 k2 n2 ⟨who2, st2, sz2⟩ m2) := HX7.out.b2
  have HM7 : Hid (LBox w7 gv o2 k2 n2 ⟨who2, st2, sz2⟩ m2) := HX7.out.b3
  obtain ⟨i0, i1, i2, i3, i4, i5, i6⟩ := HL7.out.seven
  obtain ⟨j0, j1, j2, j3, j4, j5, j6⟩ := HM7.out.seven
  go_upto_region 7 with fail
  clear j0 j1 j2 j3 j4 j5 j6 HM7
  by_cases hF : F = 0
  · subst hF
    obtain ⟨hz0, hz1⟩ := HZ2.out rfl
    have HF3 : Hid (∀ V, GT V → NamesAt V → Calls Tryd.prog 20 #[.agg #[.string o2, .int .i64 k2, .string n2, .string who2, .int .i64 st2, .int .i64 sz2, .string m2]] V fun e w' => e = .returned (.tuple #[.string t, .int .i64 0]) ∧ Below V.heap.size V w') := fun V h1 h2 => by
      have := HF2.out V h1 h2
      rw [hz0, if_pos rfl, hz1] at this
      exact this
    clear hz0 hz1 HZ2 HF2
    go_wp2_with fail
    refine (HF3.out _ (HG0.out.below HX7.out.bel) (HN0.out.below HX7.out.bel)).mono ?_
    rintro _ w8 ⟨rfl, hb1⟩
    have HX8 := hidM (HX7.out.next hb1)
    clear hb1 HX7 HL7 i0 i1 i2 i3 i4 i5 i6 HF3
    go_upto_region 11 with fail
    by_cases hE0 : E = 0
    · subst hE0
      obtain ⟨hb1, hb2⟩ := HBK.out HEE.out
      rw [show tagB o k n ⟨who, st, sz⟩ m = X from HXX.out] at hb1 hb2
      unfold TagPB at hb1
      have HP9 := hidM hb1
      have HT9 := hidM hb2
      clear hb1 hb2 HBK HEE HXX
      go_wp2_with fail
      refine (HP9.out _ (HG0.out.below HX8.out.bel) (HN0.out.below HX8.out.bel)).mono ?_
      rintro _ wa ⟨rfl, hb1⟩
      have hba : Below wa.heap.size wa (wa.alloc (.cells #[.string o, .int .i64 k, .string n, .string who, .int .i64 st, .int .i64 sz, .string m] 43)) := (Below.refl _ wa).alloc (Nat.le_refl _) _
      have HXa := hidM ((HX8.out.next hb1).next hba)
      have HA : Hid (LBox (wa.alloc (.cells #[.string o, .int .i64 k, .string n, .string who, .int .i64 st, .int .i64 sz, .string m] 43)) wa.heap.size o k n ⟨who, st, sz⟩ m) := heap_alloc_new wa _
      clear hb1 hba HX8
      go_upto_region 14 with fail
      generalize wa.alloc (.cells #[.string o, .int .i64 k, .string n, .string who, .int .i64 st, .int .i64 sz, .string m] 43) = Wb at HXa HA ⊢
      obtain ⟨gb, hgb⟩ : ∃ X, wa.heap.size = X := ⟨_, rfl⟩
      rw [hgb] at HA ⊢
      clear hgb
      have HLa : Hid (LBox Wb g o k n ⟨who, st, sz⟩ m) := HXa.out.b1
      obtain ⟨i0, i1, i2, i3, i4, i5, i6⟩ := HLa.out.seven
      go_wp2_with fail
      refine (HT9.out _ (HG0.out.below HXa.out.bel)).mono ?_
      rintro _ wc ⟨rfl, hb1⟩
      have HXc := hidM (HXa.out.next hb1)
      have HAc : Hid (LBox wc gb o k n ⟨who, st, sz⟩ m) := HA.out.below hb1
      have HLc : Hid (LBox wc g o k n ⟨who, st, sz⟩ m) := HXc.out.b1
      clear hb1 HXa HA HLa i0 i1 i2 i3 i4 i5 i6
      obtain ⟨i0, i1, i2, i3, i4, i5, i6⟩ := HLc.out.seven
      obtain ⟨j0, j1, j2, j3, j4, j5, j6⟩ := HAc.out.seven
      go_wp2
      go_ret
      exact ⟨rfl, HXc.out.bel⟩
    · have hEd : ((E : Int) != 0) = true := by simp; omega
      have HXE : Hid (X = ⟨#[]⟩) := by unfold Hid; rw [← HXX.out, if_neg hE0]
      have hxe := HXE.out
      subst hxe
      clear HBK HXX HXE
      go_wp2
      go_ret
      exact ⟨rfl, HX8.out.bel⟩
  · have hFd : ((F : Int) == 0) = false := by simp; omega
    clear HZ2 HF2 HL7 i0 i1 i2 i3 i4 i5 i6
    go_upto_region 11 with fail
    by_cases hE0 : E = 0
    · subst hE0
      obtain ⟨hb1, hb2⟩ := HBK.out HEE.out
      rw [show tagB o k n ⟨who, st, sz⟩ m = X from HXX.out] at hb1 hb2
      unfold TagPB at hb1
      have HP9 := hidM hb1
      have HT9 := hidM hb2
      clear hb1 hb2 HBK HEE HXX
      go_wp2_with fail
      refine (HP9.out _ (HG0.out.below HX7.out.bel) (HN0.out.below HX7.out.bel)).mono ?_
      rintro _ wa ⟨rfl, hb1⟩
      have hba : Below wa.heap.size wa (wa.alloc (.cells #[.string o, .int .i64 k, .string n, .string who, .int .i64 st, .int .i64 sz, .string m] 43)) := (Below.refl _ wa).alloc (Nat.le_refl _) _
      have HXa := hidM ((HX7.out.next hb1).next hba)
      have HA : Hid (LBox (wa.alloc (.cells #[.string o, .int .i64 k, .string n, .string who, .int .i64 st, .int .i64 sz, .string m] 43)) wa.heap.size o k n ⟨who, st, sz⟩ m) := heap_alloc_new wa _
      clear hb1 hba HX7
      go_upto_region 14 with fail
      generalize wa.alloc (.cells #[.string o, .int .i64 k, .string n, .string who, .int .i64 st, .int .i64 sz, .string m] 43) = Wb at HXa HA ⊢
      obtain ⟨gb, hgb⟩ : ∃ X, wa.heap.size = X := ⟨_, rfl⟩
      rw [hgb] at HA ⊢
      clear hgb
      have HLa : Hid (LBox Wb g o k n ⟨who, st, sz⟩ m) := HXa.out.b1
      obtain ⟨i0, i1, i2, i3, i4, i5, i6⟩ := HLa.out.seven
      go_wp2_with fail
      refine (HT9.out _ (HG0.out.below HXa.out.bel)).mono ?_
      rintro _ wc ⟨rfl, hb1⟩
      have HXc := hidM (HXa.out.next hb1)
      have HAc : Hid (LBox wc gb o k n ⟨who, st, sz⟩ m) := HA.out.below hb1
      have HLc : Hid (LBox wc g o k n ⟨who, st, sz⟩ m) := HXc.out.b1
      clear hb1 HXa HA HLa i0 i1 i2 i3 i4 i5 i6
      obtain ⟨i0, i1, i2, i3, i4, i5, i6⟩ := HLc.out.seven
      obtain ⟨j0, j1, j2, j3, j4, j5, j6⟩ := HAc.out.seven
      go_wp2
      go_ret
      exact ⟨rfl, HXc.out.bel⟩
    · have hEd : ((E : Int) != 0) = true := by simp; omega
      have HXE : Hid (X = ⟨#[]⟩) := by unfold Hid; rw [← HXX.out, if_neg hE0]
      have hxe := HXE.out
      subst hxe
      clear HBK HXX HXE
      go_wp2
      go_ret
      exact ⟨rfl, HX7.out.bel⟩
end Go.Proofs.YtbghailohnppmaaDoor
namespace Go.Proofs.YtbghailohnppmaaDoor
open Go.ChangeShapes Go.WideShapes Go.ChangeAt Go.WideMaps Go.WideElems Go.RowKit

theorem cells3l : Tryd.prog.cellsOf 3 = 1 := by kernel_rfl
theorem trod_struct5 {H : Type} {enc : TypeId × Value → H} {P : Program} {w : World} {base : Nat} {spare : Nat → Bool} {held : Bool} {t : TypeId} {f0 f1 f2 f3 f4 : Field} {fuel : Nat} {cs : List Value} {x : DataW H × List MemPlace} (ht : P.underlying t = some (.struct #[f0, f1, f2, f3, f4])) (h : DataW.trod enc P w base spare held fuel t cs = some x) :
    ∃ y0 y1 y2 y3 y4 n, x.1 = .agg [y0.1, y1.1, y2.1, y3.1, y4.1] ∧ DataW.trod enc P w base spare held n f0.type ((cs.drop f0.offset).take (P.cellsOf f0.type)) = some y0 ∧
      DataW.trod enc P w base spare held n f1.type ((cs.drop f1.offset).take (P.cellsOf f1.type)) = some y1 ∧ DataW.trod enc P w base spare held n f2.type ((cs.drop f2.offset).take (P.cellsOf f2.type)) = some y2 ∧
      DataW.trod enc P w base spare held n f3.type ((cs.drop f3.offset).take (P.cellsOf f3.type)) = some y3 ∧ DataW.trod enc P w base spare held n f4.type ((cs.drop f4.offset).take (P.cellsOf f4.type)) = some y4 := by
  obtain ⟨xs, n, _, rfl, hl, hlen, hf⟩ := DataW.trod_struct ht h
  match xs, hlen with
  | [y0, y1, y2, y3, y4], _ => exact ⟨y0, y1, y2, y3, y4, n, by simp, by simpa using hf 0 f0 rfl, by simpa using hf 1 f1 rfl, by simpa using hf 2 f2 rfl, by simpa using hf 3 f3 rfl, by simpa using hf 4 f4 rfl⟩
theorem sign_cells {H : Type} {enc : TypeId × Value → H} {W : World} {n : Nat} {v0 v1 v2 : Value} {y : DataW H × List MemPlace} (h : DataW.trod enc Tryd.prog W 0 (fun _ => true) true n 24 [v0, v1, v2] = some y) :
    ∃ s : Sb, v0 = .string s.who ∧ v1 = .int .i64 s.time ∧ v2 = .int .i64 s.zone ∧ s.who.size ≤ maxLen ∧ (-9223372036854775808 ≤ s.time ∧ s.time ≤ 9223372036854775807) ∧ (-9223372036854775808 ≤ s.zone ∧ s.zone ≤ 9223372036854775807) := by
  obtain ⟨y0, y1, y2, m, _,_, h0, h1, h2⟩ := Deep.trod_struct3 Tryd.underlying24 h
  simp only [cells3l, cells9l, List.drop_zero, List.take_succ_cons, List.take_zero, List.drop_succ_cons] at h0 h1 h2
  obtain ⟨b, hb, _, wb⟩ := DataW.trod_string Tryd.underlying9 h0
  obtain ⟨k, hk, _, wk⟩ := DataW.trod_int Tryd.underlying3 h1
  obtain ⟨z, hz, _, wz⟩ := DataW.trod_int Tryd.underlying3 h2
  simp only [List.cons.injEq, and_true] at hk hb hz
  exact ⟨⟨b, k, z⟩, hb, hk, hz, wb, i64_range wk, i64_range wz⟩
end Go.Proofs.YtbghailohnppmaaDoor
