/-
  Walks of the laws of commit: CommitMessages.
  Walks of the document's words on commits: Check.
  Walks of the document's words on commits: Text.
  Walks of the document's words on commits: Same.
  Walks of the laws of commit: CommitFormats.
  A commit that was handed in, opened.
-/
import Derived.Test.YtbghailohnppmaaDoorJComL
import Derived.Test.YtbghailohnppmaaDoorLaid
import Derived.Deep.Strs
import Derived.SizedLaws
namespace Go.Proofs.YtbghailohnppmaaDoor
open Go.RowKit

theorem CBox.nine {w : World} {g : Nat} {t : ByteArray} {pv : Value} {awho cwho m : ByteArray} {at_ az ct cz : Int} (h : CBox w g t pv ⟨awho, at_, az⟩ ⟨cwho, ct, cz⟩ m) :
    w.cell? ⟨g, 0, none⟩ = some (.string t) ∧ w.cell? ⟨g, 1, none⟩ = some pv ∧ w.cell? ⟨g, 2, none⟩ = some (.string awho) ∧ w.cell? ⟨g, 3, none⟩ = some (.int .i64 at_) ∧ w.cell? ⟨g, 4, none⟩ = some (.int .i64 az) ∧ w.cell? ⟨g, 5, none⟩ = some (.string cwho) ∧ w.cell? ⟨g, 6, none⟩ = some (.int .i64 ct) ∧ w.cell? ⟨g, 7, none⟩ = some (.int .i64 cz) ∧ w.cell? ⟨g, 8, none⟩ = some (.string m) :=
  ⟨h.cell 0 rfl, h.cell 1 rfl, h.cell 2 rfl, h.cell 3 rfl, h.cell 4 rfl, h.cell 5 rfl, h.cell 6 rfl, h.cell 7 rfl, h.cell 8 rfl⟩
def headL (t : ByteArray) (ps : List ByteArray) (a c : Sb) : List UInt8 := wTree ++ t.data.toList ++ 10 :: (parsT (ps.map fun p => p.data.toList) ++ (wAuthor ++ sgL (sgOf a) ++ 10 :: (wCommitter ++ sgL (sgOf c))))
theorem text_head (t : ByteArray) (ps : List ByteArray) (a c : Sb) (m : ByteArray) : (textB t ps a c m).data.toList = headL t ps a c ++ [10, 10] ++ m.data.toList := by
  simp only [textB, textL, cmOf, headL]
  simp
theorem pars_len {l : List (List UInt8)} (h : ∀ p ∈ l, p.length = 40) (h16 : l.length ≤ 16) : (parsT l).length ≤ 768 := by
  have : (parsT l).length = 48 * l.length := by
    clear h16
    induction l with
    | nil => rfl
    | cons p r ih =>
      have := ih (fun q hq => h q (List.mem_cons_of_mem _ hq))
      have hp := h p (by simp)
      simp only [parsT, List.flatMap_cons, List.length_append, List.length_cons, List.length_nil] at this ⊢
      rw [this, hp]
      show wParent.length + 40 + 1 + _ = _
      rw [show wParent.length = 7 from rfl]
      omega
  omega
theorem text_size {t : ByteArray} {ps : List ByteArray} {a c : Sb} (m : ByteArray) (h : checkE t ps a c = 0) : (textB t ps a c m).size ≤ m.size + 2000 := by
  obtain ⟨h1, h2, h3, h4, h5⟩ := check_zero h
  have s1 := sgB_size a h4
  have s2 := sgB_size c h5
  have s3 := id_size h3
  rw [← sl_len, sgB_list] at s1 s2
  have s4 := pars_len (l := ps.map fun p => p.data.toList) (by
    intro p hp
    obtain ⟨q, hq, rfl⟩ := List.mem_map.1 hp
    rw [sl_len, id_size (h2 q hq)]) (by simpa using h1)
  rw [← sl_len] at s3
  rw [← sl_len, ← sl_len m, text_head, headL]
  simp only [List.length_append, List.length_cons, List.length_nil]
  rw [show wTree.length = 5 from rfl, show wAuthor.length = 7 from rfl, show wCommitter.length = 10 from rfl]
  omega
theorem strso_below {w w' : World} {v : Value} {l : List ByteArray} (h : StrsO w v l) (hb : Below w.heap.size w w') : StrsO w' v l := by
  rcases h with h | h | ⟨b, off, cap, h1, h2, h3, h4⟩
  · exact .inl h
  · exact .inr (.inl h)
  · exact .inr (.inr ⟨b, off, cap, h1, Nat.lt_of_lt_of_le h2 hb.size, h3, fun j hj => (hb.cell (p := ⟨b, off + j, none⟩) h2).trans (h4 j hj)⟩)
end Go.Proofs.YtbghailohnppmaaDoor
namespace Go.Proofs.YtbghailohnppmaaDoor
open Go.RowKit

set_option maxHeartbeats 1000000 in
set_option maxRecDepth 20000 in
theorem rcheck_any (t : ByteArray) (pv : Value) (ps : List ByteArray) (a c : Sb) (m : ByteArray) (w : World) (hp : StrsV w pv ps) (hwa : a.who.size ≤ 9223372036854775807) (hwc : c.who.size ≤ 9223372036854775807) :
    Calls Tryd.prog 11 #[.agg (c26 t pv a c m)] w fun e w' => e = .returned (.int .i64 (checkE t ps a c : Nat)) ∧ Below w.heap.size w w' := by
  obtain ⟨pa, pc, rfl, hst⟩ := hp
  obtain ⟨n, hn⟩ : ∃ n, ps.length = n := ⟨_, rfl⟩
  have HC0 : Hid (CBox (w.alloc (.cells (c26 t (.slice pa n pc) a c m) 26)) w.heap.size t (.slice pa n pc) a c m) := heap_alloc_new w _
  have HB0 : Hid (Below w.heap.size w (w.alloc (.cells (c26 t (.slice pa n pc) a c m) 26))) := (Below.refl _ w).alloc (Nat.le_refl _) _
  rw [hn]
  have HST := hidM hst
  have HN := hidM hn
  by_cases hbig : 16 < n
  · have HR : Hid (checkE t ps a c = 2) := check_big (by omega)
    have g0 : (16 : Int) < (n : Int) := by omega
    clear hst hn
    unfold c26 at *
    go_enter Tryd.func11, Tryd.ntmps11
    go_wp2
    go_ret
    exact ⟨by rw [HR.out]; rfl, HB0.out⟩
  · have g0 : ¬ (16 : Int) < (n : Int) := by omega
    have HID := hidM (fun p (h : p ∈ ps) V => rid_any p V)
    have HIT := hidM (fun V => rid_any t V)
    have HSA := hidM (fun V => rsigned_any a V hwa)
    have HSC := hidM (fun V => rsigned_any c V hwc)
    have HRP := hidM (fun h => check_par (t := t) (ps := ps) (a := a) (c := c) (by rw [hn]; omega) h)
    have HRR := hidM (fun h => check_rest (t := t) (ps := ps) (a := a) (c := c) (by rw [hn]; omega) h)
    unfold sbV at HSA HSC
    clear hst hn
    go_enter Tryd.func11, Tryd.ntmps11
    unfold c26 at HC0 HB0
    unfold c26
    go_wp2
    unfold CBox c26 at HC0
    generalize w.alloc (.cells #[.string t, .slice pa n pc, .string a.who, .int .i64 a.time, .int .i64 a.zone, .string c.who, .int .i64 c.time, .int .i64 c.zone, .string m] 26) = W at *
    go_loopw [12] (fun i wr => ∃ (k : Nat), k ≤ n ∧ i = .int .i64 k ∧ ((ps.take k).all fun p => idB p.data.toList) = true ∧ Below W.heap.size W wr) (fun i _ => n - (intOf i).toNat)
    case atStart => exact ⟨0, Nat.zero_le _, rfl, rfl, Below.refl _ _⟩
    case round =>
      obtain ⟨k, hk, rfl, hall, hb⟩ := hrel
      have HB := hidM hb
      have HALL := hidM hall
      clear hb hall
      by_cases hlt : k < n
      · have kk : (k : Int) < (n : Int) := by omega
        have hkl : k < ps.length := by rw [HN.out]; exact hlt
        obtain ⟨g, rfl, hg, hat⟩ := HST.out (by intro e; rw [e] at hkl; simp at hkl)
        have ck : wr.cell? ⟨g, k, none⟩ = some (.string ps[k]) := by
          have h1 := hat k hkl
          have h2 : W.cell? ⟨g, k, none⟩ = some (.string ps[k]) := (HB0.out.cell (p := ⟨g, k, none⟩) hg).trans h1
          exact (HB.out.cell (p := ⟨g, k, none⟩) (World.block_lt_of_cell? W _ h2)).trans h2
        have HIK := hidM (HID.out ps[k] (List.getElem_mem hkl))
        have HTK : Hid (((ps.take (k + 1)).all fun p => idB p.data.toList) = idB ps[k].data.toList) := by
          unfold Hid
          rw [List.take_succ_eq_append_getElem hkl, List.all_append, HALL.out]
          simp
        have HAL : Hid (idB ps[k].data.toList = false → (ps.all fun p => idB p.data.toList) = false) := fun h => by
          rw [List.all_eq_false]
          exact ⟨ps[k], List.getElem_mem hkl, by rw [h]; simp⟩
        obtain ⟨P, hP⟩ : ∃ P, P = ps[k] := ⟨_, rfl⟩
        rw [← hP] at ck HIK HTK HAL
        clear hat hP
        cases hid : idB P.data.toList with
        | true =>
          rw [hid] at HIK HTK
          go_wp2_with fail
          refine (HIK.out _).mono ?_
          rintro _ w3 ⟨rfl, hw3⟩
          rw [hw3]
          clear hw3
          go_wp2
          go_roundw
          case rel => exact ⟨k + 1, by omega, by go_num, HTK.out, HB.out⟩
          case measure => (show n - ((k : Int) + 1).toNat < n - ((k : Int)).toNat); omega
        | false =>
          rw [hid] at HIK
          have HR := hidM (HRP.out (HAL.out hid))
          go_wp2_with fail
          refine (HIK.out _).mono ?_
          rintro _ w3 ⟨rfl, hw3⟩
          rw [hw3]
          clear hw3
          go_wp2
          go_ret
          exact ⟨by rw [HR.out]; rfl, HB0.out.trans (HB.out.mono HB0.out.size)⟩
      · have hkn : k = n := by omega
        have HR := hidM (HRR.out (by have := HALL.out; rw [List.take_of_length_le (by rw [HN.out]; omega)] at this; exact this))
        have kk : ¬ (k : Int) < (n : Int) := by omega
        have HBX := hidM (HB0.out.trans (HB.out.mono HB0.out.size))
        have HCW : Hid (∀ V, Below W.heap.size W V → CBox V w.heap.size t (.slice pa n pc) a c m) := fun V hV => CBox.below (show CBox W w.heap.size t (.slice pa n pc) a c m from HC0.out) hV
        have c0 := (HCW.out _ HB.out).cell 0 (v := .string t) rfl
        have a2 := (HCW.out _ HB.out).cell 2 (v := .string a.who) rfl
        have a3 := (HCW.out _ HB.out).cell 3 (v := .int .i64 a.time) rfl
        have a4 := (HCW.out _ HB.out).cell 4 (v := .int .i64 a.zone) rfl
        cases h1 : idB t.data.toList with
        | false =>
          rw [h1] at HIT HR
          go_wp2_with fail
          refine (HIT.out _).mono ?_
          rintro _ w3 ⟨rfl, hw3⟩
          rw [hw3]
          clear hw3
          go_wp2
          go_ret
          exact ⟨by rw [HR.out]; rfl, HBX.out⟩
        | true =>
          cases h2 : signedG (sgOf a) with
          | false =>
            rw [h1] at HIT
            rw [h1, h2] at HR
            rw [h2] at HSA
            go_wp2_with fail
            refine (HIT.out _).mono ?_
            rintro _ w3 ⟨rfl, hw3⟩
            rw [hw3]
            clear hw3
            go_wp2_with fail
            refine (HSA.out _).mono ?_
            rintro _ w4 ⟨rfl, hb4⟩
            have HB4 := hidM (HBX.out.trans (hb4.mono HBX.out.size))
            clear hb4
            go_wp2
            go_ret
            exact ⟨by rw [HR.out]; rfl, HB4.out⟩
          | true =>
            rw [h1] at HIT
            rw [h1, h2] at HR
            rw [h2] at HSA
            have HR2 : Hid (checkE t ps a c = if signedG (sgOf c) then 0 else 4) := by unfold Hid; rw [HR.out]; cases signedG (sgOf c) <;> rfl
            clear HR
            generalize signedG (sgOf c) = sc at *
            go_wp2_with fail
            refine (HIT.out _).mono ?_
            rintro _ w3 ⟨rfl, hw3⟩
            rw [hw3]
            clear hw3
            go_wp2_with fail
            refine (HSA.out _).mono ?_
            rintro _ w4 ⟨rfl, hb4⟩
            have HB4 := hidM (HBX.out.trans (hb4.mono HBX.out.size))
            have hbw := HB.out.trans (hb4.mono HB.out.size)
            have b5 := (HCW.out _ hbw).cell 5 (v := .string c.who) rfl
            have b6 := (HCW.out _ hbw).cell 6 (v := .int .i64 c.time) rfl
            have b7 := (HCW.out _ hbw).cell 7 (v := .int .i64 c.zone) rfl
            clear hb4 hbw
            go_wp2_with fail
            refine (HSC.out _).mono ?_
            rintro _ w5 ⟨rfl, hb5⟩
            have HB5 := hidM (HB4.out.trans (hb5.mono HB4.out.size))
            clear hb5
            cases sc with
            | true =>
              have HR3 : Hid (checkE t ps a c = 0) := HR2.out
              clear HR2 HRR HRP
              go_wp2
              go_ret
              exact ⟨by rw [HR3.out]; rfl, HB5.out⟩
            | false =>
              have HR3 : Hid (checkE t ps a c = 4) := HR2.out
              clear HR2 HRR HRP
              go_wp2
              go_ret
              exact ⟨by rw [HR3.out]; rfl, HB5.out⟩
end Go.Proofs.YtbghailohnppmaaDoor
namespace Go.Proofs.YtbghailohnppmaaDoor
open Go.RowKit

/-- the argument's box, while the text grows -/
structure TxX (w : World) (g : Nat) (t : ByteArray) (pv : Value) (a c : Sb) (m : ByteArray) (V : World) : Prop where
  bel : Below w.heap.size w V
  box : CBox V g t pv a c m
  gt : GT V
theorem TxX.next {w V w' : World} {g : Nat} {t : ByteArray} {pv : Value} {a c : Sb} {m : ByteArray} (H : TxX w g t pv a c m V) (hb : Below V.heap.size V w') : TxX w g t pv a c m w' := ⟨H.bel.trans (hb.mono H.bel.size), H.box.below hb, H.gt.below hb⟩
theorem TxX.drew {w V : World} {g : Nat} {t : ByteArray} {pv : Value} {a c : Sb} {m : ByteArray} (H : Hid (TxX w g t pv a c m V)) : Hid (TxX w g t pv a c m V.drew) := H.out.next ((Below.refl _ V).trans ⟨rfl, rfl, rfl, Nat.le_refl _, fun _ _ => rfl⟩)
theorem TxX.drewN {w V : World} {g : Nat} {t : ByteArray} {pv : Value} {a c : Sb} {m : ByteArray} {n : Nat} (H : Hid (TxX w g t pv a c m V)) : Hid (TxX w g t pv a c m (V.drewN n)) := H.out.next (below_drewN (Below.refl _ _) n)
theorem TxX.full {w V : World} {g : Nat} {t : ByteArray} {pv : Value} {awho cwho m : ByteArray} {at_ az ct cz : Int} (H : TxX w g t pv ⟨awho, at_, az⟩ ⟨cwho, ct, cz⟩ m V) :
    V.cell? ⟨g, 2, none⟩ = some (.string awho) ∧ V.cell? ⟨g, 3, none⟩ = some (.int .i64 at_) ∧ V.cell? ⟨g, 4, none⟩ = some (.int .i64 az) ∧ V.cell? ⟨g, 5, none⟩ = some (.string cwho) ∧ V.cell? ⟨g, 6, none⟩ = some (.int .i64 ct) ∧ V.cell? ⟨g, 7, none⟩ = some (.int .i64 cz) ∧ V.cell? ⟨g, 8, none⟩ = some (.string m) ∧ Hid (TxX w g t pv ⟨awho, at_, az⟩ ⟨cwho, ct, cz⟩ m V) := by
  obtain ⟨_,_, k2, k3, k4, k5, k6, k7, k8⟩ := H.box.nine
  exact ⟨k2, k3, k4, k5, k6, k7, k8, H⟩
theorem TxX.call {w V : World} {f g : Nat} {t : ByteArray} {pv : Value} {awho cwho m : ByteArray} {at_ az ct cz : Int} {args : Array Value} {v : Value} (h : Calls Tryd.prog f args V fun x w' => x = .returned v ∧ Below V.heap.size V w') (H : Hid (TxX w g t pv ⟨awho, at_, az⟩ ⟨cwho, ct, cz⟩ m V)) :
    Calls Tryd.prog f args V fun x w' => x = .returned v ∧ (w'.cell? ⟨g, 2, none⟩ = some (.string awho) ∧ w'.cell? ⟨g, 3, none⟩ = some (.int .i64 at_) ∧ w'.cell? ⟨g, 4, none⟩ = some (.int .i64 az) ∧ w'.cell? ⟨g, 5, none⟩ = some (.string cwho) ∧ w'.cell? ⟨g, 6, none⟩ = some (.int .i64 ct) ∧ w'.cell? ⟨g, 7, none⟩ = some (.int .i64 cz) ∧ w'.cell? ⟨g, 8, none⟩ = some (.string m) ∧ Hid (TxX w g t pv ⟨awho, at_, az⟩ ⟨cwho, ct, cz⟩ m w')) :=
  h.mono fun _ _ ⟨hx, hb⟩ => ⟨hx, (H.out.next hb).full⟩
/-- the text ahead of the k-th parent -/
def headB (t : ByteArray) (ps : List ByteArray) : ByteArray := baL (wTree ++ t.data.toList ++ 10 :: parsT (ps.map fun p => p.data.toList))
theorem headB_nil (t : ByteArray) : (⟨#[116, 114, 101, 101, 32]⟩ : ByteArray) ++ t ++ (⟨#[10]⟩ : ByteArray) = headB t [] := by
  apply bytes_ext
  simp [headB, baL, wTree, parsT, ByteArray.data_append]
theorem headB_more (t : ByteArray) (ps : List ByteArray) (p : ByteArray) : headB t ps ++ ((⟨#[112, 97, 114, 101, 110, 116, 32]⟩ : ByteArray) ++ p ++ (⟨#[10]⟩ : ByteArray)) = headB t (ps ++ [p]) := by
  apply bytes_ext
  simp [headB, baL, wParent, parsT, ByteArray.data_append]
theorem headB_text (t : ByteArray) (ps : List ByteArray) (a c : Sb) (m : ByteArray) : headB t ps ++ (⟨#[97, 117, 116, 104, 111, 114, 32]⟩ : ByteArray) ++ sgB a ++ (⟨#[10]⟩ : ByteArray) ++ (⟨#[99, 111, 109, 109, 105, 116, 116, 101, 114, 32]⟩ : ByteArray) ++ sgB c ++ (⟨#[10, 10]⟩ : ByteArray) ++ m = textB t ps a c m := by
  apply bytes_ext
  simp [headB, textB, textL, cmOf, baL, wAuthor, wCommitter, sgB, ByteArray.data_append]
theorem headB_size {t : ByteArray} {ps : List ByteArray} (ht : t.size = 40) (hp : ∀ p ∈ ps, p.size = 40) (hn : ps.length ≤ 16) : (headB t ps).size ≤ 814 := by
  have s4 := pars_len (l := ps.map fun p => p.data.toList) (by
    intro p h
    obtain ⟨q, hq, rfl⟩ := List.mem_map.1 h
    rw [sl_len, hp q hq]) (by simpa using hn)
  unfold headB
  rw [baL_size]
  simp only [List.length_append, List.length_cons]
  rw [sl_len, ht, show wTree.length = 5 from rfl]
  omega
set_option maxHeartbeats 2000000 in
set_option maxRecDepth 100000 in
theorem rtext_any (t : ByteArray) (pv : Value) (ps : List ByteArray) (a c : Sb) (m : ByteArray) (w : World) (hG : GT w) (hp : StrsV w pv ps) (hck : checkE t ps a c = 0) (hm : m.size ≤ 140737488355328) :
    Calls Tryd.prog 18 #[.agg (c26 t pv a c m)] w fun e w' => e = .returned (.string (textB t ps a c m)) ∧ Below w.heap.size w w' := by
  obtain ⟨h16, hids, hidt, hsa, hsc⟩ := check_zero hck
  have hps : ∀ p ∈ ps, p.size = 40 := fun p h => id_size (hids p h)
  have ht := id_size hidt
  obtain ⟨f1, -, f3, f4, f5, f6⟩ := signed_facts hsa
  obtain ⟨e1, -, e3, e4, e5, e6⟩ := signed_facts hsc
  have sza := sgB_size a hsa
  have szc := sgB_size c hsc
  have HSA := hidM (fun V hV => rsign_any a V hV (by omega) (by omega) (by omega) (by omega))
  have HSC := hidM (fun V hV => rsign_any c V hV (by omega) (by omega) (by omega) (by omega))
  have HFIN := hidM (headB_text t ps a c m)
  have HSZ := hidM (fun k => headB_size (ps := ps.take k) ht (fun p h => hps p (List.mem_of_mem_take h)) (by simp; omega))
  obtain ⟨pa, pc, rfl, hst⟩ := hp
  obtain ⟨n, hn⟩ : ∃ n, ps.length = n := ⟨_, rfl⟩
  have HX0 : Hid (TxX w w.heap.size t (.slice pa n pc) a c m (w.alloc (.cells (c26 t (.slice pa n pc) a c m) 26))) := ⟨(Below.refl _ w).alloc (Nat.le_refl _) _, heap_alloc_new w _, hG.below ((Below.refl _ w).alloc (Nat.le_refl _) _)⟩
  rw [hn]
  have HST := hidM hst
  have HN := hidM hn
  have HPS := hidM hps
  obtain ⟨A, hA⟩ : ∃ A, sgB a = A := ⟨_, rfl⟩
  obtain ⟨C, hC⟩ : ∃ C, sgB c = C := ⟨_, rfl⟩
  rw [hA] at HSA HFIN sza
  rw [hC] at HSC HFIN szc
  generalize textB t ps a c m = T at *
  obtain ⟨X0, hX0⟩ : ∃ X, (⟨#[116, 114, 101, 101, 32]⟩ : ByteArray) ++ t = X := ⟨_, rfl⟩
  have hH0 : X0 ++ (⟨#[10]⟩ : ByteArray) = headB t [] := by rw [← hX0]; exact headB_nil t
  have x0 : X0.size = 45 := by rw [← hX0, ByteArray.size_append, ht]; rfl
  have n0 : ¬ 9223372036854775807 < X0.size + 1 := by omega
  have nt : ¬ 9223372036854775807 < 5 + t.size := by omega
  clear hst hn hps hA hC hsa hsc hids hidt hck f1 f3 f4 f5 f6 e1 e3 e4 e5 e6 hG
  obtain ⟨awho, at_, az⟩ := a
  obtain ⟨cwho, ct, cz⟩ := c
  have HSA2 : Hid (∀ V, Hid (TxX w w.heap.size t (.slice pa n pc) ⟨awho, at_, az⟩ ⟨cwho, ct, cz⟩ m V) → _) := fun V hV => TxX.call (HSA.out V hV.out.gt) hV
  have HSC2 : Hid (∀ V, Hid (TxX w w.heap.size t (.slice pa n pc) ⟨awho, at_, az⟩ ⟨cwho, ct, cz⟩ m V) → _) := fun V hV => TxX.call (HSC.out V hV.out.gt) hV
  unfold sbV at HSA2 HSC2
  simp only [c26] at HX0 HSA2 HSC2 ⊢
  clear HSA HSC
  go_enter Tryd.func18, Tryd.ntmps18
  go_wp2
  generalize w.alloc (.cells #[.string t, .slice pa n pc, .string awho, .int .i64 at_, .int .i64 az, .string cwho, .int .i64 ct, .int .i64 cz, .string m] 26) = W at *
  obtain ⟨g, hg⟩ : ∃ X, w.heap.size = X := ⟨_, rfl⟩
  rw [hg] at HX0 HSA2 HSC2 ⊢
  go_loopw [3, 13] (fun s i wr => ∃ (k : Nat), k ≤ n ∧ s = .string (headB t (ps.take k)) ∧ i = .int .i64 k ∧ wr = W) (fun _ i _ => n - (intOf i).toNat)
  case atStart => exact ⟨0, Nat.zero_le _, by simp, rfl, rfl⟩
  case round =>
    obtain ⟨k, hk, rfl, rfl, rfl⟩ := hrel
    have sk := HSZ.out k
    by_cases hlt : k < n
    · have kk : (k : Int) < (n : Int) := by omega
      have hkl : k < ps.length := by rw [HN.out]; exact hlt
      obtain ⟨gp, rfl, hgp, hat⟩ := HST.out (by intro e; rw [e] at hkl; simp at hkl)
      have ck : wr.cell? ⟨gp, k, none⟩ = some (.string ps[k]) := (HX0.out.bel.cell (p := ⟨gp, k, none⟩) hgp).trans (hat k hkl)
      have hpk := HPS.out ps[k] (List.getElem_mem hkl)
      have hmore := headB_more t (ps.take k) ps[k]
      have htk : ps.take k ++ [ps[k]] = ps.take (k + 1) := by rw [List.take_succ_eq_append_getElem hkl]
      rw [htk] at hmore
      clear htk hat
      generalize ps[k] = P at *
      generalize headB t (ps.take k) = S at *
      obtain ⟨Y1, hY1⟩ : ∃ Y, (⟨#[112, 97, 114, 101, 110, 116, 32]⟩ : ByteArray) ++ P = Y := ⟨_, rfl⟩
      have y1 : Y1.size = 47 := by rw [← hY1, ByteArray.size_append, hpk]; rfl
      obtain ⟨Y2, hY2⟩ : ∃ Y, Y1 ++ (⟨#[10]⟩ : ByteArray) = Y := ⟨_, rfl⟩
      have y2 : Y2.size = 48 := by rw [← hY2, ByteArray.size_append, y1]; rfl
      rw [hY1, hY2] at hmore
      obtain ⟨S2, hS2⟩ : ∃ S2, headB t (ps.take (k + 1)) = S2 := ⟨_, rfl⟩
      have HS2 := hidM hS2
      rw [hS2] at hmore
      have m0 : ¬ 9223372036854775807 < 7 + P.size := by omega
      have m1 : ¬ 9223372036854775807 < Y1.size + 1 := by omega
      have m2 : ¬ 9223372036854775807 < S.size + Y2.size := by omega
      clear hS2 hpk y1 y2 sk
      go_wp2
      go_roundw
      case rel => exact ⟨k + 1, by omega, by rw [HS2.out], by go_num, trivial⟩
      case measure => (show n - ((k : Int) + 1).toNat < n - ((k : Int)).toNat; omega)
    · have hkn : k = n := by omega
      have kk : ¬ (k : Int) < (n : Int) := by omega
      rw [List.take_of_length_le (by rw [HN.out]; omega)] at sk ⊢
      generalize headB t ps = S at *
      clear hkn hk
      obtain ⟨Q1, hQ1⟩ : ∃ Q, S ++ (⟨#[97, 117, 116, 104, 111, 114, 32]⟩ : ByteArray) = Q := ⟨_, rfl⟩
      have q1 : Q1.size ≤ 821 := by rw [← hQ1, ByteArray.size_append]; show S.size + 7 ≤ _; omega
      obtain ⟨Q2, hQ2⟩ : ∃ Q, Q1 ++ A = Q := ⟨_, rfl⟩
      have q2 : Q2.size ≤ 951 := by rw [← hQ2, ByteArray.size_append]; omega
      obtain ⟨Q3, hQ3⟩ : ∃ Q, Q2 ++ (⟨#[10]⟩ : ByteArray) = Q := ⟨_, rfl⟩
      have q3 : Q3.size ≤ 952 := by rw [← hQ3, ByteArray.size_append]; show Q2.size + 1 ≤ _; omega
      obtain ⟨Q4, hQ4⟩ : ∃ Q, Q3 ++ (⟨#[99, 111, 109, 109, 105, 116, 116, 101, 114, 32]⟩ : ByteArray) = Q := ⟨_, rfl⟩
      have q4 : Q4.size ≤ 962 := by rw [← hQ4, ByteArray.size_append]; show Q3.size + 10 ≤ _; omega
      obtain ⟨Q5, hQ5⟩ : ∃ Q, Q4 ++ C = Q := ⟨_, rfl⟩
      have q5 : Q5.size ≤ 1092 := by rw [← hQ5, ByteArray.size_append]; omega
      obtain ⟨Q6, hQ6⟩ : ∃ Q, Q5 ++ (⟨#[10, 10]⟩ : ByteArray) = Q := ⟨_, rfl⟩
      have q6 : Q6.size ≤ 1094 := by rw [← hQ6, ByteArray.size_append]; show Q5.size + 2 ≤ _; omega
      have hQ7 : Q6 ++ m = T := by rw [← HFIN.out, ← hQ6, ← hQ5, ← hQ4, ← hQ3, ← hQ2, ← hQ1]
      have n1 : ¬ 9223372036854775807 < S.size + 7 := by omega
      have n2 : ¬ 9223372036854775807 < Q1.size + A.size := by omega
      have n3 : ¬ 9223372036854775807 < Q2.size + 1 := by omega
      have n4 : ¬ 9223372036854775807 < Q3.size + 10 := by omega
      have n5 : ¬ 9223372036854775807 < Q4.size + C.size := by omega
      have n6 : ¬ 9223372036854775807 < Q5.size + 2 := by omega
      have n7 : ¬ 9223372036854775807 < Q6.size + m.size := by omega
      clear q1 q2 q3 q4 q5 q6 sk HFIN HSZ HST HPS sza szc hm x0 ht
      have HX1 : Hid (TxX w g t (.slice pa n pc) ⟨awho, at_, az⟩ ⟨cwho, ct, cz⟩ m wr) := HX0.out
      clear HX0
      obtain ⟨k2, k3, k4, k5, k6, k7, k8, _⟩ := TxX.full HX1.out
      go_upto_region 7 with fail
      go_region_held3 (fun w' => w'.cell? ⟨g, 2, none⟩ = some (.string awho) ∧ w'.cell? ⟨g, 3, none⟩ = some (.int .i64 at_) ∧ w'.cell? ⟨g, 4, none⟩ = some (.int .i64 az) ∧ w'.cell? ⟨g, 5, none⟩ = some (.string cwho) ∧ w'.cell? ⟨g, 6, none⟩ = some (.int .i64 ct) ∧ w'.cell? ⟨g, 7, none⟩ = some (.int .i64 cz) ∧ w'.cell? ⟨g, 8, none⟩ = some (.string m) ∧ Hid (TxX w g t (.slice pa n pc) ⟨awho, at_, az⟩ ⟨cwho, ct, cz⟩ m w'))
        (first | exact hS2 | exact hS1 | exact TxX.full (Hid.out (by repeat (first | exact hS2.2.2.2.2.2.2.2 | exact hS1.2.2.2.2.2.2.2 | exact HX1 | apply TxX.drew | apply TxX.drewN))))
        (first | (go_at_call 27; first | (with_reducible refine (HSA2.out _ (by repeat (first | exact hS2.2.2.2.2.2.2.2 | exact hS1.2.2.2.2.2.2.2 | exact HX1 | apply TxX.drew | apply TxX.drewN))).mono ?_; rintro _ v1 ⟨rfl, hS1⟩) | (with_reducible refine (HSC2.out _ (by repeat (first | exact hS2.2.2.2.2.2.2.2 | exact hS1.2.2.2.2.2.2.2 | exact HX1 | apply TxX.drew | apply TxX.drewN))).mono ?_; rintro _ v2 ⟨rfl, hS2⟩)))
      all_goals
        have HS9 := hidM hS2.2.2.2.2.2.2.2.out
        go_wp2
        go_ret
        exact ⟨rfl, HS9.out.bel⟩
end Go.Proofs.YtbghailohnppmaaDoor
namespace Go.Proofs.YtbghailohnppmaaDoor
open Go.RowKit

noncomputable def sameC (t1 : ByteArray) (l1 : List ByteArray) (a1 c1 : Sb) (m1 t2 : ByteArray) (l2 : List ByteArray) (a2 c2 : Sb) (m2 : ByteArray) : Bool :=
  t1.toList == t2.toList && (sameB l1 l2 && (sbEq a1 a2 && (sbEq c1 c2 && m1.toList == m2.toList)))
theorem sameC_iff {t1 : ByteArray} {l1 : List ByteArray} {a1 c1 : Sb} {m1 t2 : ByteArray} {l2 : List ByteArray} {a2 c2 : Sb} {m2 : ByteArray} :
    sameC t1 l1 a1 c1 m1 t2 l2 a2 c2 m2 = true ↔ t1 = t2 ∧ l1 = l2 ∧ a1 = a2 ∧ c1 = c2 ∧ m1 = m2 := by
  unfold sameC
  simp only [sameB, bytesEq, Bool.and_eq_true, decide_eq_true_eq, sbEq_iff]
theorem StrsV.sl {w : World} {v : Value} {l : List ByteArray} (h : StrsV w v l) : ∃ a n c, v = .slice a n c := by
  obtain ⟨a, c, h, _⟩ := h
  exact ⟨a, _, c, h⟩
set_option maxHeartbeats 2000000 in
set_option maxRecDepth 100000 in
theorem same16_any (t1 : ByteArray) (v1 : Value) (l1 : List ByteArray) (a1 c1 : Sb) (m1 t2 : ByteArray) (v2 : Value) (l2 : List ByteArray) (a2 c2 : Sb) (m2 : ByteArray) (w : World) (h1 : StrsV w v1 l1) (h2 : StrsV w v2 l2) (hl : l1.length ≤ 1000000) :
    Calls Tryd.prog 16 #[.agg (c26 t1 v1 a1 c1 m1), .agg (c26 t2 v2 a2 c2 m2)] w fun e w' => e = .returned (.bool (sameC t1 l1 a1 c1 m1 t2 l2 a2 c2 m2)) ∧ Below w.heap.size w w' := by
  have HSM := hidM (fun V (hV : Below w.heap.size w V) => same_any v1 v2 l1 l2 V (h1.below hV) (h2.below hV) hl)
  have hga := fun V => equal24 a1 a2 V
  have hgc := fun V => equal24 c1 c2 V
  have hgd := guard24
  have HR : Hid (sameC t1 l1 a1 c1 m1 t2 l2 a2 c2 m2 = (t1.toList == t2.toList && (sameB l1 l2 && (sbEq a1 a2 && (sbEq c1 c2 && m1.toList == m2.toList))))) := rfl
  generalize sameC t1 l1 a1 c1 m1 t2 l2 a2 c2 m2 = R at *
  generalize sbEq a1 a2 = ba at *
  generalize sbEq c1 c2 = bc at *
  obtain ⟨x1, y1, z1, rfl⟩ := h1.sl
  obtain ⟨x2, y2, z2, rfl⟩ := h2.sl
  generalize sameB l1 l2 = bl at *
  obtain ⟨bt, hbt⟩ : ∃ b, (t1.toList == t2.toList) = b := ⟨_, rfl⟩
  obtain ⟨bm, hbm⟩ : ∃ b, (m1.toList == m2.toList) = b := ⟨_, rfl⟩
  rw [hbt, hbm] at HR
  have hb1 : Below w.heap.size w (w.alloc (.cells (c26 t1 (.slice x1 y1 z1) a1 c1 m1) 26)) := (Below.refl _ w).alloc (Nat.le_refl _) _
  have hc1 : CBox (w.alloc (.cells (c26 t1 (.slice x1 y1 z1) a1 c1 m1) 26)) w.heap.size t1 (.slice x1 y1 z1) a1 c1 m1 := heap_alloc_new w _
  have hs1 : (w.alloc (.cells (c26 t1 (.slice x1 y1 z1) a1 c1 m1) 26)).heap.size = w.heap.size + 1 := World.size_alloc _ _
  have HB : Hid (Below w.heap.size w ((w.alloc (.cells (c26 t1 (.slice x1 y1 z1) a1 c1 m1) 26)).alloc (.cells (c26 t2 (.slice x2 y2 z2) a2 c2 m2) 26))) := hb1.alloc (by omega) _
  have HC1 : Hid (CBox ((w.alloc (.cells (c26 t1 (.slice x1 y1 z1) a1 c1 m1) 26)).alloc (.cells (c26 t2 (.slice x2 y2 z2) a2 c2 m2) 26)) w.heap.size t1 (.slice x1 y1 z1) a1 c1 m1) := heap_alloc2_old w _ _
  have HC2 : Hid (CBox ((w.alloc (.cells (c26 t1 (.slice x1 y1 z1) a1 c1 m1) 26)).alloc (.cells (c26 t2 (.slice x2 y2 z2) a2 c2 m2) 26)) (w.heap.size + 1) t2 (.slice x2 y2 z2) a2 c2 m2) := heap_alloc2_new w _ _
  clear hb1 hc1 hs1 h1 h2 hl
  obtain ⟨aw1, at1, az1⟩ := a1
  obtain ⟨cw1, ct1, cz1⟩ := c1
  obtain ⟨aw2, at2, az2⟩ := a2
  obtain ⟨cw2, ct2, cz2⟩ := c2
  unfold sbV at hga hgc
  simp only [c26] at HB HC1 HC2 HSM hga hgc ⊢
  go_enter Tryd.func16, Tryd.ntmps16
  go_upto_region 1 with fail
  generalize (w.alloc (.cells #[.string t1, .slice x1 y1 z1, .string aw1, .int .i64 at1, .int .i64 az1, .string cw1, .int .i64 ct1, .int .i64 cz1, .string m1] 26)).alloc (.cells #[.string t2, .slice x2 y2 z2, .string aw2, .int .i64 at2, .int .i64 az2, .string cw2, .int .i64 ct2, .int .i64 cz2, .string m2] 26) = W at *
  obtain ⟨g, hg⟩ : ∃ X, w.heap.size = X := ⟨_, rfl⟩
  rw [hg] at HC1 HC2 ⊢
  obtain ⟨p0, p1, _⟩ := HC1.out.nine
  obtain ⟨q0, q1, _⟩ := HC2.out.nine
  cases bt with
  | false =>
    have HR2 : Hid (R = false) := by unfold Hid; rw [HR.out]; rfl
    clear HR
    go_wp2
    go_ret
    exact ⟨by rw [HR2.out]; rfl, HB.out⟩
  | true =>
    cases bl with
    | false =>
      have HR2 : Hid (R = false) := by unfold Hid; rw [HR.out]; rfl
      clear HR
      go_wp2_with fail
      refine (HSM.out _ HB.out).mono ?_
      rintro _ w3 ⟨rfl, hw3⟩
      have HB3 := hidM (HB.out.trans (hw3.mono HB.out.size))
      clear hw3
      go_wp2
      go_ret
      exact ⟨by rw [HR2.out]; rfl, HB3.out⟩
    | true =>
      go_wp2_with fail
      refine (HSM.out _ HB.out).mono ?_
      rintro _ w3 ⟨rfl, hw3⟩
      have HB3 := hidM (HB.out.trans (hw3.mono HB.out.size))
      have HD1 := hidM (HC1.out.below hw3)
      have HD2 := hidM (HC2.out.below hw3)
      clear hw3 p0 p1 q0 q1
      obtain ⟨_,_, p2, p3, p4, p5, p6, p7, p8⟩ := HD1.out.nine
      obtain ⟨_,_, q2, q3, q4, q5, q6, q7, q8⟩ := HD2.out.nine
      cases ba with
      | false =>
        have HR2 : Hid (R = false) := by unfold Hid; rw [HR.out]; rfl
        clear HR
        go_wp2
        go_ret
        exact ⟨by rw [HR2.out]; rfl, HB3.out⟩
      | true =>
        cases bc with
        | false =>
          have HR2 : Hid (R = false) := by unfold Hid; rw [HR.out]; rfl
          clear HR
          go_wp2
          go_ret
          exact ⟨by rw [HR2.out]; rfl, HB3.out⟩
        | true =>
          have HR2 : Hid (R = bm) := by unfold Hid; rw [HR.out]; rfl
          clear HR
          go_wp2
          go_ret
          exact ⟨by rw [HR2.out]; rfl, HB3.out⟩
end Go.Proofs.YtbghailohnppmaaDoor
namespace Go.Proofs.YtbghailohnppmaaDoor
open Go.RowKit

/-- the law's two boxes: the commit, and what few made of it -/
structure FX (w : World) (g h : Nat) (t : ByteArray) (pv qv : Value) (us : List ByteArray) (a c : Sb) (m : ByteArray) (V : World) : Prop where
  bel : Below w.heap.size w V
  cb : CBox V g t pv a c m
  ib : CBox V h t qv a c m
  s : StrsV V qv us
  gt : GT V
theorem FX.next {w V w' : World} {g h : Nat} {t : ByteArray} {pv qv : Value} {us : List ByteArray} {a c : Sb} {m : ByteArray} (H : FX w g h t pv qv us a c m V) (hb : Below V.heap.size V w') : FX w g h t pv qv us a c m w' := ⟨H.bel.trans (hb.mono H.bel.size), H.cb.below hb, H.ib.below hb, H.s.below hb, H.gt.below hb⟩
theorem FX.drew {w V : World} {g h : Nat} {t : ByteArray} {pv qv : Value} {us : List ByteArray} {a c : Sb} {m : ByteArray} (H : Hid (FX w g h t pv qv us a c m V)) : Hid (FX w g h t pv qv us a c m V.drew) := H.out.next ((Below.refl _ V).trans ⟨rfl, rfl, rfl, Nat.le_refl _, fun _ _ => rfl⟩)
theorem FX.drewN {w V : World} {g h : Nat} {t : ByteArray} {pv qv : Value} {us : List ByteArray} {a c : Sb} {m : ByteArray} {n : Nat} (H : Hid (FX w g h t pv qv us a c m V)) : Hid (FX w g h t pv qv us a c m (V.drewN n)) := H.out.next (below_drewN (Below.refl _ _) n)
theorem strs_drew {V : World} {v : Value} {l : List ByteArray} (H : Hid (StrsV V v l)) : Hid (StrsV V.drew v l) := H.out.below ((Below.refl _ V).trans ⟨rfl, rfl, rfl, Nat.le_refl _, fun _ _ => rfl⟩)
theorem strs_drewN {V : World} {v : Value} {l : List ByteArray} {n : Nat} (H : Hid (StrsV V v l)) : Hid (StrsV (V.drewN n) v l) := H.out.below (below_drewN (Below.refl _ _) n)
theorem FX.full {w V : World} {g h : Nat} {t : ByteArray} {pv qv : Value} {us : List ByteArray} {awho cwho m : ByteArray} {at_ az ct cz : Int} (H : FX w g h t pv qv us ⟨awho, at_, az⟩ ⟨cwho, ct, cz⟩ m V) :
    V.cell? ⟨g, 0, none⟩ = some (.string t) ∧ V.cell? ⟨g, 1, none⟩ = some (pv) ∧ V.cell? ⟨g, 2, none⟩ = some (.string awho) ∧ V.cell? ⟨g, 3, none⟩ = some (.int .i64 at_) ∧ V.cell? ⟨g, 4, none⟩ = some (.int .i64 az) ∧ V.cell? ⟨g, 5, none⟩ = some (.string cwho) ∧ V.cell? ⟨g, 6, none⟩ = some (.int .i64 ct) ∧ V.cell? ⟨g, 7, none⟩ = some (.int .i64 cz) ∧ V.cell? ⟨g, 8, none⟩ = some (.string m) ∧ V.cell? ⟨h, 0, none⟩ = some (.string t) ∧ V.cell? ⟨h, 1, none⟩ = some (qv) ∧ V.cell? ⟨h, 2, none⟩ = some (.string awho) ∧ V.cell? ⟨h, 3, none⟩ = some (.int .i64 at_) ∧ V.cell? ⟨h, 4, none⟩ = some (.int .i64 az) ∧ V.cell? ⟨h, 5, none⟩ = some (.string cwho) ∧ V.cell? ⟨h, 6, none⟩ = some (.int .i64 ct) ∧ V.cell? ⟨h, 7, none⟩ = some (.int .i64 cz) ∧ V.cell? ⟨h, 8, none⟩ = some (.string m) ∧ Hid (FX w g h t (pv) (qv) us ⟨awho, at_, az⟩ ⟨cwho, ct, cz⟩ m V) := by
  obtain ⟨k0, k1, k2, k3, k4, k5, k6, k7, k8⟩ := H.cb.nine
  obtain ⟨i0, i1, i2, i3, i4, i5, i6, i7, i8⟩ := H.ib.nine
  exact ⟨k0, k1, k2, k3, k4, k5, k6, k7, k8, i0, i1, i2, i3, i4, i5, i6, i7, i8, H⟩
theorem FX.call {w V : World} {f g h : Nat} {t : ByteArray} {pv qv : Value} {us : List ByteArray} {awho cwho m : ByteArray} {at_ az ct cz : Int} {args : Array Value} {v : Value} (h1 : Calls Tryd.prog f args V fun x w' => x = .returned v ∧ Below V.heap.size V w') (H : Hid (FX w g h t pv qv us ⟨awho, at_, az⟩ ⟨cwho, ct, cz⟩ m V)) :
    Calls Tryd.prog f args V fun x V' => x = .returned v ∧ (V'.cell? ⟨g, 0, none⟩ = some (.string t) ∧ V'.cell? ⟨g, 1, none⟩ = some (pv) ∧ V'.cell? ⟨g, 2, none⟩ = some (.string awho) ∧ V'.cell? ⟨g, 3, none⟩ = some (.int .i64 at_) ∧ V'.cell? ⟨g, 4, none⟩ = some (.int .i64 az) ∧ V'.cell? ⟨g, 5, none⟩ = some (.string cwho) ∧ V'.cell? ⟨g, 6, none⟩ = some (.int .i64 ct) ∧ V'.cell? ⟨g, 7, none⟩ = some (.int .i64 cz) ∧ V'.cell? ⟨g, 8, none⟩ = some (.string m) ∧ V'.cell? ⟨h, 0, none⟩ = some (.string t) ∧ V'.cell? ⟨h, 1, none⟩ = some (qv) ∧ V'.cell? ⟨h, 2, none⟩ = some (.string awho) ∧ V'.cell? ⟨h, 3, none⟩ = some (.int .i64 at_) ∧ V'.cell? ⟨h, 4, none⟩ = some (.int .i64 az) ∧ V'.cell? ⟨h, 5, none⟩ = some (.string cwho) ∧ V'.cell? ⟨h, 6, none⟩ = some (.int .i64 ct) ∧ V'.cell? ⟨h, 7, none⟩ = some (.int .i64 cz) ∧ V'.cell? ⟨h, 8, none⟩ = some (.string m) ∧ Hid (FX w g h t (pv) (qv) us ⟨awho, at_, az⟩ ⟨cwho, ct, cz⟩ m V')) :=
  h1.mono fun _ _ ⟨hx, hb⟩ => ⟨hx, (H.out.next hb).full⟩
theorem FX.quiet {w V : World} {f g h : Nat} {t : ByteArray} {pv qv : Value} {us : List ByteArray} {awho cwho m : ByteArray} {at_ az ct cz : Int} {args : Array Value} {v : Value} (h1 : Calls Tryd.prog f args V fun x w' => x = .returned v ∧ w' = V) (H : Hid (FX w g h t pv qv us ⟨awho, at_, az⟩ ⟨cwho, ct, cz⟩ m V)) :
    Calls Tryd.prog f args V fun x V' => x = .returned v ∧ (V'.cell? ⟨g, 0, none⟩ = some (.string t) ∧ V'.cell? ⟨g, 1, none⟩ = some (pv) ∧ V'.cell? ⟨g, 2, none⟩ = some (.string awho) ∧ V'.cell? ⟨g, 3, none⟩ = some (.int .i64 at_) ∧ V'.cell? ⟨g, 4, none⟩ = some (.int .i64 az) ∧ V'.cell? ⟨g, 5, none⟩ = some (.string cwho) ∧ V'.cell? ⟨g, 6, none⟩ = some (.int .i64 ct) ∧ V'.cell? ⟨g, 7, none⟩ = some (.int .i64 cz) ∧ V'.cell? ⟨g, 8, none⟩ = some (.string m) ∧ V'.cell? ⟨h, 0, none⟩ = some (.string t) ∧ V'.cell? ⟨h, 1, none⟩ = some (qv) ∧ V'.cell? ⟨h, 2, none⟩ = some (.string awho) ∧ V'.cell? ⟨h, 3, none⟩ = some (.int .i64 at_) ∧ V'.cell? ⟨h, 4, none⟩ = some (.int .i64 az) ∧ V'.cell? ⟨h, 5, none⟩ = some (.string cwho) ∧ V'.cell? ⟨h, 6, none⟩ = some (.int .i64 ct) ∧ V'.cell? ⟨h, 7, none⟩ = some (.int .i64 cz) ∧ V'.cell? ⟨h, 8, none⟩ = some (.string m) ∧ Hid (FX w g h t (pv) (qv) us ⟨awho, at_, az⟩ ⟨cwho, ct, cz⟩ m V')) :=
  h1.mono fun _ _ ⟨hx, hb⟩ => ⟨hx, by rw [hb]; exact H.out.full⟩
theorem FX.few {w V : World} {g h : Nat} {t : ByteArray} {pv qv : Value} {us : List ByteArray} {awho cwho m : ByteArray} {at_ az ct cz : Int} {args : Array Value} (h1 : Calls Tryd.prog 9 args V fun e w' => ∃ pv, e = .returned (.agg (c26 t pv ⟨awho, at_, az⟩ ⟨cwho, ct, cz⟩ m)) ∧ OwnS w' V.heap.size pv us ∧ Below V.heap.size V w') (H : Hid (FX w g h t pv qv us ⟨awho, at_, az⟩ ⟨cwho, ct, cz⟩ m V)) :
    Calls Tryd.prog 9 args V fun x V' => ∃ ta tn tc, x = .returned (.agg (c26 t (.slice ta tn tc) ⟨awho, at_, az⟩ ⟨cwho, ct, cz⟩ m)) ∧ (V'.cell? ⟨g, 0, none⟩ = some (.string t) ∧ V'.cell? ⟨g, 1, none⟩ = some (pv) ∧ V'.cell? ⟨g, 2, none⟩ = some (.string awho) ∧ V'.cell? ⟨g, 3, none⟩ = some (.int .i64 at_) ∧ V'.cell? ⟨g, 4, none⟩ = some (.int .i64 az) ∧ V'.cell? ⟨g, 5, none⟩ = some (.string cwho) ∧ V'.cell? ⟨g, 6, none⟩ = some (.int .i64 ct) ∧ V'.cell? ⟨g, 7, none⟩ = some (.int .i64 cz) ∧ V'.cell? ⟨g, 8, none⟩ = some (.string m) ∧ V'.cell? ⟨h, 0, none⟩ = some (.string t) ∧ V'.cell? ⟨h, 1, none⟩ = some (qv) ∧ V'.cell? ⟨h, 2, none⟩ = some (.string awho) ∧ V'.cell? ⟨h, 3, none⟩ = some (.int .i64 at_) ∧ V'.cell? ⟨h, 4, none⟩ = some (.int .i64 az) ∧ V'.cell? ⟨h, 5, none⟩ = some (.string cwho) ∧ V'.cell? ⟨h, 6, none⟩ = some (.int .i64 ct) ∧ V'.cell? ⟨h, 7, none⟩ = some (.int .i64 cz) ∧ V'.cell? ⟨h, 8, none⟩ = some (.string m) ∧ Hid (FX w g h t (pv) (qv) us ⟨awho, at_, az⟩ ⟨cwho, ct, cz⟩ m V')) ∧ Hid (StrsV V' (.slice ta tn tc) us) :=
  h1.mono fun _ _ ⟨pv, hx, ho, hb⟩ => by
    obtain ⟨ta, tn, tc, hpv⟩ := ho.slice
    subst hpv
    exact ⟨ta, tn, tc, hx, (H.out.next hb).full, ho.strs⟩
set_option maxHeartbeats 4000000 in
set_option maxRecDepth 100000 in
theorem formats_any (t : ByteArray) (pv : Value) (l : List ByteArray) (a c : Sb) (m line : ByteArray) (w : World) (hG : GT w) (hp : StrsO w pv l) (ht : t.size ≤ maxLen) (hps : ∀ p ∈ l, p.size ≤ maxLen) (hwa : a.who.size ≤ 9223372036854775807) (hwc : c.who.size ≤ 9223372036854775807) (hm : m.size ≤ 140737488351232) (hli : line.size ≤ 9223372036854775807) :
    Calls Tryd.prog 3 #[.agg (c26 t pv a c m), .string line] w fun e w' => e = .returned (.bool true) ∧ Below w.heap.size w w' := by
  have hus : ∀ p ∈ l.take 40, p.size ≤ maxLen := fun p h => hps p (List.mem_of_mem_take h)
  have h40 : (l.take 40).length ≤ 1000000 := by simp; omega
  have HF := hidM (fun V h => few_any t pv l a c m V h)
  have hsl : ∃ x y z, pv = .slice x y z := by
    rcases hp with ⟨rfl, _⟩ | ⟨ad, cap, rfl, _⟩ | ⟨b, off, cap, rfl, _⟩ <;> exact ⟨_,_,_, rfl⟩
  have HP0 := hidM (fun V hV => strso_below hp (w' := V) hV)
  obtain ⟨us, hue⟩ : ∃ us, l.take 40 = us := ⟨_, rfl⟩
  rw [hue] at HF hus h40
  obtain ⟨px, py, pz, rfl⟩ := hsl
  clear hue hps
  unfold FewPost at HF
  have HAW := hidM (fun V hV => awake_any V hV)
  have HCK := hidM (fun V pv hs => check_any t pv us a c m V hs ht hus)
  have HRC := hidM (fun V pv hs => rcheck_any t pv us a c m V hs hwa hwc)
  have HSA := hidM (fun V p q h1 h2 => same16_any t p us a c m t q us a c m V h1 h2 h40)
  rw [show sameC t us a c m t us a c m = true from sameC_iff.2 ⟨rfl, rfl, rfl, rfl, rfl⟩] at HSA
  have HL1 := hidM (fun V => line_any line V)
  have HL2 := hidM (fun V => rline_any line V hli)
  generalize lineB line.data.toList = lb at *
  have blb : (lb != lb) = false := by simp
  cases hck : checkE t us a c with
  | zero =>
    have HFM := hidM (fun V pv hV hs => format_zero t pv us a c m V hV hs ht hus hm hck)
    have HTX := hidM (fun V pv hV hs => rtext_any t pv us a c m V hV hs hck (by omega))
    have hsz := text_size m hck
    have HPA := hidM (fun V hV => parse_text t us a c m V hV hck (by omega))
    rw [hck] at HCK HRC
    rw [show ((0 : Nat) : Int) = 0 from rfl] at HCK HRC
    clear hck ht hus hsz hm h40 hwa hwc hli
    generalize textB t us a c m = S at *
    have bS : (S.toList == S.toList) = true := by simp
    obtain ⟨awho, at_, az⟩ := a
    obtain ⟨cwho, ct, cz⟩ := c
    have HB0 : Hid (Below w.heap.size w (w.alloc (.cells (c26 t (.slice px py pz) ⟨awho, at_, az⟩ ⟨cwho, ct, cz⟩ m) 26))) := (Below.refl _ w).alloc (Nat.le_refl _) _
    have HC0 : Hid (CBox (w.alloc (.cells (c26 t (.slice px py pz) ⟨awho, at_, az⟩ ⟨cwho, ct, cz⟩ m) 26)) w.heap.size t (.slice px py pz) ⟨awho, at_, az⟩ ⟨cwho, ct, cz⟩ m) := heap_alloc_new w _
    have HG0 := hidM hG
    clear hG hp
    simp only [c26] at HB0 HC0 HF HFM HCK HRC HSA HTX HPA ⊢
    go_enter Tryd.func3, Tryd.ntmps3
    go_upto_region 1 with fail
    generalize w.alloc (.cells #[.string t, .slice px py pz, .string awho, .int .i64 at_, .int .i64 az, .string cwho, .int .i64 ct, .int .i64 cz, .string m] 26) = W0 at *
    obtain ⟨g0, hg0⟩ : ∃ X, w.heap.size = X := ⟨_, rfl⟩
    rw [hg0] at HC0 ⊢
    obtain ⟨k0, k1, k2, k3, k4, k5, k6, k7, k8⟩ := HC0.out.nine
    go_wp2_with fail
    refine (HF.out _ (HP0.out _ HB0.out)).mono ?_
    rintro _ w1 ⟨pa1, rfl, ho1, hb1⟩
    have HO1 := hidM ho1
    obtain ⟨va, vn, vc, hpa⟩ := ho1.slice
    subst hpa
    clear ho1 k0 k1 k2 k3 k4 k5 k6 k7 k8
    have HC1 := hidM (HC0.out.below hb1)
    have HB1 := hidM (HB0.out.trans (hb1.mono HB0.out.size))
    clear hb1 HB0 HC0
    have hb2 : Below w1.heap.size w1 (w1.alloc (.cells #[.string t, .slice va vn vc, .string awho, .int .i64 at_, .int .i64 az, .string cwho, .int .i64 ct, .int .i64 cz, .string m] 26)) := (Below.refl _ w1).alloc (Nat.le_refl _) _
    have HI2 : Hid (CBox (w1.alloc (.cells #[.string t, .slice va vn vc, .string awho, .int .i64 at_, .int .i64 az, .string cwho, .int .i64 ct, .int .i64 cz, .string m] 26)) w1.heap.size t (.slice va vn vc) ⟨awho, at_, az⟩ ⟨cwho, ct, cz⟩ m) := heap_alloc_new w1 _
    have HS1 := hidM HO1.out.strs
    clear HO1
    have HC2 := hidM (HC1.out.below hb2)
    have HS2 := hidM (HS1.out.below hb2)
    have HB2 := hidM (HB1.out.trans (hb2.mono HB1.out.size))
    clear hb2 HB1 HC1 HS1
    go_upto_region 2 with fail
    generalize w1.alloc (.cells #[.string t, .slice va vn vc, .string awho, .int .i64 at_, .int .i64 az, .string cwho, .int .i64 ct, .int .i64 cz, .string m] 26) = w2 at *
    generalize w1.heap.size = g2 at *
    obtain ⟨k0, k1, k2, k3, k4, k5, k6, k7, k8⟩ := HI2.out.nine
    go_wp2_with fail
    refine (HFM.out _ _ (HG0.out.below HB2.out) HS2.out).mono ?_
    rintro _ w3 ⟨rfl, hb3⟩
    clear k0 k1 k2 k3 k4 k5 k6 k7 k8
    have HC3 := hidM (HC2.out.below hb3)
    have HS3 := hidM (HS2.out.below hb3)
    have HI3 := hidM (HI2.out.below hb3)
    have HB3 := hidM (HB2.out.trans (hb3.mono HB2.out.size))
    clear hb3 HB2 HC2 HS2 HI2
    obtain ⟨k0, k1, k2, k3, k4, k5, k6, k7, k8⟩ := HC3.out.nine
    go_wp2_with fail
    refine (HF.out _ (HP0.out _ HB3.out)).mono ?_
    rintro _ w4 ⟨pa4, rfl, ho4, hb4⟩
    have HT4 := hidM ho4.strs
    obtain ⟨ua, un, uc, hpa⟩ := ho4.slice
    subst hpa
    clear ho4 k0 k1 k2 k3 k4 k5 k6 k7 k8
    have HC4 := hidM (HC3.out.below hb4)
    have HS4 := hidM (HS3.out.below hb4)
    have HI4 := hidM (HI3.out.below hb4)
    have HB4 := hidM (HB3.out.trans (hb4.mono HB3.out.size))
    clear hb4 HB3 HC3 HS3 HI3
    go_wp2_with fail
    refine (HRC.out _ _ HT4.out).mono ?_
    rintro _ w5 ⟨rfl, hb5⟩
    clear HT4
    have HC5 := hidM (HC4.out.below hb5)
    have HS5 := hidM (HS4.out.below hb5)
    have HI5 := hidM (HI4.out.below hb5)
    have HB5 := hidM (HB4.out.trans (hb5.mono HB4.out.size))
    clear hb5 HB4 HC4 HS4 HI4
    go_upto_region 4 with fail
    have HX : Hid (FX w g0 g2 t (.slice px py pz) (.slice va vn vc) us ⟨awho, at_, az⟩ ⟨cwho, ct, cz⟩ m w5) := ⟨HB5.out, HC5.out, HI5.out, HS5.out, HG0.out.below HB5.out⟩
    have HAW2 : Hid (∀ V, Hid (FX w g0 g2 t (.slice px py pz) (.slice va vn vc) us ⟨awho, at_, az⟩ ⟨cwho, ct, cz⟩ m V) → _) := fun V hV => FX.call (HAW.out V hV.out.gt) hV
    have HCK2 : Hid (∀ V, Hid (FX w g0 g2 t (.slice px py pz) (.slice va vn vc) us ⟨awho, at_, az⟩ ⟨cwho, ct, cz⟩ m V) → _) := fun V hV => FX.call (HCK.out V _ hV.out.s) hV
    have HL12 : Hid (∀ V, Hid (FX w g0 g2 t (.slice px py pz) (.slice va vn vc) us ⟨awho, at_, az⟩ ⟨cwho, ct, cz⟩ m V) → _) := fun V hV => FX.quiet (HL1.out V) hV
    have HL22 : Hid (∀ V, Hid (FX w g0 g2 t (.slice px py pz) (.slice va vn vc) us ⟨awho, at_, az⟩ ⟨cwho, ct, cz⟩ m V) → _) := fun V hV => FX.quiet (HL2.out V) hV
    have HF2 : Hid (∀ V, Hid (FX w g0 g2 t (.slice px py pz) (.slice va vn vc) us ⟨awho, at_, az⟩ ⟨cwho, ct, cz⟩ m V) → _) := fun V hV => FX.few (HF.out V (HP0.out V hV.out.bel)) hV
    have HSA2 : Hid (∀ V q, Hid (FX w g0 g2 t (.slice px py pz) (.slice va vn vc) us ⟨awho, at_, az⟩ ⟨cwho, ct, cz⟩ m V) → Hid (StrsV V q us) → _) := fun V q hV hq => FX.call (HSA.out V _ q hV.out.s hq.out) hV
    simp only [c26] at HF2
    obtain ⟨k0, k1, k2, k3, k4, k5, k6, k7, k8, i0, i1, i2, i3, i4, i5, i6, i7, i8, _⟩ := FX.full HX.out
    clear HB5 HC5 HI5 HS5
    go_region_held3 (fun V => V.cell? ⟨g0, 0, none⟩ = some (.string t) ∧ V.cell? ⟨g0, 1, none⟩ = some (.slice px py pz) ∧ V.cell? ⟨g0, 2, none⟩ = some (.string awho) ∧ V.cell? ⟨g0, 3, none⟩ = some (.int .i64 at_) ∧ V.cell? ⟨g0, 4, none⟩ = some (.int .i64 az) ∧ V.cell? ⟨g0, 5, none⟩ = some (.string cwho) ∧ V.cell? ⟨g0, 6, none⟩ = some (.int .i64 ct) ∧ V.cell? ⟨g0, 7, none⟩ = some (.int .i64 cz) ∧ V.cell? ⟨g0, 8, none⟩ = some (.string m) ∧ V.cell? ⟨g2, 0, none⟩ = some (.string t) ∧ V.cell? ⟨g2, 1, none⟩ = some (.slice va vn vc) ∧ V.cell? ⟨g2, 2, none⟩ = some (.string awho) ∧ V.cell? ⟨g2, 3, none⟩ = some (.int .i64 at_) ∧ V.cell? ⟨g2, 4, none⟩ = some (.int .i64 az) ∧ V.cell? ⟨g2, 5, none⟩ = some (.string cwho) ∧ V.cell? ⟨g2, 6, none⟩ = some (.int .i64 ct) ∧ V.cell? ⟨g2, 7, none⟩ = some (.int .i64 cz) ∧ V.cell? ⟨g2, 8, none⟩ = some (.string m) ∧ Hid (FX w g0 g2 t (.slice px py pz) (.slice va vn vc) us ⟨awho, at_, az⟩ ⟨cwho, ct, cz⟩ m V))
      (first | exact hS6 | exact hS5 | exact hS4 | exact hS3 | exact hS2 | exact hS1 | exact FX.full (Hid.out (by repeat (first | exact hS6.2.2.2.2.2.2.2.2.2.2.2.2.2.2.2.2.2.2 | exact hS5.2.2.2.2.2.2.2.2.2.2.2.2.2.2.2.2.2.2 | exact hS4.2.2.2.2.2.2.2.2.2.2.2.2.2.2.2.2.2.2 | exact hS3.2.2.2.2.2.2.2.2.2.2.2.2.2.2.2.2.2.2 | exact hS2.2.2.2.2.2.2.2.2.2.2.2.2.2.2.2.2.2.2 | exact hS1.2.2.2.2.2.2.2.2.2.2.2.2.2.2.2.2.2.2 | exact HX | apply FX.drew | apply FX.drewN))))
      (first
        | (go_at_call 12; with_reducible refine (HAW2.out _ (by repeat (first | exact hS6.2.2.2.2.2.2.2.2.2.2.2.2.2.2.2.2.2.2 | exact hS5.2.2.2.2.2.2.2.2.2.2.2.2.2.2.2.2.2.2 | exact hS4.2.2.2.2.2.2.2.2.2.2.2.2.2.2.2.2.2.2 | exact hS3.2.2.2.2.2.2.2.2.2.2.2.2.2.2.2.2.2.2 | exact hS2.2.2.2.2.2.2.2.2.2.2.2.2.2.2.2.2.2.2 | exact hS1.2.2.2.2.2.2.2.2.2.2.2.2.2.2.2.2.2.2 | exact HX | apply FX.drew | apply FX.drewN))).mono ?_; rintro _ v1 ⟨rfl, hS1⟩)
        | (go_at_call 13; with_reducible refine (HCK2.out _ (by repeat (first | exact hS6.2.2.2.2.2.2.2.2.2.2.2.2.2.2.2.2.2.2 | exact hS5.2.2.2.2.2.2.2.2.2.2.2.2.2.2.2.2.2.2 | exact hS4.2.2.2.2.2.2.2.2.2.2.2.2.2.2.2.2.2.2 | exact hS3.2.2.2.2.2.2.2.2.2.2.2.2.2.2.2.2.2.2 | exact hS2.2.2.2.2.2.2.2.2.2.2.2.2.2.2.2.2.2.2 | exact hS1.2.2.2.2.2.2.2.2.2.2.2.2.2.2.2.2.2.2 | exact HX | apply FX.drew | apply FX.drewN))).mono ?_; rintro _ v2 ⟨rfl, hS2⟩)
        | (go_at_call 14; with_reducible refine (HL12.out _ (by repeat (first | exact hS6.2.2.2.2.2.2.2.2.2.2.2.2.2.2.2.2.2.2 | exact hS5.2.2.2.2.2.2.2.2.2.2.2.2.2.2.2.2.2.2 | exact hS4.2.2.2.2.2.2.2.2.2.2.2.2.2.2.2.2.2.2 | exact hS3.2.2.2.2.2.2.2.2.2.2.2.2.2.2.2.2.2.2 | exact hS2.2.2.2.2.2.2.2.2.2.2.2.2.2.2.2.2.2.2 | exact hS1.2.2.2.2.2.2.2.2.2.2.2.2.2.2.2.2.2.2 | exact HX | apply FX.drew | apply FX.drewN))).mono ?_; rintro _ v3 ⟨rfl, hS3⟩)
        | (go_at_call 15; with_reducible refine (HL22.out _ (by repeat (first | exact hS6.2.2.2.2.2.2.2.2.2.2.2.2.2.2.2.2.2.2 | exact hS5.2.2.2.2.2.2.2.2.2.2.2.2.2.2.2.2.2.2 | exact hS4.2.2.2.2.2.2.2.2.2.2.2.2.2.2.2.2.2.2 | exact hS3.2.2.2.2.2.2.2.2.2.2.2.2.2.2.2.2.2.2 | exact hS2.2.2.2.2.2.2.2.2.2.2.2.2.2.2.2.2.2.2 | exact hS1.2.2.2.2.2.2.2.2.2.2.2.2.2.2.2.2.2.2 | exact HX | apply FX.drew | apply FX.drewN))).mono ?_; rintro _ v4 ⟨rfl, hS4⟩)
        | (go_at_call 9; with_reducible refine (HF2.out _ (by repeat (first | exact hS6.2.2.2.2.2.2.2.2.2.2.2.2.2.2.2.2.2.2 | exact hS5.2.2.2.2.2.2.2.2.2.2.2.2.2.2.2.2.2.2 | exact hS4.2.2.2.2.2.2.2.2.2.2.2.2.2.2.2.2.2.2 | exact hS3.2.2.2.2.2.2.2.2.2.2.2.2.2.2.2.2.2.2 | exact hS2.2.2.2.2.2.2.2.2.2.2.2.2.2.2.2.2.2.2 | exact hS1.2.2.2.2.2.2.2.2.2.2.2.2.2.2.2.2.2.2 | exact HX | apply FX.drew | apply FX.drewN))).mono ?_; rintro _ v5 ⟨ta, tn, tc, rfl, hS5, hT5⟩)
        | (go_at_call 16; with_reducible refine (HSA2.out _ _ (by repeat (first | exact hS6.2.2.2.2.2.2.2.2.2.2.2.2.2.2.2.2.2.2 | exact hS5.2.2.2.2.2.2.2.2.2.2.2.2.2.2.2.2.2.2 | exact hS4.2.2.2.2.2.2.2.2.2.2.2.2.2.2.2.2.2.2 | exact hS3.2.2.2.2.2.2.2.2.2.2.2.2.2.2.2.2.2.2 | exact hS2.2.2.2.2.2.2.2.2.2.2.2.2.2.2.2.2.2.2 | exact hS1.2.2.2.2.2.2.2.2.2.2.2.2.2.2.2.2.2.2 | exact HX | apply FX.drew | apply FX.drewN)) (by repeat (first | exact hT5 | apply strs_drew | apply strs_drewN))).mono ?_; rintro _ v6 ⟨rfl, hS6⟩))
    all_goals
      have HX6 := hidM hS6.2.2.2.2.2.2.2.2.2.2.2.2.2.2.2.2.2.2.out
      clear hS6 hS5 hS4 hS3 hS2 hS1 hT5 HX k0 k1 k2 k3 k4 k5 k6 k7 k8 i0 i1 i2 i3 i4 i5 i6 i7 i8
      go_wp2_with fail
      refine (HPA.out _ HX6.out.gt).mono ?_
      rintro _ w11 ⟨⟨pb, rfl, ho11⟩, hb11⟩
      have HU11 := hidM ho11.strs
      obtain ⟨xa, xn, xc, hpb⟩ := ho11.slice
      subst hpb
      have HX11 := hidM (HX6.out.next hb11)
      clear ho11 hb11 HX6
      have hb12 : Below w11.heap.size w11 (w11.alloc (.cells #[.string t, .slice xa xn xc, .string awho, .int .i64 at_, .int .i64 az, .string cwho, .int .i64 ct, .int .i64 cz, .string m] 26)) := (Below.refl _ w11).alloc (Nat.le_refl _) _
      have HJ12 : Hid (CBox (w11.alloc (.cells #[.string t, .slice xa xn xc, .string awho, .int .i64 at_, .int .i64 az, .string cwho, .int .i64 ct, .int .i64 cz, .string m] 26)) w11.heap.size t (.slice xa xn xc) ⟨awho, at_, az⟩ ⟨cwho, ct, cz⟩ m) := heap_alloc_new w11 _
      have HU12 := hidM (HU11.out.below hb12)
      have HX12 := hidM (HX11.out.next hb12)
      clear hb12 HU11 HX11
      go_upto_region 9 with fail
      generalize w11.alloc (.cells #[.string t, .slice xa xn xc, .string awho, .int .i64 at_, .int .i64 az, .string cwho, .int .i64 ct, .int .i64 cz, .string m] 26) = w12 at *
      generalize w11.heap.size = g12 at *
      obtain ⟨k0, k1, k2, k3, k4, k5, k6, k7, k8⟩ := HX12.out.ib.nine
      go_wp2_with fail
      refine (HTX.out _ _ HX12.out.gt HX12.out.s).mono ?_
      rintro _ w13 ⟨rfl, hb13⟩
      have HX13 := hidM (HX12.out.next hb13)
      have HU13 := hidM (HU12.out.below hb13)
      have HJ13 := hidM (HJ12.out.below hb13)
      clear hb13 HU12 HX12 HJ12 k0 k1 k2 k3 k4 k5 k6 k7 k8
      obtain ⟨k0, k1, k2, k3, k4, k5, k6, k7, k8⟩ := HX13.out.ib.nine
      obtain ⟨i0, i1, i2, i3, i4, i5, i6, i7, i8⟩ := HJ13.out.nine
      go_wp2_with fail
      refine (HSA.out _ _ _ HU13.out HX13.out.s).mono ?_
      rintro _ w14 ⟨rfl, hb14⟩
      have HX14 := hidM (HX13.out.next hb14)
      clear hb14
      go_wp2
      go_ret
      exact ⟨rfl, HX14.out.bel⟩
  | succ n =>
    have HFM := hidM (fun V pv hV hs => format_bad t pv us a c m V hV hs ht hus hm (n + 1) hck (by omega))
    rw [hck] at HCK HRC
    clear hck ht hus hm h40 hwa hwc hli
    have hn : ((n + 1 : Nat) : Int) ≠ 0 := by omega
    generalize ((n + 1 : Nat) : Int) = E at *
    have b1 : (E != E) = false := by simp
    have b2 : (E != 0) = true := by simpa using hn
    obtain ⟨awho, at_, az⟩ := a
    obtain ⟨cwho, ct, cz⟩ := c
    have HB0 : Hid (Below w.heap.size w (w.alloc (.cells (c26 t (.slice px py pz) ⟨awho, at_, az⟩ ⟨cwho, ct, cz⟩ m) 26))) := (Below.refl _ w).alloc (Nat.le_refl _) _
    have HC0 : Hid (CBox (w.alloc (.cells (c26 t (.slice px py pz) ⟨awho, at_, az⟩ ⟨cwho, ct, cz⟩ m) 26)) w.heap.size t (.slice px py pz) ⟨awho, at_, az⟩ ⟨cwho, ct, cz⟩ m) := heap_alloc_new w _
    have HG0 := hidM hG
    clear hG hp
    simp only [c26] at HB0 HC0 HF HFM HCK HRC HSA  ⊢
    go_enter Tryd.func3, Tryd.ntmps3
    go_upto_region 1 with fail
    generalize w.alloc (.cells #[.string t, .slice px py pz, .string awho, .int .i64 at_, .int .i64 az, .string cwho, .int .i64 ct, .int .i64 cz, .string m] 26) = W0 at *
    obtain ⟨g0, hg0⟩ : ∃ X, w.heap.size = X := ⟨_, rfl⟩
    rw [hg0] at HC0 ⊢
    obtain ⟨k0, k1, k2, k3, k4, k5, k6, k7, k8⟩ := HC0.out.nine
    go_wp2_with fail
    refine (HF.out _ (HP0.out _ HB0.out)).mono ?_
    rintro _ w1 ⟨pa1, rfl, ho1, hb1⟩
    have HO1 := hidM ho1
    obtain ⟨va, vn, vc, hpa⟩ := ho1.slice
    subst hpa
    clear ho1 k0 k1 k2 k3 k4 k5 k6 k7 k8
    have HC1 := hidM (HC0.out.below hb1)
    have HB1 := hidM (HB0.out.trans (hb1.mono HB0.out.size))
    clear hb1 HB0 HC0
    have hb2 : Below w1.heap.size w1 (w1.alloc (.cells #[.string t, .slice va vn vc, .string awho, .int .i64 at_, .int .i64 az, .string cwho, .int .i64 ct, .int .i64 cz, .string m] 26)) := (Below.refl _ w1).alloc (Nat.le_refl _) _
    have HI2 : Hid (CBox (w1.alloc (.cells #[.string t, .slice va vn vc, .string awho, .int .i64 at_, .int .i64 az, .string cwho, .int .i64 ct, .int .i64 cz, .string m] 26)) w1.heap.size t (.slice va vn vc) ⟨awho, at_, az⟩ ⟨cwho, ct, cz⟩ m) := heap_alloc_new w1 _
    have HS1 := hidM HO1.out.strs
    clear HO1
    have HC2 := hidM (HC1.out.below hb2)
    have HS2 := hidM (HS1.out.below hb2)
    have HB2 := hidM (HB1.out.trans (hb2.mono HB1.out.size))
    clear hb2 HB1 HC1 HS1
    go_upto_region 2 with fail
    generalize w1.alloc (.cells #[.string t, .slice va vn vc, .string awho, .int .i64 at_, .int .i64 az, .string cwho, .int .i64 ct, .int .i64 cz, .string m] 26) = w2 at *
    generalize w1.heap.size = g2 at *
    obtain ⟨k0, k1, k2, k3, k4, k5, k6, k7, k8⟩ := HI2.out.nine
    go_wp2_with fail
    refine (HFM.out _ _ (HG0.out.below HB2.out) HS2.out).mono ?_
    rintro _ w3 ⟨rfl, hb3⟩
    clear k0 k1 k2 k3 k4 k5 k6 k7 k8
    have HC3 := hidM (HC2.out.below hb3)
    have HS3 := hidM (HS2.out.below hb3)
    have HI3 := hidM (HI2.out.below hb3)
    have HB3 := hidM (HB2.out.trans (hb3.mono HB2.out.size))
    clear hb3 HB2 HC2 HS2 HI2
    obtain ⟨k0, k1, k2, k3, k4, k5, k6, k7, k8⟩ := HC3.out.nine
    go_wp2_with fail
    refine (HF.out _ (HP0.out _ HB3.out)).mono ?_
    rintro _ w4 ⟨pa4, rfl, ho4, hb4⟩
    have HT4 := hidM ho4.strs
    obtain ⟨ua, un, uc, hpa⟩ := ho4.slice
    subst hpa
    clear ho4 k0 k1 k2 k3 k4 k5 k6 k7 k8
    have HC4 := hidM (HC3.out.below hb4)
    have HS4 := hidM (HS3.out.below hb4)
    have HI4 := hidM (HI3.out.below hb4)
    have HB4 := hidM (HB3.out.trans (hb4.mono HB3.out.size))
    clear hb4 HB3 HC3 HS3 HI3
    go_wp2_with fail
    refine (HRC.out _ _ HT4.out).mono ?_
    rintro _ w5 ⟨rfl, hb5⟩
    clear HT4
    have HC5 := hidM (HC4.out.below hb5)
    have HS5 := hidM (HS4.out.below hb5)
    have HI5 := hidM (HI4.out.below hb5)
    have HB5 := hidM (HB4.out.trans (hb5.mono HB4.out.size))
    clear hb5 HB4 HC4 HS4 HI4
    go_upto_region 4 with fail
    have HX : Hid (FX w g0 g2 t (.slice px py pz) (.slice va vn vc) us ⟨awho, at_, az⟩ ⟨cwho, ct, cz⟩ m w5) := ⟨HB5.out, HC5.out, HI5.out, HS5.out, HG0.out.below HB5.out⟩
    have HAW2 : Hid (∀ V, Hid (FX w g0 g2 t (.slice px py pz) (.slice va vn vc) us ⟨awho, at_, az⟩ ⟨cwho, ct, cz⟩ m V) → _) := fun V hV => FX.call (HAW.out V hV.out.gt) hV
    have HCK2 : Hid (∀ V, Hid (FX w g0 g2 t (.slice px py pz) (.slice va vn vc) us ⟨awho, at_, az⟩ ⟨cwho, ct, cz⟩ m V) → _) := fun V hV => FX.call (HCK.out V _ hV.out.s) hV
    have HL12 : Hid (∀ V, Hid (FX w g0 g2 t (.slice px py pz) (.slice va vn vc) us ⟨awho, at_, az⟩ ⟨cwho, ct, cz⟩ m V) → _) := fun V hV => FX.quiet (HL1.out V) hV
    have HL22 : Hid (∀ V, Hid (FX w g0 g2 t (.slice px py pz) (.slice va vn vc) us ⟨awho, at_, az⟩ ⟨cwho, ct, cz⟩ m V) → _) := fun V hV => FX.quiet (HL2.out V) hV
    have HF2 : Hid (∀ V, Hid (FX w g0 g2 t (.slice px py pz) (.slice va vn vc) us ⟨awho, at_, az⟩ ⟨cwho, ct, cz⟩ m V) → _) := fun V hV => FX.few (HF.out V (HP0.out V hV.out.bel)) hV
    have HSA2 : Hid (∀ V q, Hid (FX w g0 g2 t (.slice px py pz) (.slice va vn vc) us ⟨awho, at_, az⟩ ⟨cwho, ct, cz⟩ m V) → Hid (StrsV V q us) → _) := fun V q hV hq => FX.call (HSA.out V _ q hV.out.s hq.out) hV
    simp only [c26] at HF2
    obtain ⟨k0, k1, k2, k3, k4, k5, k6, k7, k8, i0, i1, i2, i3, i4, i5, i6, i7, i8, _⟩ := FX.full HX.out
    clear HB5 HC5 HI5 HS5
    go_region_held3 (fun V => V.cell? ⟨g0, 0, none⟩ = some (.string t) ∧ V.cell? ⟨g0, 1, none⟩ = some (.slice px py pz) ∧ V.cell? ⟨g0, 2, none⟩ = some (.string awho) ∧ V.cell? ⟨g0, 3, none⟩ = some (.int .i64 at_) ∧ V.cell? ⟨g0, 4, none⟩ = some (.int .i64 az) ∧ V.cell? ⟨g0, 5, none⟩ = some (.string cwho) ∧ V.cell? ⟨g0, 6, none⟩ = some (.int .i64 ct) ∧ V.cell? ⟨g0, 7, none⟩ = some (.int .i64 cz) ∧ V.cell? ⟨g0, 8, none⟩ = some (.string m) ∧ V.cell? ⟨g2, 0, none⟩ = some (.string t) ∧ V.cell? ⟨g2, 1, none⟩ = some (.slice va vn vc) ∧ V.cell? ⟨g2, 2, none⟩ = some (.string awho) ∧ V.cell? ⟨g2, 3, none⟩ = some (.int .i64 at_) ∧ V.cell? ⟨g2, 4, none⟩ = some (.int .i64 az) ∧ V.cell? ⟨g2, 5, none⟩ = some (.string cwho) ∧ V.cell? ⟨g2, 6, none⟩ = some (.int .i64 ct) ∧ V.cell? ⟨g2, 7, none⟩ = some (.int .i64 cz) ∧ V.cell? ⟨g2, 8, none⟩ = some (.string m) ∧ Hid (FX w g0 g2 t (.slice px py pz) (.slice va vn vc) us ⟨awho, at_, az⟩ ⟨cwho, ct, cz⟩ m V))
      (first | exact hS6 | exact hS5 | exact hS4 | exact hS3 | exact hS2 | exact hS1 | exact FX.full (Hid.out (by repeat (first | exact hS6.2.2.2.2.2.2.2.2.2.2.2.2.2.2.2.2.2.2 | exact hS5.2.2.2.2.2.2.2.2.2.2.2.2.2.2.2.2.2.2 | exact hS4.2.2.2.2.2.2.2.2.2.2.2.2.2.2.2.2.2.2 | exact hS3.2.2.2.2.2.2.2.2.2.2.2.2.2.2.2.2.2.2 | exact hS2.2.2.2.2.2.2.2.2.2.2.2.2.2.2.2.2.2.2 | exact hS1.2.2.2.2.2.2.2.2.2.2.2.2.2.2.2.2.2.2 | exact HX | apply FX.drew | apply FX.drewN))))
      (first
        | (go_at_call 12; with_reducible refine (HAW2.out _ (by repeat (first | exact hS6.2.2.2.2.2.2.2.2.2.2.2.2.2.2.2.2.2.2 | exact hS5.2.2.2.2.2.2.2.2.2.2.2.2.2.2.2.2.2.2 | exact hS4.2.2.2.2.2.2.2.2.2.2.2.2.2.2.2.2.2.2 | exact hS3.2.2.2.2.2.2.2.2.2.2.2.2.2.2.2.2.2.2 | exact hS2.2.2.2.2.2.2.2.2.2.2.2.2.2.2.2.2.2.2 | exact hS1.2.2.2.2.2.2.2.2.2.2.2.2.2.2.2.2.2.2 | exact HX | apply FX.drew | apply FX.drewN))).mono ?_; rintro _ v1 ⟨rfl, hS1⟩)
        | (go_at_call 13; with_reducible refine (HCK2.out _ (by repeat (first | exact hS6.2.2.2.2.2.2.2.2.2.2.2.2.2.2.2.2.2.2 | exact hS5.2.2.2.2.2.2.2.2.2.2.2.2.2.2.2.2.2.2 | exact hS4.2.2.2.2.2.2.2.2.2.2.2.2.2.2.2.2.2.2 | exact hS3.2.2.2.2.2.2.2.2.2.2.2.2.2.2.2.2.2.2 | exact hS2.2.2.2.2.2.2.2.2.2.2.2.2.2.2.2.2.2.2 | exact hS1.2.2.2.2.2.2.2.2.2.2.2.2.2.2.2.2.2.2 | exact HX | apply FX.drew | apply FX.drewN))).mono ?_; rintro _ v2 ⟨rfl, hS2⟩)
        | (go_at_call 14; with_reducible refine (HL12.out _ (by repeat (first | exact hS6.2.2.2.2.2.2.2.2.2.2.2.2.2.2.2.2.2.2 | exact hS5.2.2.2.2.2.2.2.2.2.2.2.2.2.2.2.2.2.2 | exact hS4.2.2.2.2.2.2.2.2.2.2.2.2.2.2.2.2.2.2 | exact hS3.2.2.2.2.2.2.2.2.2.2.2.2.2.2.2.2.2.2 | exact hS2.2.2.2.2.2.2.2.2.2.2.2.2.2.2.2.2.2.2 | exact hS1.2.2.2.2.2.2.2.2.2.2.2.2.2.2.2.2.2.2 | exact HX | apply FX.drew | apply FX.drewN))).mono ?_; rintro _ v3 ⟨rfl, hS3⟩)
        | (go_at_call 15; with_reducible refine (HL22.out _ (by repeat (first | exact hS6.2.2.2.2.2.2.2.2.2.2.2.2.2.2.2.2.2.2 | exact hS5.2.2.2.2.2.2.2.2.2.2.2.2.2.2.2.2.2.2 | exact hS4.2.2.2.2.2.2.2.2.2.2.2.2.2.2.2.2.2.2 | exact hS3.2.2.2.2.2.2.2.2.2.2.2.2.2.2.2.2.2.2 | exact hS2.2.2.2.2.2.2.2.2.2.2.2.2.2.2.2.2.2.2 | exact hS1.2.2.2.2.2.2.2.2.2.2.2.2.2.2.2.2.2.2 | exact HX | apply FX.drew | apply FX.drewN))).mono ?_; rintro _ v4 ⟨rfl, hS4⟩)
        | (go_at_call 9; with_reducible refine (HF2.out _ (by repeat (first | exact hS6.2.2.2.2.2.2.2.2.2.2.2.2.2.2.2.2.2.2 | exact hS5.2.2.2.2.2.2.2.2.2.2.2.2.2.2.2.2.2.2 | exact hS4.2.2.2.2.2.2.2.2.2.2.2.2.2.2.2.2.2.2 | exact hS3.2.2.2.2.2.2.2.2.2.2.2.2.2.2.2.2.2.2 | exact hS2.2.2.2.2.2.2.2.2.2.2.2.2.2.2.2.2.2.2 | exact hS1.2.2.2.2.2.2.2.2.2.2.2.2.2.2.2.2.2.2 | exact HX | apply FX.drew | apply FX.drewN))).mono ?_; rintro _ v5 ⟨ta, tn, tc, rfl, hS5, hT5⟩)
        | (go_at_call 16; with_reducible refine (HSA2.out _ _ (by repeat (first | exact hS6.2.2.2.2.2.2.2.2.2.2.2.2.2.2.2.2.2.2 | exact hS5.2.2.2.2.2.2.2.2.2.2.2.2.2.2.2.2.2.2 | exact hS4.2.2.2.2.2.2.2.2.2.2.2.2.2.2.2.2.2.2 | exact hS3.2.2.2.2.2.2.2.2.2.2.2.2.2.2.2.2.2.2 | exact hS2.2.2.2.2.2.2.2.2.2.2.2.2.2.2.2.2.2.2 | exact hS1.2.2.2.2.2.2.2.2.2.2.2.2.2.2.2.2.2.2 | exact HX | apply FX.drew | apply FX.drewN)) (by repeat (first | exact hT5 | apply strs_drew | apply strs_drewN))).mono ?_; rintro _ v6 ⟨rfl, hS6⟩))
    all_goals
      have HX6 := hidM hS6.2.2.2.2.2.2.2.2.2.2.2.2.2.2.2.2.2.2.out
      clear hS6 hS5 hS4 hS3 hS2 hS1 hT5 HX k0 k1 k2 k3 k4 k5 k6 k7 k8 i0 i1 i2 i3 i4 i5 i6 i7 i8
      go_wp2
      go_ret
      exact ⟨rfl, HX6.out.bel⟩
end Go.Proofs.YtbghailohnppmaaDoor
namespace Go.Proofs.YtbghailohnppmaaDoor
open Go.ChangeShapes Go.WideShapes Go.ChangeAt Go.WideMaps Go.WideElems Go.RowKit

theorem cells26 : Tryd.prog.cellsOf 26 = 9 := by kernel_rfl
theorem cells22 : Tryd.prog.cellsOf 22 = 1 := by kernel_rfl
theorem cells3l : Tryd.prog.cellsOf 3 = 1 := by kernel_rfl
theorem array9 {α : Type} {cs : Array α} (h : cs.size = 9) : ∃ a b c d e f g i j, cs = #[a, b, c, d, e, f, g, i, j] := by
  obtain ⟨l⟩ := cs
  match l, h with
  | [a, b, c, d, e, f, g, i, j], _ => exact ⟨a, b, c, d, e, f, g, i, j, rfl⟩
theorem trod_struct5 {H : Type} {enc : TypeId × Value → H} {P : Program} {w : World} {base : Nat} {spare : Nat → Bool} {held : Bool} {t : TypeId} {f0 f1 f2 f3 f4 : Field} {fuel : Nat} {cs : List Value} {x : DataW H × List MemPlace} (ht : P.underlying t = some (.struct #[f0, f1, f2, f3, f4])) (h : DataW.trod enc P w base spare held fuel t cs = some x) :
    ∃ y0 y1 y2 y3 y4 n, x.1 = .agg [y0.1, y1.1, y2.1, y3.1, y4.1] ∧ DataW.trod enc P w base spare held n f0.type ((cs.drop f0.offset).take (P.cellsOf f0.type)) = some y0 ∧
      DataW.trod enc P w base spare held n f1.type ((cs.drop f1.offset).take (P.cellsOf f1.type)) = some y1 ∧ DataW.trod enc P w base spare held n f2.type ((cs.drop f2.offset).take (P.cellsOf f2.type)) = some y2 ∧
      DataW.trod enc P w base spare held n f3.type ((cs.drop f3.offset).take (P.cellsOf f3.type)) = some y3 ∧ DataW.trod enc P w base spare held n f4.type ((cs.drop f4.offset).take (P.cellsOf f4.type)) = some y4 := by
  obtain ⟨xs, n, _, rfl, hl, hlen, hf⟩ := DataW.trod_struct ht h
  match xs, hlen with
  | [y0, y1, y2, y3, y4], _ => exact ⟨y0, y1, y2, y3, y4, n, by simp, by simpa using hf 0 f0 rfl, by simpa using hf 1 f1 rfl, by simpa using hf 2 f2 rfl, by simpa using hf 3 f3 rfl, by simpa using hf 4 f4 rfl⟩
theorem sign_cells {H : Type} {enc : TypeId × Value → H} {W : World} {n : Nat} {v0 v1 v2 : Value} {y : DataW H × List MemPlace} (h : DataW.trod enc Tryd.prog W 0 (fun _ => true) true n 24 [v0, v1, v2] = some y) :
    ∃ s : Sb, v0 = .string s.who ∧ v1 = .int .i64 s.time ∧ v2 = .int .i64 s.zone ∧ s.who.size ≤ maxLen ∧ (-9223372036854775808 ≤ s.time ∧ s.time ≤ 9223372036854775807) ∧ (-9223372036854775808 ≤ s.zone ∧ s.zone ≤ 9223372036854775807) := by
  obtain ⟨y0, y1, y2, m, _,_, h0, h1, h2⟩ := Deep.trod_struct3 Tryd.underlying24 h
  simp only [cells3l, cells9l, List.drop_zero, List.take_succ_cons, List.take_zero, List.drop_succ_cons] at h0 h1 h2
  obtain ⟨b, hb, _, wb⟩ := DataW.trod_string Tryd.underlying9 h0
  obtain ⟨k, hk, _, wk⟩ := DataW.trod_int Tryd.underlying3 h1
  obtain ⟨z, hz, _, wz⟩ := DataW.trod_int Tryd.underlying3 h2
  simp only [List.cons.injEq, and_true] at hk hb hz
  exact ⟨⟨b, k, z⟩, hb, hk, hz, wb, i64_range wk, i64_range wz⟩
theorem strs_cells {H : Type} {enc : TypeId × Value → H} {W : World} {n : Nat} {v : Value} {y : DataW H × List MemPlace} (h : DataW.trod enc Tryd.prog W 0 (fun _ => true) true n 22 [v] = some y) :
    ∃ l, StrsO W v l ∧ ∀ p ∈ l, p.size ≤ maxLen := by
  rcases Go.Deep.open_strs Tryd.underlying22 Tryd.underlying9 cells9l h with ⟨h0, _⟩ | ⟨a, len, cap, m, S, h0, _, hl, _, hm, _, hc⟩
  · exact ⟨[], .inl ⟨by simpa using h0, rfl⟩, fun _ h => by cases h⟩
  · have hv : v = .slice (some a) len cap := by simpa using h0
    by_cases h00 : len = 0
    · subst h00
      exact ⟨[], .inr (.inl ⟨a, cap, hv, rfl⟩), fun _ h => by cases h⟩
    · have hlm : len ≤ m := by rw [hm]; split <;> omega
      obtain ⟨b, off, spot⟩ := a
      have c0 := (hc 0 (by omega)).1
      have hspot : spot = none := by simpa [Addr.add] using World.cell?_spot c0
      subst hspot
      have hlt : b < W.heap.size := World.block_lt_of_cell? W _ c0
      refine ⟨(List.range len).map S, .inr (.inr ⟨b, off, cap, by simpa using hv, hlt, by simpa using hl, fun j hj => ?_⟩), fun p hp => ?_⟩
      · have hj' : j < len := by simpa using hj
        have := (hc j (by omega)).1
        rw [Addr.add_lit] at this
        simpa using this
      · obtain ⟨i, hi, rfl⟩ := List.mem_map.1 hp
        have := List.mem_range.1 hi
        exact (hc i (by omega)).2
set_option maxRecDepth 100000 in
theorem open_change {H : Type} {enc : TypeId × Value → H} {W : World} {b0 : Nat} {v : Value} {d : DataW H} {p : List MemPlace}
    (hv : Value.okWide Tryd.prog W .any b0 26 v) (h : DataW.Trod enc Tryd.prog W 0 (fun _ => true) true 26 v d p) :
    ∃ (t : ByteArray) (pv : Value) (l : List ByteArray) (a c : Sb) (m : ByteArray), v = .agg (c26 t pv a c m) ∧ StrsO W pv l ∧ t.size ≤ maxLen ∧ (∀ p ∈ l, p.size ≤ maxLen) ∧ a.who.size ≤ maxLen ∧ c.who.size ≤ maxLen ∧
      (-9223372036854775808 ≤ a.time ∧ a.time ≤ 9223372036854775807) ∧ (-9223372036854775808 ≤ c.time ∧ c.time ≤ 9223372036854775807) ∧ ∃ d0 d1 d2 d3, d = .agg [d0, d1, d2, d3, .lit (.string m.data.toList)] := by
  obtain ⟨cs, rfl, hsz⟩ := okWide_struct Tryd.underlying26 hv
  obtain ⟨v0, v1, v2, v3, v4, v5, v6, v7, v8, rfl⟩ := array9 (hsz.trans cells26)
  obtain ⟨fuel, hf⟩ := h
  obtain ⟨y0, y1, y2, y3, y4, n, hx, h0, h1, h2, h3, h4⟩ := trod_struct5 Tryd.underlying26 hf
  simp only [Value.cells, cells9l, cells22, cells24, List.drop_zero, List.take_succ_cons, List.take_zero, List.drop_succ_cons] at h0 h1 h2 h3 h4
  obtain ⟨t, ht, _, wt⟩ := DataW.trod_string Tryd.underlying9 h0
  obtain ⟨l, hl, wl⟩ := strs_cells h1
  obtain ⟨a, rfl, rfl, rfl, a1, a2, _⟩ := sign_cells h2
  obtain ⟨c, rfl, rfl, rfl, c1, c2, _⟩ := sign_cells h3
  obtain ⟨m, hm, gm, _⟩ := DataW.trod_string Tryd.underlying9 h4
  simp only [List.cons.injEq, and_true] at ht hm
  subst ht hm
  refine ⟨t, v1, l, a, c, m, rfl, hl, wt, wl, a1, c1, a2, c2, y0.1, y1.1, y2.1, y3.1, ?_⟩
  rw [show d = _ from hx, gm]
end Go.Proofs.YtbghailohnppmaaDoor
