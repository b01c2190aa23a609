/-
  Walks of the document's tree: Check.
-/
import Derived.Test.YtccohagdfpcplaaDoorTrT
import Derived.Test.YtccohagdfpcplaaDoorTreG
namespace Go.Proofs.YtccohagdfpcplaaDoor
open Go.RowKit

theorem less_cons (x y : UInt8) (a b : List UInt8) : Op.bytesLess (x :: a) (y :: b) = (decide (x < y) || (x == y && Op.bytesLess a b)) := rfl
theorem less_trans : ∀ (a b c : List UInt8), Op.bytesLess a b = true → Op.bytesLess b c = true → Op.bytesLess a c = true
  | [], [], _, h, _ => by cases h
  | [], _ :: _, [], _, h => by cases h
  | [], _ :: _, _ :: _, _, _ => rfl
  | _ :: _, [], _, h, _ => by cases h
  | _ :: _, _ :: _, [], _, h => by cases h
  | x :: a, y :: b, z :: c, h1, h2 => by
    rw [less_cons, Bool.or_eq_true, Bool.and_eq_true, decide_eq_true_eq, beq_iff_eq] at h1 h2 ⊢
    rcases h1 with h1 | ⟨rfl, h1⟩
    · rcases h2 with h2 | ⟨rfl, _⟩
      · exact Or.inl (UInt8.lt_trans h1 h2)
      · exact Or.inl h1
    · rcases h2 with h2 | ⟨rfl, h2⟩
      · exact Or.inl h2
      · exact Or.inr ⟨rfl, less_trans a b c h1 h2⟩
def keyE (es : List EntB) (i : Nat) : List UInt8 := keyL (es.getD i noE).1 (es.getD i noE).2.1.data.toList
/-- an entry that the document's Check lets by -/
def rstep (es : List EntB) (i : Nat) : Prop := rightB (es.getD i noE).1 (es.getD i noE).2.1.data.toList (es.getD i noE).2.2.data.toList = true ∧ ∀ j, j < i → (es.getD j noE).2.1.data.toList ≠ (es.getD i noE).2.1.data.toList ∧ Op.bytesLess (keyE es j) (keyE es i) = true
theorem step_iff {es : List EntB} {i : Nat} (hi : i < es.length) : stepB es i = true ↔ rightB (es.getD i noE).1 (es.getD i noE).2.1.data.toList (es.getD i noE).2.2.data.toList = true ∧ (∀ j, j < i → (es.getD j noE).2.1.data.toList ≠ (es.getD i noE).2.1.data.toList) ∧ (i = 0 ∨ Op.bytesLess (keyE es (i - 1)) (keyE es i) = true) := by
  unfold stepB keyE
  rw [Bool.and_eq_true, Bool.and_eq_true, Bool.or_eq_true, decide_eq_true_eq, decide_eq_true_eq, List.count_eq_zero]
  have hm : (es.getD i noE).2.1.data.toList ∉ (es.take i).map (fun e => e.2.1.data.toList) ↔ ∀ j, j < i → (es.getD j noE).2.1.data.toList ≠ (es.getD i noE).2.1.data.toList := by
    constructor
    · intro h j hj e
      apply h
      rw [← e]
      refine List.mem_map.2 ⟨es.getD j noE, ?_, rfl⟩
      rw [List.getD_eq_getElem?_getD, List.getElem?_eq_getElem (by omega)]
      exact List.mem_take_iff_getElem.2 ⟨j, by omega, rfl⟩
    · intro h hc
      obtain ⟨e, he, hn⟩ := List.mem_map.1 hc
      obtain ⟨j, hj, rfl⟩ := List.mem_take_iff_getElem.1 he
      refine h j (by omega) ?_
      rw [← hn, List.getD_eq_getElem?_getD, List.getElem?_eq_getElem (by omega)]
      rfl
  rw [hm, and_assoc]
theorem step_all {es : List EntB} : (∀ i, i < es.length → stepB es i = true) ↔ ∀ i, i < es.length → rstep es i := by
  constructor
  · intro h
    have chain : ∀ i, i < es.length → ∀ j, j < i → Op.bytesLess (keyE es j) (keyE es i) = true := by
      intro i
      induction i with
      | zero => intro _ j hj; omega
      | succ i ih =>
        intro hi j hj
        have h1 := ((step_iff hi).1 (h _ hi)).2.2
        rcases h1 with h1 | h1
        · omega
        · rw [Nat.add_sub_cancel] at h1
          by_cases e : j = i
          · subst e; exact h1
          · exact less_trans _ _ _ (ih (by omega) j (by omega)) h1
    exact fun i hi => ⟨((step_iff hi).1 (h i hi)).1, fun j hj => ⟨((step_iff hi).1 (h i hi)).2.1 j hj, chain i hi j hj⟩⟩
  · intro h i hi
    refine (step_iff hi).2 ⟨(h i hi).1, fun j hj => ((h i hi).2 j hj).1, ?_⟩
    by_cases e : i = 0
    · exact Or.inl e
    · exact Or.inr ((h i hi).2 (i - 1) (by omega)).2
theorem chkr_no {es : List EntB} {i : Nat} (hi : i < es.length) (h : ¬ rstep es i) : checkZ es = 4 := by
  unfold checkZ
  rw [if_neg]
  intro e
  exact h (step_all.1 (fun j hj => List.all_eq_true.1 e j (List.mem_range.2 hj)) i hi)
theorem chkr_yes {es : List EntB} (h : ∀ i, i < es.length → rstep es i) : checkZ es = 0 := chk_yes (step_all.2 h)

/-- the two boxes -/
structure YS (w : World) (bx yb : Nat) (m : Int) (nm id : ByteArray) (pm : Int) (pn pid : ByteArray) (V : World) : Prop where
  bel : Below w.heap.size w V
  x : EBox V bx m nm id
  y : EBox V yb pm pn pid
section
variable {w V w' : World} {bx yb : Nat} {m pm : Int} {nm id pn pid : ByteArray}
theorem YS.next (H : YS w bx yb m nm id pm pn pid V) (hb : Below V.heap.size V w') : YS w bx yb m nm id pm pn pid w' := ⟨H.bel.trans (hb.mono H.bel.size), H.x.below hb, H.y.below hb⟩
theorem YS.drew (H : Hid (YS w bx yb m nm id pm pn pid V)) : Hid (YS w bx yb m nm id pm pn pid V.drew) := ⟨H.out.bel.drew, H.out.x, H.out.y⟩
theorem YS.full (H : YS w bx yb m nm id pm pn pid V) : V.cell? ⟨bx, 0, none⟩ = some (.int .i64 m) ∧ V.cell? ⟨bx, 1, none⟩ = some (.string nm) ∧ V.cell? ⟨bx, 2, none⟩ = some (.string id) ∧ V.cell? ⟨yb, 0, none⟩ = some (.int .i64 pm) ∧ V.cell? ⟨yb, 1, none⟩ = some (.string pn) ∧ V.cell? ⟨yb, 2, none⟩ = some (.string pid) ∧ Hid (YS w bx yb m nm id pm pn pid V) := ⟨H.x.c0, H.x.c1, H.x.c2, H.y.c0, H.y.c1, H.y.c2, H⟩
theorem YS.call {f : Nat} {args : Array Value} {v : Value} (h : Calls Tryd.prog f args V fun x w' => x = .returned v ∧ Below V.heap.size V w') (H : Hid (YS w bx yb m nm id pm pn pid V)) :
    Calls Tryd.prog f args V fun x w' => x = .returned v ∧ w'.cell? ⟨bx, 0, none⟩ = some (.int .i64 m) ∧ w'.cell? ⟨bx, 1, none⟩ = some (.string nm) ∧ w'.cell? ⟨bx, 2, none⟩ = some (.string id) ∧ w'.cell? ⟨yb, 0, none⟩ = some (.int .i64 pm) ∧ w'.cell? ⟨yb, 1, none⟩ = some (.string pn) ∧ w'.cell? ⟨yb, 2, none⟩ = some (.string pid) ∧ Hid (YS w bx yb m nm id pm pn pid w') :=
  h.mono fun _ _ ⟨hx, hb⟩ => ⟨hx, (H.out.next hb).full⟩
end

set_option maxHeartbeats 8000000 in
set_option maxRecDepth 100000 in
theorem rcheck_some (b off cap len : Nat) (es : List EntB) (w : World) (hl : es.length = len) (h500 : len ≤ 500) (hcl : len ≤ cap) (hb : b < w.heap.size) (hE : EntsAt w b off es) (hO : ∀ e ∈ es, OkE e) :
    Calls Tryd.prog 11 #[.slice (some ⟨b, off, none⟩) len cap] w fun e w' => e = .returned (.int .i64 (checkZ es)) ∧ Below w.heap.size w w' := by
  have HE := hidM hE
  have HO := hidM hO
  have HL := hidM hl
  have HNO : Hid (∀ i, i < len → ¬ rstep es i → checkZ es = 4) := fun i hi h => chkr_no (by rw [HL.out]; exact hi) h
  have HYES : Hid ((∀ i, i < len → rstep es i) → checkZ es = 0) := fun h => chkr_yes (fun i hi => h i (by rw [← HL.out]; exact hi))
  clear hE hO hl
  generalize checkZ es = R at *
  have g5 : ¬ (500 : Int) < (len : Int) := by omega
  go_enter Tryd.func11, Tryd.ntmps11
  go_wp2
  go_loopw [3, 4, 6, 12] (fun _ _ _ i wr => ∃ k : Nat, k ≤ len ∧ i = .int .i64 k ∧ Below w.heap.size w wr ∧ ∀ i, i < k → rstep es i) (fun _ _ _ i _ => len - (intOf i).toNat)
  case atStart => exact ⟨0, Nat.zero_le _, rfl, Below.refl _ _, fun i hi => by omega⟩
  case round =>
    obtain ⟨k, hk, rfl, hbel, hst⟩ := hrel
    have HST := hidM hst
    have HBL := hidM hbel
    have HER := hidM (HE.out.below hbel hb)
    clear hst hbel
    by_cases hlt : k < len
    · have gk : (k : Int) < (len : Int) := by omega
      obtain ⟨c0, c1, c2⟩ := HER.out k (by rw [HL.out]; exact hlt)
      have okk := HO.out (es.getD k noE) (getD_mem (by rw [HL.out]; exact hlt))
      obtain ⟨m, hm⟩ : ∃ m, m = (es.getD k noE).1 := ⟨_, rfl⟩
      obtain ⟨nm, hnm⟩ : ∃ nm, nm = (es.getD k noE).2.1 := ⟨_, rfl⟩
      obtain ⟨id, hid⟩ : ∃ id, id = (es.getD k noE).2.2 := ⟨_, rfl⟩
      rw [← hm] at c0
      rw [← hnm] at c1
      rw [← hid] at c2
      have hz := zero29
      have HRS : Hid (rstep es k ↔ rightB m nm.data.toList id.data.toList = true ∧ ∀ j, j < k → (es.getD j noE).2.1.data.toList ≠ nm.data.toList ∧ Op.bytesLess (keyE es j) (keyL m nm.data.toList) = true) := by
        unfold Hid rstep
        rw [show keyE es k = keyL (es.getD k noE).1 (es.getD k noE).2.1.data.toList from rfl, hm, hnm, hid]
      have hns : nm.size ≤ 140737488355328 := by rw [hnm]; exact okk.2.2.1
      have his : id.size ≤ 140737488355328 := by rw [hid]; exact okk.2.2.2
      clear hm hnm hid okk
      have HE1 : Hid (EBox (wr.alloc (.cells #[.int .i64 m, .string nm, .string id] 29)) wr.heap.size m nm id) := heap_alloc_new wr _
      have HB1 : Hid (Below w.heap.size w (wr.alloc (.cells #[.int .i64 m, .string nm, .string id] 29))) := HBL.out.alloc HBL.out.size _
      have HMO := hidM (fun V => rmode_any m V)
      have HME := hidM (mode_empty m)
      generalize modeT m = tx at *
      have HNA := hidM (fun V => rname_any nm V hns)
      have HIA := hidM (fun V => rid_any id V)
      go_upto_region 6 with fail
      generalize wr.alloc (.cells #[.int .i64 m, .string nm, .string id] 29) = W at *
      generalize wr.heap.size = bx at *
      clear c0 c1 c2
      have c0 := HE1.out.c0
      have c1 := HE1.out.c1
      have c2 := HE1.out.c2
      go_wp2_with fail
      refine (HMO.out _).mono ?_
      rintro _ w2 ⟨rfl, hb2⟩
      have HE2 := hidM (HE1.out.below hb2)
      have HB2 := hidM (HB1.out.trans (hb2.mono HB1.out.size))
      clear hb2 HMO HE1 HB1 c0 c1 c2
      have c1 := HE2.out.c1
      have c2 := HE2.out.c2
      cases hmo : tx.toList.isEmpty with
      | true =>
        as_aux_lemma =>
        have H4 : Hid (R = 4) := HNO.out k hlt (fun h => by
          have h1 := (HRS.out.1 h).1
          unfold rightB at h1
          rw [HME.out] at hmo
          have h2 : decide (m ∈ modesL) = false := by simpa using hmo
          rw [h2] at h1; cases h1)
        go_wp2
        go_ret
        exact ⟨by rw [H4.out]; rfl, HB2.out⟩
      | false =>
        have hmm : decide (m ∈ modesL) = true := by have := HME.out; rw [hmo] at this; simpa using this.symm
        have HMM := hidM hmm
        clear hmm
        go_wp2_with fail
        refine (HNA.out _).mono ?_
        rintro _ w3 ⟨rfl, hb3⟩
        have HE3 := hidM (HE2.out.below hb3)
        have HB3 := hidM (HB2.out.trans (hb3.mono HB2.out.size))
        clear hb3 HNA HE2 HB2 c1 c2
        have c2 := HE3.out.c2
        cases hna : nameB nm.data.toList with
        | false =>
          as_aux_lemma =>
          have H4 : Hid (R = 4) := HNO.out k hlt (fun h => by
            have h1 := (HRS.out.1 h).1
            unfold rightB at h1
            rw [hna, Bool.and_false, Bool.false_and] at h1; cases h1)
          clear hna
          go_wp2
          go_ret
          exact ⟨by rw [H4.out]; rfl, HB3.out⟩
        | true =>
          go_wp2_with fail
          refine (HIA.out _).mono ?_
          rintro _ w4 ⟨rfl, hw4⟩
          rw [hw4]
          clear hw4 HIA
          cases hia : idB id.data.toList with
          | false =>
            as_aux_lemma =>
            have H4 : Hid (R = 4) := HNO.out k hlt (fun h => by
              have h1 := (HRS.out.1 h).1
              unfold rightB at h1
              rw [hia, Bool.and_false] at h1; cases h1)
            clear hia
            go_wp2
            go_ret
            exact ⟨by rw [H4.out]; rfl, HB3.out⟩
          | true =>
            have HRI : Hid (rightB m nm.data.toList id.data.toList = true) := by unfold Hid rightB; rw [HMM.out, hna, hia]; rfl
            clear hna hia c2 HMM HME
            have gkc : (k : Int) ≤ (cap : Int) := by omega
            have kc : k ≤ cap := by omega
            have k500 : k ≤ 500 := by omega
            have k0 : (0 : Int) ≤ (k : Int) := by omega
            have kw : IntKind.i64.wrap (k : Int) = (k : Int) := by rw [IntKind.wrap_i64]; omega
            obtain ⟨K2, hK2⟩ : ∃ K2 : ByteArray, K2 = ⟨(keyL m nm.data.toList).toArray⟩ := ⟨_, rfl⟩
            have HK2 := hidM hK2
            clear hK2
            have HKX : Hid (∀ V, Calls Tryd.prog 28 #[.agg #[.int .i64 m, .string nm, .string id]] V fun e w' => e = .returned (.string K2) ∧ Below V.heap.size V w') := fun V => by rw [HK2.out]; exact rkey_any m nm id V hns
            have HNX0 : Hid ((∀ j, j < k → (es.getD j noE).2.1.data.toList ≠ nm.data.toList ∧ Op.bytesLess (keyE es j) (keyL m nm.data.toList) = true) → ∀ i, i < k + 1 → rstep es i) := fun h i hi => by
              rcases Nat.lt_or_ge i k with h1 | h1
              · exact HST.out i h1
              · obtain rfl : i = k := by omega
                exact HRS.out.2 ⟨HRI.out, h⟩
            have HN4 : Hid (∀ j, j < k → ¬ ((es.getD j noE).2.1.data.toList ≠ nm.data.toList ∧ Op.bytesLess (keyE es j) (keyL m nm.data.toList) = true) → R = 4) := fun j hj h => HNO.out k hlt (fun hr => h ((HRS.out.1 hr).2 j hj))
            clear HST HRS HRI HNO HYES HER HBL
            go_wp2
            go_loopw [6, 37] (fun _ jv wq => ∃ j : Nat, j ≤ k ∧ jv = .int .i64 (j : Int) ∧ Below w.heap.size w wq ∧ EBox wq bx m nm id ∧ ∀ i, i < j → (es.getD i noE).2.1.data.toList ≠ nm.data.toList ∧ Op.bytesLess (keyE es i) (keyL m nm.data.toList) = true) (fun _ jv _ => k - (intOf jv).toNat)
            case atStart => exact ⟨0, Nat.zero_le _, rfl, HB3.out, HE3.out, fun i hi => by omega⟩
            case round =>
              obtain ⟨j, hj, rfl, hbq, hxq, hal⟩ := hrel
              have HAL := hidM hal
              have HBQ := hidM hbq
              have HXQ := hidM hxq
              have HEQ := hidM (HE.out.below hbq hb)
              clear hal hbq hxq HB3 HE3
              by_cases hjk : j < k
              · have gj : (j : Int) < (k : Int) := by omega
                obtain ⟨c0, c1, c2⟩ := HEQ.out j (by rw [HL.out]; omega)
                have okj := HO.out (es.getD j noE) (getD_mem (by rw [HL.out]; omega))
                obtain ⟨pm, hpm⟩ : ∃ m, m = (es.getD j noE).1 := ⟨_, rfl⟩
                obtain ⟨pn, hpn⟩ : ∃ nm, nm = (es.getD j noE).2.1 := ⟨_, rfl⟩
                obtain ⟨pid, hpid⟩ : ∃ id, id = (es.getD j noE).2.2 := ⟨_, rfl⟩
                rw [← hpm] at c0
                rw [← hpn] at c1
                rw [← hpid] at c2
                have hps : pn.size ≤ 140737488355328 := by rw [hpn]; exact okj.2.2.1
                have HKE : Hid (keyE es j = keyL pm pn.data.toList) := by unfold Hid keyE; rw [hpm, hpn]
                have HPN := hidM hpn
                clear hpm hpn hpid okj
                have hz := zero29
                have HY : Hid (YS w bx wr.heap.size m nm id pm pn pid (wr.alloc (.cells #[.int .i64 pm, .string pn, .string pid] 29))) := ⟨HBQ.out.alloc HBQ.out.size _, (heap_alloc_old _ _ HXQ.out.lt).trans HXQ.out, heap_alloc_new _ _⟩
                obtain ⟨K1, hK1⟩ : ∃ K1 : ByteArray, K1 = ⟨(keyL pm pn.data.toList).toArray⟩ := ⟨_, rfl⟩
                have HK1 := hidM hK1
                clear hK1
                have HKY : Hid (∀ V, Calls Tryd.prog 28 #[.agg #[.int .i64 pm, .string pn, .string pid]] V fun e w' => e = .returned (.string K1) ∧ Below V.heap.size V w') := fun V => by rw [HK1.out]; exact rkey_any pm pn pid V hps
                go_upto_region 11 with fail
                generalize wr.alloc (.cells #[.int .i64 pm, .string pn, .string pid] 29) = WQ at *
                generalize wr.heap.size = yb at *
                clear c0 c1 c2 HBQ HXQ HEQ
                cases hne : pn.toList == nm.toList with
                | true =>
                  as_aux_lemma =>
                  have H4 : Hid (R = 4) := HN4.out j hjk (fun h => h.1 (by rw [← HPN.out, ← Lib.toList_data, ← Lib.toList_data]; exact eq_of_beq hne))
                  clear HNX0 HN4 HAL HKX HKY
                  refine wp_region_noPanic ?_
                  refine wp_region_held_drew (S := (fun w' => w'.cell? ⟨bx, 0, none⟩ = some (.int .i64 m) ∧ w'.cell? ⟨bx, 1, none⟩ = some (.string nm) ∧ w'.cell? ⟨bx, 2, none⟩ = some (.string id) ∧ w'.cell? ⟨yb, 0, none⟩ = some (.int .i64 pm) ∧ w'.cell? ⟨yb, 1, none⟩ = some (.string pn) ∧ w'.cell? ⟨yb, 2, none⟩ = some (.string pid) ∧ Hid (YS w bx yb m nm id pm pn pid w'))) (by kernel_rfl) ?_ (fun hHeld => ?_)
                  · exact YS.full (YS.drew HY).out
                  refine wpAnyH_take (i := 0) (v := ?_) rfl (by kernel_rfl) (by kernel_rfl) (by kernel_rfl) (fun _ _ _ h => h) (Or.inl ⟨by kernel_rfl, ?_⟩) (by assumption) ?_
                  rotate_left
                  · intro w hSw
                    clear hSw
                    go_simp
                    try with_reducible rfl
                  change wpAnyH _ _ _ _ _ _ _ (⟨#[_, _, _, _, _, _, _, _, _, _, _, _, _, _, _, _, _, _, _, _, _, _, _, _, _, _, _, _, _, _, _, _, _, _, _, _, _, _, _, _, _, _, _, _, _, _, _, _, _, _, _, _, _, _, _], _⟩ : Act) _
                  refine wpAnyH_take (i := 1) (v := ?_) rfl (by kernel_rfl) (by kernel_rfl) (by kernel_rfl) (fun _ _ _ h => h) (Or.inl ⟨by kernel_rfl, ?_⟩) (by assumption) ?_
                  rotate_left
                  · intro w hSw
                    obtain ⟨k0, k1, k2, k3, k4, k5, _⟩ := hSw
                    go_simp
                    try with_reducible rfl
                  change wpAnyH _ _ _ _ _ _ _ (⟨#[_, _, _, _, _, _, _, _, _, _, _, _, _, _, _, _, _, _, _, _, _, _, _, _, _, _, _, _, _, _, _, _, _, _, _, _, _, _, _, _, _, _, _, _, _, _, _, _, _, _, _, _, _, _, _], _⟩ : Act) _
                  refine wpAnyH_take (i := 2) (v := ?_) rfl (by kernel_rfl) (by kernel_rfl) (by kernel_rfl) (fun _ _ _ h => h) (Or.inl ⟨by kernel_rfl, ?_⟩) (by assumption) ?_
                  rotate_left
                  · intro w hSw
                    clear hSw
                    go_simp
                    try with_reducible rfl
                  change wpAnyH _ _ _ _ _ _ _ (⟨#[_, _, _, _, _, _, _, _, _, _, _, _, _, _, _, _, _, _, _, _, _, _, _, _, _, _, _, _, _, _, _, _, _, _, _, _, _, _, _, _, _, _, _, _, _, _, _, _, _, _, _, _, _, _, _], _⟩ : Act) _
                  refine wpAnyH_take (i := 3) (v := ?_) rfl (by kernel_rfl) (by kernel_rfl) (by kernel_rfl) (fun _ _ _ h => h) (Or.inl ⟨by kernel_rfl, ?_⟩) (by assumption) ?_
                  rotate_left
                  · intro w hSw
                    obtain ⟨k0, k1, k2, k3, k4, k5, _⟩ := hSw
                    go_simp
                    try with_reducible rfl
                  change wpAnyH _ _ _ _ _ _ _ (⟨#[_, _, _, _, _, _, _, _, _, _, _, _, _, _, _, _, _, _, _, _, _, _, _, _, _, _, _, _, _, _, _, _, _, _, _, _, _, _, _, _, _, _, _, _, _, _, _, _, _, _, _, _, _, _, _], _⟩ : Act) _
                  refine wpAnyH_take (i := 4) (v := ?_) rfl (by kernel_rfl) (by kernel_rfl) (by kernel_rfl) (fun _ _ _ h => h) (Or.inl ⟨by kernel_rfl, ?_⟩) (by assumption) ?_
                  rotate_left
                  · intro w hSw
                    clear hSw
                    go_simp
                    try with_reducible rfl
                  change wpAnyH _ _ _ _ _ _ _ (⟨#[_, _, _, _, _, _, _, _, _, _, _, _, _, _, _, _, _, _, _, _, _, _, _, _, _, _, _, _, _, _, _, _, _, _, _, _, _, _, _, _, _, _, _, _, _, _, _, _, _, _, _, _, _, _, _], _⟩ : Act) _
                  refine wpAnyH_take (i := 5) (v := ?_) rfl (by kernel_rfl) (by kernel_rfl) (by kernel_rfl) (fun _ _ _ h => h) (Or.inl ⟨by kernel_rfl, ?_⟩) (by assumption) ?_
                  rotate_left
                  · intro w hSw
                    clear hSw
                    go_simp
                    try with_reducible rfl
                  change wpAnyH _ _ _ _ _ _ _ (⟨#[_, _, _, _, _, _, _, _, _, _, _, _, _, _, _, _, _, _, _, _, _, _, _, _, _, _, _, _, _, _, _, _, _, _, _, _, _, _, _, _, _, _, _, _, _, _, _, _, _, _, _, _, _, _, _], _⟩ : Act) _
                  refine wpAnyH_take (i := 6) (v := undef) rfl (by kernel_rfl) (by kernel_rfl) (by kernel_rfl) (fun _ _ _ h => h) (Or.inr ⟨by kernel_rfl, rfl⟩) (by assumption) ?_
                  change wpAnyH _ _ _ _ _ _ _ (⟨#[_, _, _, _, _, _, _, _, _, _, _, _, _, _, _, _, _, _, _, _, _, _, _, _, _, _, _, _, _, _, _, _, _, _, _, _, _, _, _, _, _, _, _, _, _, _, _, _, _, _, _, _, _, _, _], _⟩ : Act) _
                  refine wpAnyH_take (i := 8) (v := undef) rfl (by kernel_rfl) (by kernel_rfl) (by kernel_rfl) (fun _ _ _ h => h) (Or.inr ⟨by kernel_rfl, rfl⟩) (by assumption) ?_
                  change wpAnyH _ _ _ _ _ _ _ (⟨#[_, _, _, _, _, _, _, _, _, _, _, _, _, _, _, _, _, _, _, _, _, _, _, _, _, _, _, _, _, _, _, _, _, _, _, _, _, _, _, _, _, _, _, _, _, _, _, _, _, _, _, _, _, _, _], _⟩ : Act) _
                  refine wpAnyH_ready (rs := [7]) (by kernel_rfl) (by simp) ?_
                  refine AllReadyH.cons rfl (fun K hK => ?_) AllReadyH.nil
                  go_simp
                  refine hK.out _ _ hHeld (fun hHeld => ?_)
                  clear hK K
                  change wpAnyH _ _ _ _ _ _ _ (⟨#[_, _, _, _, _, _, _, _, _, _, _, _, _, _, _, _, _, _, _, _, _, _, _, _, _, _, _, _, _, _, _, _, _, _, _, _, _, _, _, _, _, _, _, _, _, _, _, _, _, _, _, _, _, _, _], _⟩ : Act) _
                  refine wpAnyH_ready (rs := [9]) (by kernel_rfl) (by simp) ?_
                  refine AllReadyH.cons rfl (fun K hK => ?_) AllReadyH.nil
                  go_simp
                  refine hK.out _ _ hHeld (fun hHeld => ?_)
                  clear hK K
                  change wpAnyH _ _ _ _ _ _ _ (⟨#[_, _, _, _, _, _, _, _, _, _, _, _, _, _, _, _, _, _, _, _, _, _, _, _, _, _, _, _, _, _, _, _, _, _, _, _, _, _, _, _, _, _, _, _, _, _, _, _, _, _, _, _, _, _, _], _⟩ : Act) _
                  refine wpAnyH_take (i := 10) (v := undef) rfl (by kernel_rfl) (by kernel_rfl) (by kernel_rfl) (fun _ _ _ h => h) (Or.inr ⟨by kernel_rfl, rfl⟩) (by assumption) ?_
                  change wpAnyH _ _ _ _ _ _ _ (⟨#[_, _, _, _, _, _, _, _, _, _, _, _, _, _, _, _, _, _, _, _, _, _, _, _, _, _, _, _, _, _, _, _, _, _, _, _, _, _, _, _, _, _, _, _, _, _, _, _, _, _, _, _, _, _, _], _⟩ : Act) _
                  refine wpAnyH_take (i := 11) (v := ?_) rfl (by kernel_rfl) (by kernel_rfl) (by kernel_rfl) (fun _ _ _ h => h) (Or.inl ⟨by kernel_rfl, ?_⟩) (by assumption) ?_
                  rotate_left
                  · intro w hSw
                    clear hSw
                    go_simp
                    try with_reducible rfl
                  change wpAnyH _ _ _ _ _ _ _ (⟨#[_, _, _, _, _, _, _, _, _, _, _, _, _, _, _, _, _, _, _, _, _, _, _, _, _, _, _, _, _, _, _, _, _, _, _, _, _, _, _, _, _, _, _, _, _, _, _, _, _, _, _, _, _, _, _], _⟩ : Act) _
                  refine wpAnyH_done (by kernel_rfl) ?_ _
                  refine NoPanic.normal ?_
                  have HBZ := hidM hHeld.2.2.2.2.2.2.out.bel
                  clear hHeld
                  go_wp2
                  go_ret
                  exact ⟨by rw [H4.out]; rfl, HBZ.out⟩
                | false =>
                  as_aux_lemma =>
                  have hnn : pn.data.toList ≠ nm.data.toList := fun e => by rw [Lib.toList_data, Lib.toList_data, e] at hne; simp at hne
                  have HNN := hidM hnn
                  clear hnn
                  have H28Y : Hid (∀ V, Hid (YS w bx yb m nm id pm pn pid V) → _) := fun V hV => YS.call (HKY.out V) hV
                  have H28X : Hid (∀ V, Hid (YS w bx yb m nm id pm pn pid V) → _) := fun V hV => YS.call (HKX.out V) hV
                  clear HKX HKY
                  refine wp_region_noPanic ?_
                  refine wp_region_held_drew (S := (fun w' => w'.cell? ⟨bx, 0, none⟩ = some (.int .i64 m) ∧ w'.cell? ⟨bx, 1, none⟩ = some (.string nm) ∧ w'.cell? ⟨bx, 2, none⟩ = some (.string id) ∧ w'.cell? ⟨yb, 0, none⟩ = some (.int .i64 pm) ∧ w'.cell? ⟨yb, 1, none⟩ = some (.string pn) ∧ w'.cell? ⟨yb, 2, none⟩ = some (.string pid) ∧ Hid (YS w bx yb m nm id pm pn pid w'))) (by kernel_rfl) ?_ (fun hHeld => ?_)
                  · exact YS.full (YS.drew HY).out
                  refine wpAnyH_take (i := 0) (v := ?_) rfl (by kernel_rfl) (by kernel_rfl) (by kernel_rfl) (fun _ _ _ h => h) (Or.inl ⟨by kernel_rfl, ?_⟩) (by assumption) ?_
                  rotate_left
                  · intro w hSw
                    clear hSw
                    go_simp
                    try with_reducible rfl
                  change wpAnyH _ _ _ _ _ _ _ (⟨#[_, _, _, _, _, _, _, _, _, _, _, _, _, _, _, _, _, _, _, _, _, _, _, _, _, _, _, _, _, _, _, _, _, _, _, _, _, _, _, _, _, _, _, _, _, _, _, _, _, _, _, _, _, _, _], _⟩ : Act) _
                  refine wpAnyH_take (i := 1) (v := ?_) rfl (by kernel_rfl) (by kernel_rfl) (by kernel_rfl) (fun _ _ _ h => h) (Or.inl ⟨by kernel_rfl, ?_⟩) (by assumption) ?_
                  rotate_left
                  · intro w hSw
                    obtain ⟨k0, k1, k2, k3, k4, k5, _⟩ := hSw
                    go_simp
                    try with_reducible rfl
                  change wpAnyH _ _ _ _ _ _ _ (⟨#[_, _, _, _, _, _, _, _, _, _, _, _, _, _, _, _, _, _, _, _, _, _, _, _, _, _, _, _, _, _, _, _, _, _, _, _, _, _, _, _, _, _, _, _, _, _, _, _, _, _, _, _, _, _, _], _⟩ : Act) _
                  refine wpAnyH_take (i := 2) (v := ?_) rfl (by kernel_rfl) (by kernel_rfl) (by kernel_rfl) (fun _ _ _ h => h) (Or.inl ⟨by kernel_rfl, ?_⟩) (by assumption) ?_
                  rotate_left
                  · intro w hSw
                    clear hSw
                    go_simp
                    try with_reducible rfl
                  change wpAnyH _ _ _ _ _ _ _ (⟨#[_, _, _, _, _, _, _, _, _, _, _, _, _, _, _, _, _, _, _, _, _, _, _, _, _, _, _, _, _, _, _, _, _, _, _, _, _, _, _, _, _, _, _, _, _, _, _, _, _, _, _, _, _, _, _], _⟩ : Act) _
                  refine wpAnyH_take (i := 3) (v := ?_) rfl (by kernel_rfl) (by kernel_rfl) (by kernel_rfl) (fun _ _ _ h => h) (Or.inl ⟨by kernel_rfl, ?_⟩) (by assumption) ?_
                  rotate_left
                  · intro w hSw
                    obtain ⟨k0, k1, k2, k3, k4, k5, _⟩ := hSw
                    go_simp
                    try with_reducible rfl
                  change wpAnyH _ _ _ _ _ _ _ (⟨#[_, _, _, _, _, _, _, _, _, _, _, _, _, _, _, _, _, _, _, _, _, _, _, _, _, _, _, _, _, _, _, _, _, _, _, _, _, _, _, _, _, _, _, _, _, _, _, _, _, _, _, _, _, _, _], _⟩ : Act) _
                  refine wpAnyH_take (i := 4) (v := ?_) rfl (by kernel_rfl) (by kernel_rfl) (by kernel_rfl) (fun _ _ _ h => h) (Or.inl ⟨by kernel_rfl, ?_⟩) (by assumption) ?_
                  rotate_left
                  · intro w hSw
                    clear hSw
                    go_simp
                    try with_reducible rfl
                  change wpAnyH _ _ _ _ _ _ _ (⟨#[_, _, _, _, _, _, _, _, _, _, _, _, _, _, _, _, _, _, _, _, _, _, _, _, _, _, _, _, _, _, _, _, _, _, _, _, _, _, _, _, _, _, _, _, _, _, _, _, _, _, _, _, _, _, _], _⟩ : Act) _
                  refine wpAnyH_take (i := 5) (v := ?_) rfl (by kernel_rfl) (by kernel_rfl) (by kernel_rfl) (fun _ _ _ h => h) (Or.inl ⟨by kernel_rfl, ?_⟩) (by assumption) ?_
                  rotate_left
                  · intro w hSw
                    clear hSw
                    go_simp
                    try with_reducible rfl
                  change wpAnyH _ _ _ _ _ _ _ (⟨#[_, _, _, _, _, _, _, _, _, _, _, _, _, _, _, _, _, _, _, _, _, _, _, _, _, _, _, _, _, _, _, _, _, _, _, _, _, _, _, _, _, _, _, _, _, _, _, _, _, _, _, _, _, _, _], _⟩ : Act) _
                  refine wpAnyH_take (i := 6) (v := ?_) rfl (by kernel_rfl) (by kernel_rfl) (by kernel_rfl) (fun _ _ _ h => h) (Or.inl ⟨by kernel_rfl, ?_⟩) (by assumption) ?_
                  rotate_left
                  · intro w hSw
                    obtain ⟨k0, k1, k2, k3, k4, k5, _⟩ := hSw
                    go_simp
                    try with_reducible rfl
                  change wpAnyH _ _ _ _ _ _ _ (⟨#[_, _, _, _, _, _, _, _, _, _, _, _, _, _, _, _, _, _, _, _, _, _, _, _, _, _, _, _, _, _, _, _, _, _, _, _, _, _, _, _, _, _, _, _, _, _, _, _, _, _, _, _, _, _, _], _⟩ : Act) _
                  refine wpAnyH_take (i := 8) (v := ?_) rfl (by kernel_rfl) (by kernel_rfl) (by kernel_rfl) (fun _ _ _ h => h) (Or.inl ⟨by kernel_rfl, ?_⟩) (by assumption) ?_
                  rotate_left
                  · intro w hSw
                    obtain ⟨k0, k1, k2, k3, k4, k5, _⟩ := hSw
                    go_simp
                    try with_reducible rfl
                  change wpAnyH _ _ _ _ _ _ _ (⟨#[_, _, _, _, _, _, _, _, _, _, _, _, _, _, _, _, _, _, _, _, _, _, _, _, _, _, _, _, _, _, _, _, _, _, _, _, _, _, _, _, _, _, _, _, _, _, _, _, _, _, _, _, _, _, _], _⟩ : Act) _
                  refine wpAnyH_ready (rs := [7]) (by kernel_rfl) (by simp) ?_
                  refine AllReadyH.cons rfl (fun K hK => ?_) AllReadyH.nil
                  go_simp
                  with_reducible refine (H28Y.out _ hHeld.2.2.2.2.2.2).mono ?_
                  rintro _ v1 ⟨rfl, hS⟩
                  refine hK.out _ _ hS (fun hHeld => ?_)
                  clear hK K hS
                  change wpAnyH _ _ _ _ _ _ _ (⟨#[_, _, _, _, _, _, _, _, _, _, _, _, _, _, _, _, _, _, _, _, _, _, _, _, _, _, _, _, _, _, _, _, _, _, _, _, _, _, _, _, _, _, _, _, _, _, _, _, _, _, _, _, _, _, _], _⟩ : Act) _
                  refine wpAnyH_ready (rs := [9]) (by kernel_rfl) (by simp) ?_
                  refine AllReadyH.cons rfl (fun K hK => ?_) AllReadyH.nil
                  go_simp
                  with_reducible refine (H28X.out _ hHeld.2.2.2.2.2.2).mono ?_
                  rintro _ v2 ⟨rfl, hS⟩
                  refine hK.out _ _ hS (fun hHeld => ?_)
                  clear hK K hS
                  change wpAnyH _ _ _ _ _ _ _ (⟨#[_, _, _, _, _, _, _, _, _, _, _, _, _, _, _, _, _, _, _, _, _, _, _, _, _, _, _, _, _, _, _, _, _, _, _, _, _, _, _, _, _, _, _, _, _, _, _, _, _, _, _, _, _, _, _], _⟩ : Act) _
                  refine wpAnyH_take (i := 10) (v := ?_) rfl (by kernel_rfl) (by kernel_rfl) (by kernel_rfl) (fun _ _ _ h => h) (Or.inl ⟨by kernel_rfl, ?_⟩) (by assumption) ?_
                  rotate_left
                  · intro w hSw
                    clear hSw
                    go_simp
                    try with_reducible rfl
                  change wpAnyH _ _ _ _ _ _ _ (⟨#[_, _, _, _, _, _, _, _, _, _, _, _, _, _, _, _, _, _, _, _, _, _, _, _, _, _, _, _, _, _, _, _, _, _, _, _, _, _, _, _, _, _, _, _, _, _, _, _, _, _, _, _, _, _, _], _⟩ : Act) _
                  refine wpAnyH_take (i := 11) (v := ?_) rfl (by kernel_rfl) (by kernel_rfl) (by kernel_rfl) (fun _ _ _ h => h) (Or.inl ⟨by kernel_rfl, ?_⟩) (by assumption) ?_
                  rotate_left
                  · intro w hSw
                    clear hSw
                    go_simp
                    try with_reducible rfl
                  change wpAnyH _ _ _ _ _ _ _ (⟨#[_, _, _, _, _, _, _, _, _, _, _, _, _, _, _, _, _, _, _, _, _, _, _, _, _, _, _, _, _, _, _, _, _, _, _, _, _, _, _, _, _, _, _, _, _, _, _, _, _, _, _, _, _, _, _], _⟩ : Act) _
                  refine wpAnyH_done (by kernel_rfl) ?_ _
                  refine NoPanic.normal ?_
                  have HBZ := hidM hHeld.2.2.2.2.2.2.out
                  clear hHeld H28X H28Y
                  have HBV : Hid (Op.bytesLess (keyE es j) (keyL m nm.data.toList) = Op.bytesLess K1.toList K2.toList) := by
                    unfold Hid; rw [HKE.out, Lib.toList_data, Lib.toList_data, HK1.out, HK2.out]
                  generalize Op.bytesLess K1.toList K2.toList = bl at *
                  cases bl with
                  | false =>
                    have H4 : Hid (R = 4) := HN4.out j hjk (fun h => by have := h.2; rw [HBV.out] at this; cases this)
                    go_wp2
                    go_ret
                    exact ⟨by rw [H4.out]; rfl, HBZ.out.bel⟩
                  | true =>
                    have HAX : Hid (∀ i, i < j + 1 → (es.getD i noE).2.1.data.toList ≠ nm.data.toList ∧ Op.bytesLess (keyE es i) (keyL m nm.data.toList) = true) := fun i hi => by
                      rcases Nat.lt_or_ge i j with h1 | h1
                      · exact HAL.out i h1
                      · obtain rfl : i = j := by omega
                        exact ⟨by rw [← HPN.out]; exact HNN.out, HBV.out⟩
                    go_wp2
                    go_roundw
                    case rel => exact ⟨j + 1, by omega, by go_num, HBZ.out.bel, HBZ.out.x, HAX.out⟩
                    case measure => simp [intOf]; omega
              · as_aux_lemma =>
                obtain rfl : j = k := by omega
                have gj : ¬ (j : Int) < (j : Int) := by omega
                have HNX := hidM (HNX0.out HAL.out)
                clear HNX0 HN4 HAL
                go_wp2
                go_roundw
                case rel => exact ⟨j + 1, by omega, by go_num, HBQ.out, HNX.out⟩
                case measure => simp [intOf]; omega
    · as_aux_lemma =>
      have gk : ¬ (k : Int) < (len : Int) := by omega
      have H0 : Hid (R = 0) := HYES.out (fun i hi => HST.out i (by omega))
      go_wp2
      go_ret
      exact ⟨by rw [H0.out]; rfl, HBL.out⟩
set_option maxRecDepth 100000 in
theorem rcheck_big (a : Option Addr) (cap len : Nat) (w : World) (h500 : 500 < len) :
    Calls Tryd.prog 11 #[.slice a len cap] w fun e w' => e = .returned (.int .i64 2) ∧ Below w.heap.size w w' := by
  have g5 : (500 : Int) < (len : Int) := by omega
  go_enter Tryd.func11, Tryd.ntmps11
  go_wp2
  go_ret
  exact ⟨rfl, Below.refl _ _⟩
set_option maxRecDepth 100000 in
theorem rcheck_nil (a : Option Addr) (cap : Nat) (w : World) :
    Calls Tryd.prog 11 #[.slice a 0 cap] w fun e w' => e = .returned (.int .i64 0) ∧ Below w.heap.size w w' := by
  go_enter Tryd.func11, Tryd.ntmps11
  go_wp2
  refine wp_loop_rounds 1 ?_
  rw [rounds_succ]
  go_wp2
  go_ret
  exact ⟨rfl, Below.refl _ _⟩
theorem rcheck_any (a : Option Addr) (cap : Nat) (es : List EntB) (w : World) (hc : es.length ≤ cap) (hE : EntsIn w a es) (hO : ∀ e ∈ es, OkE e) :
    Calls Tryd.prog 11 #[.slice a es.length cap] w fun e w' => e = .returned (.int .i64 (checkV es)) ∧ Below w.heap.size w w' := by
  by_cases h5 : 500 < es.length
  · unfold checkV
    rw [if_pos h5]
    exact rcheck_big a cap es.length w h5
  · have hv : checkV es = checkZ es := by unfold checkV; rw [if_neg h5]
    rw [hv]
    rcases hE with rfl | ⟨b, off, rfl, h1, h2⟩
    · exact rcheck_nil a cap w
    · exact rcheck_some b off cap es.length es w rfl (by omega) hc h1 h2 hO
end Go.Proofs.YtccohagdfpcplaaDoor
