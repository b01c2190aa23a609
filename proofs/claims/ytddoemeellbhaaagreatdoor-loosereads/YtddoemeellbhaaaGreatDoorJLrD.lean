/-
  The names as the document lists them.
  The document's List, walked.
-/
import Derived.Test.YtddoemeellbhaaaGreatDoorJLrB
import Derived.Test.YtddoemeellbhaaaGreatDoorJLrA
import Derived.Maps.AppendAt
import Derived.Deep.QuietTactic
import Derived.BigQuiet
namespace Go.Proofs.YtddoemeellbhaaaGreatDoor
open Go.RowKit

theorem rk_filter : ∀ k (l : List UInt8), l.count 47 = k → Lib.replaceK [47] [] k l = l.filter (· != 47) := by
  intro k
  induction k with
  | zero =>
    intro l h
    have hn := List.count_eq_zero.1 h
    rw [Lib.replaceK]
    refine (List.filter_eq_self.2 fun a ha => ?_).symm
    have : a ≠ 47 := fun e => hn (e ▸ ha)
    simpa using this
  | succ k ih =>
    intro l h
    have hm : (47 : UInt8) ∈ l := by
      rcases Decidable.em ((47 : UInt8) ∈ l) with hm | hm
      · exact hm
      · rw [List.count_eq_zero.2 hm] at h; omega
    obtain ⟨a, b, rfl, ha⟩ := List.eq_append_cons_of_mem hm
    rw [Lib.replaceK_hit [47] [] k _ a.length (by rw [Lib.index_one, index_app _ _ _ ha]), List.take_left, List.append_nil]
    have hd : (a ++ 47 :: b).drop (a.length + [(47 : UInt8)].length) = b := by
      rw [show a.length + [(47 : UInt8)].length = (a ++ [47]).length by simp, show a ++ 47 :: b = (a ++ [47]) ++ b by simp, List.drop_left]
    rw [hd, ih b (by rw [List.count_append, List.count_cons_self, List.count_eq_zero.2 ha] at h; omega), List.filter_append]
    have e1 : a.filter (· != 47) = a := List.filter_eq_self.2 fun c hc => by
      have : c ≠ 47 := fun e => ha (e ▸ hc)
      simpa using this
    rw [e1, List.filter_cons_of_neg (by simp)]
theorem noSlash_list (s : ByteArray) : (noSlash s).data.toList = s.data.toList.filter (· != 47) := by
  show Lib.replaceAll s.data.toList [47] [] = _
  unfold Lib.replaceAll Lib.replace Lib.replaceNum
  rw [if_neg (by decide), if_pos (Or.inl (by decide))]
  exact rk_filter _ _ (Lib.count_one _ _).symm
theorem idB_clean {l : List UInt8} (h : idB l = true) : (47 : UInt8) ∉ l := by
  unfold idB at h
  simp only [Bool.and_eq_true] at h
  intro hm
  have := List.all_eq_true.1 h.1 _ hm
  revert this; decide
def objL : List UInt8 := [111, 98, 106, 101, 99, 116, 115, 47]
theorem extD (s : ByteArray) (a b : Nat) : (s.extract a b).data.toList = (s.data.toList.drop a).take (b - a) := by
  rw [ByteArray.data_extract, Array.toList_extract, List.extract_eq_take_drop]
theorem pathB_list (x : ByteArray) : (pathB x).data.toList = objL ++ x.data.toList.take 2 ++ [47] ++ x.data.toList.drop 2 := by
  unfold pathB
  rw [ByteArray.data_append, ByteArray.data_append, ByteArray.data_append, Array.toList_append, Array.toList_append, Array.toList_append, extD, extD, List.drop_zero]
  congr 1
  rw [List.take_of_length_le (by rw [List.length_drop, len_size]; omega)]
/-- what the document takes of a path -/
def idOf (p : ByteArray) : ByteArray := p.extract 8 10 ++ p.extract 11 p.size
def dstep (p : ByteArray) : Option ByteArray := if p.size = 49 ∧ p.data.toList[10]? = some 47 ∧ idB (idOf p).data.toList = true then some (idOf p) else none
theorem idOf_list (p : ByteArray) : (idOf p).data.toList = (p.data.toList.drop 8).take 2 ++ p.data.toList.drop 11 := by
  unfold idOf
  rw [ByteArray.data_append, Array.toList_append, extD, extD, List.take_of_length_le (i := p.size - 11) (by rw [List.length_drop, len_size]; omega)]
theorem step_same {p : ByteArray} (hp : ∃ t, p.data.toList = objL ++ t) : lstep p = dstep p := by
  obtain ⟨t, ht⟩ := hp
  have h8 : p.data.toList.drop 8 = t := by rw [ht]; rfl
  have hns : (noSlash (p.extract 8 p.size)).data.toList = t.filter (· != 47) := by
    rw [noSlash_list, extD, List.take_of_length_le (by rw [List.length_drop, len_size]; omega), h8]
  unfold lstep
  by_cases hd : p.size = 49 ∧ p.data.toList[10]? = some 47 ∧ idB (idOf p).data.toList = true
  · obtain ⟨h1, h2, h3⟩ := hd
    have hl : t.length = 41 := by
      have : p.data.toList.length = 49 := by rw [len_size]; exact h1
      rw [ht, List.length_append] at this
      have h0 : objL.length = 8 := rfl
      omega
    have hi : (idOf p).data.toList = t.take 2 ++ t.drop 3 := by
      rw [idOf_list p, h8, ht, show (11 : Nat) = objL.length + 3 from rfl, List.drop_append]
      simp
    have ht2 : t = t.take 2 ++ 47 :: t.drop 3 := by
      have e : t[2]? = some 47 := by
        rw [ht, List.getElem?_append_right (by decide)] at h2
        exact h2
      have e2 : t.drop 2 = 47 :: t.drop 3 := by
        rw [List.drop_eq_getElem_cons (by omega)]
        rw [List.getElem?_eq_getElem (by omega)] at e
        rw [Option.some.inj e]
      rw [← e2, List.take_append_drop]
    have hc := idB_clean h3
    have hx : noSlash (p.extract 8 p.size) = idOf p := bytes_ext (by
      rw [hns, hi]
      rw [hi] at hc
      have hf : (t.take 2 ++ 47 :: t.drop 3).filter (· != 47) = t.take 2 ++ t.drop 3 := by
        rw [List.filter_append, List.filter_cons_of_neg (by simp)]
        rw [← List.filter_append]
        refine List.filter_eq_self.2 fun a ha => ?_
        have : a ≠ 47 := fun e => hc (e ▸ ha)
        simpa using this
      rw [← ht2] at hf
      exact hf)
    rw [hx]
    have hpath : pathB (idOf p) = p := bytes_ext (by
      rw [pathB_list, hi, ht]
      have l2 : (t.take 2).length = 2 := by rw [List.length_take]; omega
      rw [show (t.take 2 ++ t.drop 3).take 2 = t.take 2 from List.take_left' l2, show (t.take 2 ++ t.drop 3).drop 2 = t.drop 3 from List.drop_left' l2]
      rw [List.append_assoc, List.append_assoc]
      congr 1
      exact ht2.symm)
    unfold dstep
    rw [if_pos ⟨h3, hpath⟩, if_pos ⟨h1, h2, h3⟩]
  · unfold dstep
    rw [if_neg hd]
    by_cases hc : idB (noSlash (p.extract 8 p.size)).data.toList = true ∧ pathB (noSlash (p.extract 8 p.size)) = p
    · exfalso
      obtain ⟨h1, h2⟩ := hc
      generalize noSlash (p.extract 8 p.size) = x at *
      have h40 := idB_size h1
      have hpl := pathB_list x
      rw [h2] at hpl
      have hxl : x.data.toList.length = 40 := by rw [len_size]; exact h40
      have l2 : (x.data.toList.take 2).length = 2 := by rw [List.length_take]; omega
      have hs : p.size = 49 := by rw [← len_size, hpl]; simp [objL]; omega
      refine hd ⟨hs, ?_, ?_⟩
      · rw [hpl, List.append_assoc, List.getElem?_append_right (by rw [List.length_append, l2]; decide), List.length_append, l2]; rfl
      · have e : (idOf p).data.toList = x.data.toList := by
          rw [idOf_list p, hpl]
          have o8 : objL.length = 8 := rfl
          rw [show objL ++ x.data.toList.take 2 ++ [47] ++ x.data.toList.drop 2 = objL ++ (x.data.toList.take 2 ++ ([47] ++ x.data.toList.drop 2)) by simp only [List.append_assoc]]
          rw [show List.drop 8 (objL ++ (x.data.toList.take 2 ++ ([47] ++ x.data.toList.drop 2))) = x.data.toList.take 2 ++ ([47] ++ x.data.toList.drop 2) from List.drop_left' o8]
          rw [show List.drop 11 (objL ++ (x.data.toList.take 2 ++ ([47] ++ x.data.toList.drop 2))) = x.data.toList.drop 2 from by
            rw [show objL ++ (x.data.toList.take 2 ++ ([47] ++ x.data.toList.drop 2)) = (objL ++ x.data.toList.take 2 ++ [47]) ++ x.data.toList.drop 2 by simp only [List.append_assoc]]
            exact List.drop_left' (by rw [List.length_append, List.length_append, l2]; rfl)]
          rw [List.take_left' l2, List.take_append_drop]
        rw [e]; exact h1
    · rw [if_neg hc]
def dlist (ps : List ByteArray) : List ByteArray := ps.filterMap dstep
theorem dlist_next {ps : List ByteArray} {k : Nat} (hk : k < ps.length) : dlist (ps.take (k + 1)) = dlist (ps.take k) ++ (match dstep ps[k] with | some x => [x] | none => []) := by
  unfold dlist
  rw [List.take_add_one, List.getElem?_eq_getElem hk, List.filterMap_append]
  congr 1
  simp only [Option.toList_some, List.filterMap_cons, List.filterMap_nil]
  cases dstep ps[k] <;> rfl
theorem list_same {ps : List ByteArray} (h : ∀ p ∈ ps, ∃ t, p.data.toList = objL ++ t) : listL ps = dlist ps := by
  unfold listL dlist
  induction ps with
  | nil => rfl
  | cons p ps ih =>
    rw [List.filterMap_cons, List.filterMap_cons, step_same (h p (by simp)), ih fun q hq => h q (List.mem_cons_of_mem _ hq)]
end Go.Proofs.YtddoemeellbhaaaGreatDoor
namespace Go.Proofs.YtddoemeellbhaaaGreatDoor
open Go.RowKit

theorem OwnS.later {V W : World} {B : Nat} {v : Value} {l : List ByteArray} (h : OwnS V B v l) (hb : Below V.heap.size V W) : OwnS W B v l :=
  World.ownsRow.kept h (row := none) ⟨hb.os, hb.tape, hb.output, hb.size, fun k hk _ => hb.block k hk⟩ (by
    cases v.ownBlock with
    | none => exact .inl rfl
    | some k => exact .inr (by simp))
theorem own_drewD {V : World} {B e s : Nat} {v : Value} {n : Nat} {xs : List Value} (h : V.ownsRow B e s v n xs) : V.drew.ownsRow B e s v n xs := h
theorem cell_new_listD (w : World) (xs : List Value) (T : TypeId) : ∀ (j : Nat) u, xs[j]? = some u → ((w.alloc (.cells xs.toArray T)).drew).cell? ((⟨w.heap.size, 0, none⟩ : Addr).add j) = some u := by
  intro j u hj
  rw [Addr.add_lit]
  show (w.alloc (.cells xs.toArray T)).cell? _ = _
  rw [World.cell?_alloc_mark w _ T (0, 0) (0 + j), Nat.zero_add]
  simpa using hj
theorem step_append_own_at {P : Program} {ops : Array Oper} {o : Oper} {a : Act} {w : World} {K : Act → World → Prop} {Q : Exit → Act → World → Prop} {E : Prop}
    (hg : o.guard = none) (s x : Operand) (t : TypeId) (hop : o.op = Op.call { callee := Callee.builtin Builtin.append, args := #[s, x], argTypes := #[t, t] })
    (base : Nat) (e : TypeId) (i : TypeInfo) (z : Value) (size bytes : Nat) (h1 : P.underlying t = some (.slice e)) (h2 : P.info? e = some i) (h3 : i.zero = some z) (h4 : i.size = size) (h5 : i.bytes = bytes) (h6 : z.cells.size = size) (h7 : 0 < size)
    (v : Value) (n : Nat) (xs : List Value) (hs : a.eval s = v) (hown : w.ownsRow base e size v n xs)
    (ad : Addr) (m c : Nat) (news : List Value) (hx : a.eval x = .slice (some ad) m c) (hn : news.length = m * size) (hc : ∀ j u, news[j]? = some u → w.cell? (ad.add j) = some u) (h1c : ∀ u ∈ news, u.oneCell' = true)
    (b1 : n + m ≤ maxLen) (b2 : (n + m) * bytes ≤ 140737488355328) (b3 : base ≤ w.heap.size)
    (hK : ∀ v' w', w'.ownsRow base e size v' (n + m) (xs ++ news) → w.grownBy w' v.ownBlock → (v'.ownBlock = v.ownBlock ∨ v'.ownBlock = some w.heap.size) → K (a.put o.dst v') w') :
    if Region.wanted o (yielded ops a.tmps) = true then Oper.wp P o a w K Q else E := by
  have hw : Region.wanted o (yielded ops a.tmps) = true := by simp [Region.wanted, hg]
  rw [if_pos hw]
  obtain ⟨v', w', hrun, r1, r2, _, r3⟩ := run_append_own_at (P := P) w base t o.type e i z size bytes h1 h2 h3 h4 h5 h6 h7 v n xs hown ad m c news hn hc h1c b1 b2 b3
  unfold Oper.wp
  simp [execOp, hop, resolve, invoke, builtin, hs, hx, hrun, Result.andThen]
  exact hK v' w' r1 r2 r3
/-- the blocks made behind block A and ahead of w1's end stand as they stood -/
def KeptR (A : Nat) (w1 wr : World) : Prop := w1.heap.size ≤ wr.heap.size ∧ ∀ g, A < g → g < w1.heap.size → wr.heap[g]? = w1.heap[g]?
theorem KeptR.refl (A : Nat) (w1 : World) : KeptR A w1 w1 := ⟨Nat.le_refl _, fun _ _ _ => rfl⟩
theorem KeptR.below {A : Nat} {w1 wr V : World} (h : KeptR A w1 wr) (hb : Below wr.heap.size wr V) : KeptR A w1 V :=
  ⟨Nat.le_trans h.1 hb.size, fun g h1 h2 => (hb.block g (Nat.lt_of_lt_of_le h2 h.1)).trans (h.2 g h1 h2)⟩
theorem KeptR.alloc {A : Nat} {w1 wr : World} (h : KeptR A w1 wr) (o : Obj) : KeptR A w1 (wr.alloc o) := h.below ((Below.refl _ _).alloc (Nat.le_refl _) _)
theorem KeptR.grown {A : Nat} {w1 wr V : World} {row : Option Nat} (h : KeptR A w1 wr) (hg : wr.grownBy V row) (hr : ∀ k, row = some k → k = A ∨ w1.heap.size ≤ k) : KeptR A w1 V :=
  ⟨Nat.le_trans h.1 hg.size, fun g h1 h2 => (hg.block g (Nat.lt_of_lt_of_le h2 h.1) (fun e => by rcases hr g e.symm with h3 | h3 <;> omega)).trans (h.2 g h1 h2)⟩
theorem KeptR.drewN {A k : Nat} {w1 wr : World} (h : KeptR A w1 wr) (_ : k = k) : KeptR A w1 (wr.drewN k) := ⟨h.1, h.2⟩
def OwnAt (A : Nat) (w1 : World) (v : Value) : Prop := ∀ k, v.ownBlock = some k → k = A ∨ w1.heap.size ≤ k
theorem dstep_long {p : ByteArray} (h : ¬ p.size = 49) : dstep p = none := by unfold dstep; rw [if_neg fun x => h x.1]
set_option maxHeartbeats 16000000 in
set_option maxRecDepth 100000 in
theorem rlist_any (b c : Nat) (fs : List FileB) (w : World) (hb : b < w.heap.size) (hF : FilesAt w b 0 fs) (hl : fs.length ≤ 1000) :
    Calls Tryz.prog 21 #[.slice (some ⟨b, 0, none⟩) fs.length c] w fun e w' => SlRet w' w.heap.size (dlist (rundF fs objS)) e ∧ Below w.heap.size w w' := by
  have HO0 : Hid (OwnS (w.alloc (.cells #[] 9)) w.heap.size (.slice (some ⟨w.heap.size, 0, none⟩) 0 0) []) := World.ownsRow_made w #[] 0 (Nat.le_refl _) (Nat.zero_le _) (by simp)
  have HB0 : Hid (Below w.heap.size w (w.alloc (.cells #[] 9))) := (Below.refl _ _).alloc (Nat.le_refl _) _
  have HUN := hidM (runder_any b 0 c fs objS _ (Nat.lt_of_lt_of_le hb HB0.out.size) (hF.below HB0.out hb) (by omega))
  have hrl := rundF_len fs objS fs.length (Nat.le_refl _)
  rw [List.take_length] at hrl
  obtain ⟨i0, hi0, hz0, hz1, hz2⟩ := info_parts info9
  clear hF
  generalize rundF fs objS = ps at *
  unfold objS at HUN
  have HPL : Hid (ps.length ≤ 1000) := by unfold Hid; omega
  clear hrl
  go_enter Tryz.func21, Tryz.ntmps21
  go_wp2_with fail
  refine HUN.out.mono ?_
  rintro _ w1 ⟨⟨v1, ho1, rfl⟩, hb1⟩
  have HO1 := hidM (HO0.out.later hb1)
  have HB1 := hidM (HB0.out.trans (hb1.mono HB0.out.size))
  obtain ⟨a1, c1, rfl, hst⟩ := ho1.shape
  have HST : Hid (∀ W, KeptR w.heap.size w1 W → ∀ j (h : j < ps.length), ∃ g, a1 = some ⟨g, 0, none⟩ ∧ W.cell? ⟨g, j, none⟩ = some (.string ps[j])) := fun W hW j h => by
    obtain ⟨g, h1, h0, h2, h3⟩ := hst (fun hh => by rw [hh] at h; simp at h)
    exact ⟨g, h1, (World.cell?_of_block (a := ⟨g, j, none⟩) (hW.2 g (by simp at h0; omega) h2)).trans (h3 j h)⟩
  have hw1 : w.heap.size ≤ w1.heap.size := HB1.out.size
  have HV0 : Hid (OwnAt w.heap.size w1 (.slice (some ⟨w.heap.size, 0, none⟩) 0 0)) := fun k hk => by
    simp [Value.ownBlock] at hk; exact .inl hk.symm
  clear hb1 HUN ho1 hst HO0 HB0 hb
  go_wp2_with fail
  go_loopw [3, 10] (fun ov i wr => ∃ (k : Nat), k ≤ ps.length ∧ i = .int .i64 k ∧ (OwnS wr w.heap.size ov (dlist (ps.take k)) ∧ OwnAt w.heap.size w1 ov) ∧ KeptR w.heap.size w1 wr ∧ Below w.heap.size w wr) (fun _ i _ => ps.length - (intOf i).toNat)
  case atStart => exact ⟨0, Nat.zero_le _, rfl, ⟨HO1.out, HV0.out⟩, KeptR.refl _ _, HB1.out⟩
  case round =>
    obtain ⟨k, hk, rfl, ⟨hown, hat0⟩, hkp, hbr⟩ := hrel
    have HO := hidM hown
    have HAT := hidM hat0
    have HK := hidM hkp
    have HB := hidM hbr
    have hwr := hbr.size
    clear hown hat0 hkp hbr HO1 HB1 HV0
    by_cases hlt : k < ps.length
    · have kk : (k : Int) < (ps.length : Int) := by omega
      have hpl := HPL.out
      obtain ⟨g, rfl, y0⟩ := HST.out wr HK.out k hlt
      have HNX := hidM (dlist_next hlt)
      have hdl : (dlist (ps.take k)).length ≤ 1000 := by
        have h1 : (dlist (ps.take k)).length ≤ (ps.take k).length := List.length_filterMap_le _ _
        rw [List.length_take] at h1
        have := HPL.out
        omega
      have HMK := hidM (fun (V : World) (x : Value) y (h : V.ownsRow w.heap.size 9 1 x ((dlist (ps.take k)).length + 1) (strsV (dlist (ps.take k)) ++ [.string y])) => OwnS.push h)
      have HOB : Hid (wr.ownsRow w.heap.size 9 1 u3 (dlist (ps.take k)).length (strsV (dlist (ps.take k)))) := HO.out
      generalize dlist (ps.take k) = dk at *
      generalize strsV dk = sv at *
      obtain ⟨ln, hln⟩ : ∃ ln, dk.length = ln := ⟨_, rfl⟩
      rw [hln] at HMK HOB hdl
      clear hln
      generalize ps[k] = p at *
      by_cases h49 : p.size = 49
      · have i1 : ((p.size : Int) == 49) = true := by simp; omega
        have i2 : (10 : Int) < (p.size : Int) := by omega
        have i3 : (10 : Int) ≤ (p.size : Int) := by omega
        have i4 : (11 : Int) ≤ (p.size : Int) := by omega
        have h10 : 10 < p.size := by omega
        have hg10 : p.data.toList[10]? = some p[10] := by rw [List.getElem?_eq_getElem (by rw [len_size]; omega)]; rfl
        by_cases h47 : p[10].toNat = 47
        · have b47 : (p[10].toNat : Int) = 47 := by omega
          have hq : p[10] = 47 := UInt8.toNat_inj.1 h47
          obtain ⟨A, hA⟩ : ∃ A, p.extract 8 10 = A := ⟨_, rfl⟩
          obtain ⟨B, hB⟩ : ∃ B, p.extract 11 p.size = B := ⟨_, rfl⟩
          obtain ⟨X, hX⟩ : ∃ X, A ++ B = X := ⟨_, rfl⟩
          have hIX : idOf p = X := by rw [← hX, ← hA, ← hB]; rfl
          have zA : A.size = 2 := by rw [← hA, ByteArray.size_extract]; omega
          have zB : B.size = 38 := by rw [← hB, ByteArray.size_extract]; omega
          have n1 : ¬ 9223372036854775807 < A.size + B.size := by omega
          have zX : X.size = 40 := by rw [← hX, ByteArray.size_append]; omega
          have HID := hidM (fun V => rid9_any X V (by rw [zX]; decide))
          have HDS : Hid (dstep p = if idB X.data.toList = true then some X else none) := by
            unfold Hid dstep
            rw [hIX]
            by_cases h : idB X.data.toList = true
            · rw [if_pos h, if_pos ⟨h49, by rw [hg10, hq], h⟩]
            · rw [if_neg h, if_neg (fun x => h x.2.2)]
          clear hq hg10 hIX h47 h49
          cases hid : idB X.data.toList with
          | false =>
            rw [hid] at HID HDS
            rw [HDS.out] at HNX
            simp only [Bool.false_eq_true, if_false, List.append_nil] at HNX
            clear hid HDS HMK HOB
            go_wp2_with fail
            go_quiet ((go_at_call 15; exact Calls.quiet_of_same (HID.out _)))
            go_wp2_with fail
            go_roundw
            case rel => exact ⟨k + 1, by omega, by go_num, ⟨by rw [HNX.out]; exact HO.out, HAT.out⟩, HK.out.drewN rfl, below_drewN HB.out _⟩
            case measure => (show ps.length - ((k : Int) + 1).toNat < ps.length - ((k : Int)).toNat); omega
          | true =>
            rw [hid] at HID HDS
            rw [HDS.out] at HNX
            simp only [if_true] at HNX
            clear hid HDS
            go_wp2_with fail
            go_quiet ((go_at_call 15; exact Calls.quiet_of_same (HID.out _)))
            clear HID
            have HATN : Hid (∀ (V : World) (o : Obj) v', w1.heap.size ≤ V.heap.size → (v'.ownBlock = u3.ownBlock ∨ v'.ownBlock = some (V.alloc o).drew.heap.size) → OwnAt w.heap.size w1 v') := fun V o v' hV hat j hj => by
              rcases hat with h | h
              · exact HAT.out j (h ▸ hj)
              · rw [h] at hj
                have : j = (V.alloc o).heap.size := (Option.some.inj hj).symm
                simp at this
                omega
            have HKq := hidM (HK.out.drewN (k := nq) rfl)
            have HBq := hidM (below_drewN HB.out nq)
            have HOq : Hid ((wr.drewN nq).ownsRow w.heap.size 9 1 u3 ln sv) := HOB.out
            have hwq : w.heap.size ≤ (wr.drewN nq).heap.size := hwr
            clear HO HOB HK HB hwr HST y0
            generalize wr.drewN nq = wq at *
            go_wp2_with fail
            go_region_law (refine step_append_own_at rfl _ _ 43 rfl w.heap.size 9 i0 (.string .empty) 1 16 Tryz.underlying43 hi0 hz0 hz1 hz2 rfl (by decide) u3 ln sv rfl (by exact own_drewD (World.ownsRow.alloc HOq.out _)) ⟨wq.heap.size, 0, none⟩ 1 1 [.string X] (by rfl) rfl (by exact cell_new_listD wq [.string X] 9) (by intro u hu; simp only [List.mem_cons, List.not_mem_nil, or_false] at hu; subst hu; rfl) (by unfold maxLen; omega) (by omega) (by show w.heap.size ≤ (wq.alloc _).heap.size; simp; omega) ?_; intro v' w5 hown' hgrow hat; have HO5 := hidM (HMK.out _ _ _ hown'); have HAT5 : Hid (OwnAt w.heap.size w1 v') := HATN.out wq _ v' HKq.out.1 hat; have HK5 : Hid (KeptR w.heap.size w1 w5) := ((HKq.out.alloc _).drewN (k := 1) rfl).grown hgrow HAT.out; have HB5 : Hid (Below w.heap.size w w5) := (below_drewN (HBq.out.alloc hwq _) 1).grown hgrow (by show w.heap.size ≤ (wq.alloc _).heap.size; simp; omega) (fun g hg => (HOq.out.lt g hg).1); clear hown' hgrow hat)
            go_wp2_with fail
            go_roundw
            case rel => exact ⟨k + 1, by omega, by go_num, ⟨by rw [HNX.out]; exact HO5.out, HAT5.out⟩, HK5.out, HB5.out⟩
            case measure => (show ps.length - ((k : Int) + 1).toNat < ps.length - ((k : Int)).toNat); omega
        · have b47 : ¬ (p[10].toNat : Int) = 47 := by omega
          have hd : dstep p = none := by
            unfold dstep
            rw [if_neg]
            rintro ⟨_, h2, _⟩
            rw [hg10] at h2
            exact h47 (by rw [Option.some.inj h2]; rfl)
          rw [hd] at HNX
          simp only [List.append_nil] at HNX
          clear hd hg10 h47 h49 HMK HOB
          go_wp2_with fail
          go_quiet (fail)
          go_wp2_with fail
          go_roundw
          case rel => exact ⟨k + 1, by omega, by go_num, ⟨by rw [HNX.out]; exact HO.out, HAT.out⟩, HK.out.drewN rfl, below_drewN HB.out _⟩
          case measure => (show ps.length - ((k : Int) + 1).toNat < ps.length - ((k : Int)).toNat); omega
      · have i1 : ((p.size : Int) == 49) = false := by simp; omega
        rw [dstep_long h49] at HNX
        simp only [List.append_nil] at HNX
        clear h49 HMK HOB
        go_wp2_with fail
        go_quiet (fail)
        go_wp2_with fail
        go_roundw
        case rel => exact ⟨k + 1, by omega, by go_num, ⟨by rw [HNX.out]; exact HO.out, HAT.out⟩, HK.out.drewN rfl, below_drewN HB.out _⟩
        case measure => (show ps.length - ((k : Int) + 1).toNat < ps.length - ((k : Int)).toNat); omega
    · obtain rfl : k = ps.length := by omega
      rw [List.take_length] at HO
      go_wp2_with fail
      go_ret
      exact ⟨⟨_, HO.out, rfl⟩, HB.out⟩
end Go.Proofs.YtddoemeellbhaaaGreatDoor
