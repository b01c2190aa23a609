/-
  The document's words of a line, and its lines in memory.
-/
import Derived.Test.YtgkjmmfpbcgmgaaDoorTokW
namespace Go.Proofs.YtgkjmmfpbcgmgaaDoor
open Go.RowKit

/-- texts in a row of memory, from some place on -/
def WIn (w : World) (v : Value) (l : List ByteArray) : Prop := ∃ a c, v = .slice a l.length c ∧ (l ≠ [] → ∃ g off cur, a = some ⟨g, off, none⟩ ∧ w.heap[g]? = some (.cells cur 9 (0, 0)) ∧ l.length ≤ c ∧ ∀ j (h : j < l.length), cur[off + j]? = some (.string l[j]))
theorem WIn.keep {w W : World} {v : Value} {l : List ByteArray} (h : WIn w v l) (hb : ∀ (g : Nat) (cur : Array Value), w.heap[g]? = some (Obj.cells cur 9 (0, 0)) → W.heap[g]? = w.heap[g]?) : WIn W v l := by
  obtain ⟨a, c, h1, h2⟩ := h
  refine ⟨a, c, h1, fun hne => ?_⟩
  obtain ⟨g, off, cur, e1, e2, e3, e4⟩ := h2 hne
  exact ⟨g, off, cur, e1, by rw [hb g cur e2]; exact e2, e3, e4⟩
theorem WIn.below {w W : World} {v : Value} {l : List ByteArray} (h : WIn w v l) (hb : Below w.heap.size w W) : WIn W v l := h.keep fun g _ hg => hb.block g (lt_of_some hg)
theorem OwnS.win {w : World} {B : Nat} {v : Value} {l : List ByteArray} (h : OwnS w B v l) : WIn w v l := by
  rcases h.2 with ⟨hnil, hn⟩ | ⟨g, cap, cur, rfl, hbase, hbk, h1, h2, h3, h4⟩
  · exact ⟨none, 0, by rw [hnil, hn], fun hne => absurd (List.eq_nil_of_length_eq_zero hn) hne⟩
  · refine ⟨_, cap, rfl, fun _ => ⟨g, 0, cur, rfl, hbk, h1, fun j hj => ?_⟩⟩
    have : (cur.toList.take (l.length * 1))[j]? = (strsV l)[j]? := by rw [h4]
    rw [List.getElem?_take_of_lt (by omega)] at this
    rw [Nat.zero_add, ← Array.getElem?_toList, this]
    simp [strsV, hj]
theorem WIn.cell {w : World} {v : Value} {l : List ByteArray} (h : WIn w v l) (hne : l ≠ []) : ∃ g off c, v = .slice (some ⟨g, off, none⟩) l.length c ∧ g < w.heap.size ∧ l.length ≤ c ∧ ∀ j (hj : j < l.length), w.cell? ⟨g, off + j, none⟩ = some (.string l[j]) := by
  obtain ⟨a, c, h1, h2⟩ := h
  obtain ⟨g, off, cur, rfl, e2, e3, e4⟩ := h2 hne
  refine ⟨g, off, c, h1, lt_of_some e2, e3, fun j hj => ?_⟩
  rw [cell_of_row w g _ _ 9 (0, 0) e2]
  exact e4 j hj
/-- what stands behind the first text -/
theorem WIn.tail {w : World} {g off c : Nat} {x : ByteArray} {l : List ByteArray} (h : WIn w (.slice (some ⟨g, off, none⟩) (l.length + 1) c) (x :: l)) : WIn w (.slice (some ⟨g, off + 1, none⟩) l.length (c - 1)) l := by
  obtain ⟨a, c', h1, h2⟩ := h
  obtain ⟨g', off', cur, e1, e2, e3, e4⟩ := h2 (by simp)
  injection h1 with q1 q2 q3
  rw [e1] at q1
  injection q1 with q1
  injection q1 with q1 q4
  subst q1 q3 q4
  refine ⟨_, _, rfl, fun _ => ⟨g, off + 1, cur, rfl, e2, by simp at e3; omega, fun j hj => ?_⟩⟩
  have := e4 (j + 1) (by simp; omega)
  rw [show off + 1 + j = off + (j + 1) by omega, this]
  simp
def wordV (t : To) : ByteArray := mkB t.2
theorem txt_list (t : To) (h : t.1 = 3 ∨ t.1 = 4 ∨ t.1 = 5) : (txtT t).toList = if t.1 = 5 then 46 :: t.2 else if t.1 = 3 then [40] else [41] := by
  rw [Lib.toList_data]
  unfold txtT
  rcases h with h | h | h <;> simp [h]
theorem txt_word (t : To) (h : t.1 = 5) : 1 ≤ (txtT t).size ∧ (txtT t).extract 1 (txtT t).size = wordV t := by
  have hl : (txtT t).data.toList = 46 :: t.2 := by unfold txtT; simp [h]
  refine ⟨by rw [← sl_len, hl]; simp, ?_⟩
  apply bytes_ext
  rw [ext_tail, hl]
  rfl
def WordsPost (T : List To) (w : World) (e : Ending) (w' : World) : Prop :=
  Below w.heap.size w w' ∧ if T.any (fun t => t.1 != 5) = true then e = .returned (.tuple #[.slice none 0 0, .bool false]) else ∃ v, e = .returned (.tuple #[v, .bool true]) ∧ OwnS w' w.heap.size v (T.map wordV)
set_option maxHeartbeats 4000000 in
set_option maxRecDepth 100000 in
theorem words_any (g n c : Nat) (T : List To) (w : World) (hn : n = T.length) (hN : n ≤ 100000) (hk : ∀ t ∈ T, t.1 = 3 ∨ t.1 = 4 ∨ t.1 = 5) (hg : g < w.heap.size) (hc : ∀ j (h : j < T.length), w.cell? ⟨g, j, none⟩ = some (.string (txtT T[j]))) :
    Calls Tryd.prog 24 #[.slice (some ⟨g, 0, none⟩) n c] w fun e w' => WordsPost T w e w' := by
  obtain ⟨i0, hi, hz0, hz1, hz2⟩ := info_parts info9
  have HN := hidM hn
  have HK := hidM hk
  have HC := hidM hc
  have HG := hidM hg
  clear hn hk hc hg
  have HBAD : Hid (∀ e W (k : Nat) (hk : k < T.length), T[k].1 ≠ 5 → Below w.heap.size w W → e = .returned (.tuple #[.slice none 0 0, .bool false]) → WordsPost T w e W) := by
    intro e W k hk h5 hb he
    have : T.any (fun t => t.1 != 5) = true := List.any_eq_true.2 ⟨T[k], List.getElem_mem _, by simpa using h5⟩
    unfold WordsPost
    rw [if_pos this]
    exact ⟨hb, he⟩
  have HGOOD : Hid (∀ e W v, (∀ j (h : j < T.length), T[j].1 = 5) → OwnS W w.heap.size v (T.map wordV) → Below w.heap.size w W → e = .returned (.tuple #[v, .bool true]) → WordsPost T w e W) := by
    intro e W v h5 ho hb he
    have : T.any (fun t => t.1 != 5) = false := by
      rw [List.any_eq_false]
      intro t ht
      obtain ⟨j, hj, rfl⟩ := List.getElem_of_mem ht
      simp [h5 j hj]
    unfold WordsPost
    rw [if_neg (by rw [this]; simp)]
    exact ⟨hb, v, he, ho⟩
  go_enter Tryd.func24, Tryd.ntmps24
  go_upto_region 2 with fail
  have HO0 := hidM (own_none w)
  have HB0 : Hid (Below w.heap.size w (w.alloc (.cells #[] 9))) := (Below.refl _ _).alloc (Nat.le_refl _) _
  generalize w.alloc (.cells #[] 9) = W0 at *
  go_wp2_with fail
  go_loopw [4, 10] (fun v4 v10 wr => ∃ k : Nat, k ≤ n ∧ v10 = .int .i64 (k : Int) ∧ (∀ j (h : j < T.length), j < k → T[j].1 = 5) ∧ OwnS wr w.heap.size v4 ((T.take k).map wordV) ∧ Below w.heap.size w wr) (fun _ v10 _ => n - (intOf v10).toNat)
  case atStart => exact ⟨0, Nat.zero_le _, rfl, fun j _ h => by omega, HO0.out, HB0.out⟩
  case round =>
    obtain ⟨k, hkn, rfl, h5, hown, hbr⟩ := hrel
    obtain ⟨PB, hPB⟩ : ∃ PB, PB = (T.take k).map wordV := ⟨_, rfl⟩
    rw [← hPB] at hown
    have hPBl : PB.length ≤ k := by rw [hPB]; simp; omega
    have HPB := hidM hPB
    have H5 := hidM h5
    have HO := hidM hown
    have HB := hidM hbr
    have hsz := hbr.size
    clear hown hbr h5 hPB HO0 HB0
    by_cases hlt : k < n
    · have kk : (k : Int) < (n : Int) := by omega
      have hkT : k < T.length := by rw [← HN.out]; exact hlt
      have hcell := (HB.out.cell (p := ⟨g, k, none⟩) HG.out).trans (HC.out k hkT)
      have hkd := HK.out T[k] (List.getElem_mem _)
      have hxl := txt_list T[k] hkd
      by_cases hw5 : T[k].1 = 5
      · obtain ⟨x1, x2⟩ := txt_word T[k] hw5
        rw [if_pos hw5] at hxl
        have b1 : ((txtT T[k]).toList == [40]) = false := by rw [hxl]; rfl
        have b2 : ((txtT T[k]).toList == [41]) = false := by rw [hxl]; rfl
        have H5n : Hid (∀ j (h : j < T.length), j < k + 1 → T[j].1 = 5) := fun j h hj => by
          by_cases e : j = k
          · subst e; exact hw5
          · exact H5.out j h (by omega)
        have HNX : Hid ((T.take (k + 1)).map wordV = PB ++ [wordV T[k]]) := by unfold Hid; rw [HPB.out, List.take_succ_eq_append_getElem hkT, List.map_append]; rfl
        clear hxl hkd hw5
        generalize wordV T[k] = Y at *
        generalize txtT T[k] = X at *
        have x3 : (1 : Int) ≤ (X.size : Int) := by omega
        go_wp2_with (at_builtin; refine wpList_append_own _ rfl _ _ 35 rfl w.heap.size 9 i0 (.string .empty) 1 16 Tryd.underlying35 hi hz0 hz1 hz2 rfl (by decide) _ _ _ rfl (World.ownsRow.alloc HO.out _) ⟨wr.heap.size, 0, none⟩ 1 1 [.string Y] ?d0 rfl ?d1 ?d2 ?d3 ?d4 ?d5 ?_)
        try (case d0 => rfl)
        try (case d1 => exact cell_new_at _ _ _ _ rfl)
        case d2 => first | (intro u hu; simp at hu; subst hu; rfl) | rfl
        case d3 => unfold maxLen; omega
        case d4 => omega
        case d5 => first | (simp; omega) | omega | trivial
        intro v' w2 hown' hgrow _
        have HO2 := hidM (OwnS.push hown')
        have HB3 := hidM (OwnS.below HO.out HB.out hsz hgrow)
        clear hown' hgrow
        go_wp2_with fail
        go_roundw
        case rel => exact ⟨k + 1, by omega, by go_num, H5n.out, by rw [HNX.out]; exact HO2.out, HB3.out⟩
        case measure => (show n - ((k : Int) + 1).toNat < n - ((k : Int)).toNat); omega
      · have HBK := hidM (fun e W => HBAD.out e W k hkT hw5)
        rw [if_neg hw5] at hxl
        clear HBAD HGOOD
        rcases hkd with h3 | h4 | h5
        · rw [if_pos h3] at hxl
          have b1 : ((txtT T[k]).toList == [40]) = true := by rw [hxl]; rfl
          clear hxl hw5 h3
          generalize txtT T[k] = X at *
          go_wp2_with fail
          go_ret2
          exact HBK.out _ _ HB.out rfl
        · rw [if_neg (by omega)] at hxl
          have b1 : ((txtT T[k]).toList == [40]) = false := by rw [hxl]; rfl
          have b2 : ((txtT T[k]).toList == [41]) = true := by rw [hxl]; rfl
          clear hxl hw5 h4
          generalize txtT T[k] = X at *
          go_wp2_with fail
          go_ret2
          exact HBK.out _ _ HB.out rfl
        · exact absurd h5 hw5
    · have kk : ¬ (k : Int) < (n : Int) := by omega
      have HA : Hid (∀ j (h : j < T.length), T[j].1 = 5) := fun j h => H5.out j h (by rw [← HN.out] at h; omega)
      have HPA : Hid (PB = T.map wordV) := by unfold Hid; rw [HPB.out, List.take_of_length_le (by rw [← HN.out]; omega)]
      go_wp2_with fail
      go_ret2
      exact HGOOD.out _ _ _ HA.out (by rw [← HPA.out]; exact HO.out) HB.out rfl
theorem cut_lines : ∀ (n : Nat) (l : List UInt8), l.length ≤ n → cutL 10 l = linesL l
  | 0, [], _ => by rw [cutL_one (by simp), lines_one _ (by simp)]
  | n + 1, l, h => by
    rcases split_10 l with h1 | ⟨a, b, rfl, ha⟩
    · rw [cutL_one h1, lines_one l h1]
    · rw [cutL_app ha, lines_app a b ha, cut_lines n b (by simp at h; omega)]
theorem lines_no : ∀ (n : Nat) (l : List UInt8), l.length ≤ n → ∀ x ∈ linesL l, 10 ∉ x ∧ x.length ≤ l.length
  | 0, [], _ => by intro x hx; simp [linesL] at hx; subst hx; simp
  | n + 1, l, h => by
    rcases split_10 l with h1 | ⟨a, b, rfl, ha⟩
    · rw [lines_one l h1]; intro x hx; simp at hx; subst hx; exact ⟨h1, Nat.le_refl _⟩
    · rw [lines_app a b ha]
      intro x hx
      rcases List.mem_cons.1 hx with rfl | hx
      · exact ⟨ha, by simp⟩
      · have := lines_no n b (by simp at h; omega) x hx
        exact ⟨this.1, by simp; omega⟩
theorem info38x : (Tryd.prog.info? 38).map (fun i => (i.zero, i.size, i.bytes)) = some (some (.agg #[.string .empty, .slice none 0 0, .int .i64 0]), 3, 48) := by kernel_rfl
/-- the document's lines in memory -/
def RLines (w : World) (base : Nat) (lv : Value) (ls : List Ln) : Prop :=
  ∃ wvs, w.ownsRow base 38 3 lv ls.length (flatL ls wvs) ∧ wvs.length = ls.length ∧ ∀ i, i < ls.length → WIn w (wvs.getD i undef) ((ls.getD i noL).2.1.map mkB)
theorem RLines.keep {w W : World} {B : Nat} {lv : Value} {ls : List Ln} (h : RLines w B lv ls) (hb : Below w.heap.size w W) : RLines W B lv ls := by
  obtain ⟨wvs, h1, h2, h3⟩ := h
  exact ⟨wvs, own_blocks h1 fun g _ hg => hb.block g hg, h2, fun i hi => (h3 i hi).below hb⟩
theorem RLines.push {w w5 : World} {B : Nat} {lv lv' : Value} {ls : List Ln} {wvs : List Value} (h1 : w.ownsRow B 38 3 lv ls.length (flatL ls wvs)) (h2 : wvs.length = ls.length) (hw : ∀ i, i < ls.length → WIn w (wvs.getD i undef) ((ls.getD i noL).2.1.map mkB)) {l : Ln} {wv : Value} (hl : WIn w wv (l.2.1.map mkB))
    (h3 : w5.ownsRow B 38 3 lv' (ls.length + 1) (flatL ls wvs ++ [strV l.1, wv, .int .i64 (l.2.2 : Int)])) (h4 : w.grownBy w5 lv.ownBlock) : RLines w5 B lv' (ls ++ [l]) := by
  have hW : ∀ (g : Nat) (cur : Array Value), w.heap[g]? = some (Obj.cells cur 9 (0, 0)) → w5.heap[g]? = w.heap[g]? := by
    intro g cur hg
    refine h4.block g (lt_of_some hg) ?_
    intro e
    rcases h1.2 with ⟨q1, _⟩ | ⟨g', cap, cur', q1, hB, hg', _⟩
    · rw [q1] at e; simp [Value.ownBlock] at e
    · rw [q1] at e
      simp [Value.ownBlock] at e
      subst e
      rw [hg'] at hg
      simp at hg
  refine ⟨wvs ++ [wv], by rw [List.length_append, List.length_singleton, flatL_app _ _ _ _ h2]; exact h3, by simp [h2], fun i hi => ?_⟩
  by_cases h1 : i < ls.length
  · have e1 : (wvs ++ [wv]).getD i undef = wvs.getD i undef := by simp [List.getD_eq_getElem?_getD, List.getElem?_append, h2, h1]
    have e2 : (ls ++ [l]).getD i noL = ls.getD i noL := by simp [List.getD_eq_getElem?_getD, List.getElem?_append, h1]
    rw [e1, e2]
    exact (hw i h1).keep hW
  · have e0 : i = ls.length := by simp at hi; omega
    have e1 : (wvs ++ [wv]).getD i undef = wv := by simp [List.getD_eq_getElem?_getD, h2, e0]
    have e2 : (ls ++ [l]).getD i noL = l := by simp [List.getD_eq_getElem?_getD, e0]
    rw [e1, e2]
    exact hl.keep hW
end Go.Proofs.YtgkjmmfpbcgmgaaDoor
