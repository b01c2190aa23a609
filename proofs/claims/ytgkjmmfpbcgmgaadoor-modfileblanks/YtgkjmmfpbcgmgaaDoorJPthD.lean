/-
  Module files: Parse.
  Texts one behind the other: tokens, rows and directives of both.
  Module files: FilePath, Module, and what the document fixes.
-/
import Derived.Test.YtgkjmmfpbcgmgaaDoorJLexE
import Derived.Test.YtgkjmmfpbcgmgaaDoorJShelf
namespace Go.Proofs.YtgkjmmfpbcgmgaaDoor
open Go.RowKit

theorem row_words : ∀ (f : Nat) (l : List UInt8) ws b r, l.length < f → rowG f l ws b = some r → r.1.length ≤ ws.length + l.length ∧ (r.2.1 = b ∨ r.2.1 = 3 ∨ r.2.1 = 4)
  | 0, l, _, _, _, h, _ => absurd h (by omega)
  | f + 1, l, ws, b, r, hf, h => by
    rw [rowG] at h
    split at h
    · simp at h; subst h; exact ⟨by simp, .inl rfl⟩
    · rename_i h1
      split at h
      · simp at h; subst h; exact ⟨by simp, .inl rfl⟩
      · rename_i h2
        split at h
        · simp at h
        · rename_i h6
          have hl := tok_less h1 (by omega)
          have hk := tok_kind l
          split at h
          · obtain ⟨i1, i2⟩ := row_words f _ _ _ r (by omega) h
            exact ⟨by simp at i1; omega, i2⟩
          · obtain ⟨i1, i2⟩ := row_words f _ _ _ r (by omega) h
            exact ⟨by omega, by omega⟩
/-- directives that lie in memory from 'base' on -/
def LinesAt (w : World) (base : Nat) (lv : Value) (ls : List Ln) : Prop :=
  ∃ wvs, w.ownsRow base 37 3 lv ls.length (flatL ls wvs) ∧ wvs.length = ls.length ∧ ∀ i, i < ls.length → OwnW w 0 (wvs.getD i undef) (ls.getD i ([], [], 0)).2.1
theorem lines_none (w : World) (base : Nat) : LinesAt w base (.slice none 0 0) [] := ⟨[], ⟨rfl, .inl ⟨rfl, rfl⟩⟩, rfl, fun i hi => by simp at hi⟩
theorem ownsRow_mono {w : World} {A B : Nat} {e : TypeId} {z n : Nat} {v : Value} {xs : List Value} (h : w.ownsRow B e z v n xs) (hA : A ≤ B) : w.ownsRow A e z v n xs := by
  obtain ⟨hl, h2⟩ := h
  refine ⟨hl, ?_⟩
  rcases h2 with h2 | ⟨g, cap, cur, rfl, hB, hr⟩
  · exact .inl h2
  · exact .inr ⟨g, cap, cur, rfl, by omega, hr⟩
def ParPost (s : ByteArray) (w : World) (e : Ending) (w' : World) : Prop :=
  ∃ lv, e = .returned (.tuple #[lv, .int .i64 ((parL s.data.toList).2.1 : Int), .int .i64 ((parL s.data.toList).2.2 : Int)]) ∧ LinesAt w' w.heap.size lv (parL s.data.toList).1 ∧ Below w.heap.size w w'
theorem size44 : (Tryd.prog.info? 44).map (·.size) = some 2 := by kernel_rfl
theorem zero44 (w : World) : (zeroValue 44).run Tryd.prog w = .ok (.agg #[.string ⟨#[]⟩, .int .i64 0]) w := by kernel_rfl
theorem zero46 (w : World) : (zeroValue 46).run Tryd.prog w = .ok (.agg #[.slice none 0 0, .string ⟨#[]⟩]) w := by kernel_rfl
theorem parG_none {f : Nat} {l blk : List UInt8} {out : List Ln} {k : Nat} (hf : l.length < f) (h : rowL l = none) : parG f l blk out k = ([], k, 3) := by
  cases f with
  | zero => omega
  | succ f => rw [parG, h]
theorem parG_bad {f : Nat} {l blk : List UInt8} {out : List Ln} {k : Nat} {ws : List (List UInt8)} {b : Nat} {last : Bool} {t : List UInt8} (hf : l.length < f) (h : rowL l = some (ws, b, last, t)) (ht : takeD blk ws b k = none) : parG f l blk out k = ([], k, 3) := by
  cases f with
  | zero => omega
  | succ f => rw [parG, h]; simp only [ht]
theorem parG_last {f : Nat} {l blk blk' : List UInt8} {out x : List Ln} {k : Nat} {ws : List (List UInt8)} {b : Nat} {t : List UInt8} (hf : l.length < f) (h : rowL l = some (ws, b, true, t)) (ht : takeD blk ws b k = some (blk', x)) : parG f l blk out k = if blk' = [] then (out ++ x, 0, 0) else ([], k, 3) := by
  cases f with
  | zero => omega
  | succ f => rw [parG, h]; simp only [ht]; simp
theorem parG_next {f : Nat} {l blk blk' : List UInt8} {out x : List Ln} {k : Nat} {ws : List (List UInt8)} {b : Nat} {t : List UInt8} (hf : l.length < f) (h : rowL l = some (ws, b, false, t)) (ht : takeD blk ws b k = some (blk', x)) : parG f l blk out k = parG (f - 1) t blk' (out ++ x) (k + 1) ∧ t.length < f - 1 ∧ t.length < l.length := by
  obtain ⟨m, h1, h2, h3⟩ := row_suf _ _ _ _ _ (Nat.lt_succ_self _) h
  simp only at h2 h3
  have hl : t.length < l.length := by
    rw [h3, List.length_drop]
    simp at h2
    omega
  cases f with
  | zero => omega
  | succ f => rw [parG, h]; simp only [ht]; exact ⟨by simp, by omega, hl⟩
theorem take_len {blk : List UInt8} {ws : List (List UInt8)} {b k : Nat} {blk' : List UInt8} {x : List Ln} (h : takeD blk ws b k = some (blk', x)) : x.length ≤ 1 := by
  unfold takeD at h
  repeat' split at h
  all_goals first
    | (simp at h; done)
    | (simp only [Option.some.injEq, Prod.mk.injEq] at h; rw [← h.2]; simp)

set_option maxHeartbeats 4000000 in
set_option maxRecDepth 100000 in
theorem parse_any (s : ByteArray) (w : World) (hs : s.size ≤ 65536) :
    Calls Tryd.prog 9 #[.string s] w fun e w' => ParPost s w e w' := by
  have hsz : ¬ (65536 : Int) < (s.size : Int) := by omega
  obtain ⟨P, hP⟩ : ∃ P, P = parL s.data.toList := ⟨_, rfl⟩
  have HPP := hidM hP
  clear hP
  have HFIN : Hid (∀ lv ls a er V, P = (ls, a, er) → LinesAt V w.heap.size lv ls → Below w.heap.size w V → ∀ e, e = .returned (.tuple #[lv, .int .i64 (a : Int), .int .i64 (er : Int)]) → ParPost s w e V) := by
    intro lv ls a er V h1 h2 h3 e he
    unfold ParPost
    rw [← HPP.out, h1]
    exact ⟨lv, he, h2, h3⟩
  have hz4 := zero44
  have hz6 := zero46
  have hz9 := zero49
  have HN0 : Hid ((w.alloc (.cells #[.string ⟨#[]⟩, .int .i64 0] 44)).heap[w.heap.size]? = some (.cells #[.string ⟨#[]⟩, .int .i64 0] 44 (0, 0))) := heap_alloc_new w _
  go_enter Tryd.func9, Tryd.ntmps9
  go_upto_region 4 with (refine wpList_store_row rfl 44 (.tmp 5) (.tmp 13) rfl w.heap.size #[.string s, .int .i64 0] rfl rfl 44 #[.string ⟨#[]⟩, .int .i64 0] HN0.out size44 rfl (by simp [Value.oneCell']) ?_)
  have HB0 : Hid (RBox ((w.alloc (.cells #[.string ⟨#[]⟩, .int .i64 0] 44)).setRow w.heap.size #[.string s, .int .i64 0]) w.heap.size s 0) := setRow_heap _ _ _ _ 44 _ HN0.out
  have HL0 : Hid (Below w.heap.size w ((w.alloc (.cells #[.string ⟨#[]⟩, .int .i64 0] 44)).setRow w.heap.size #[.string s, .int .i64 0])) :=
    ((Below.refl _ w).alloc (Nat.le_refl _) _).trans ⟨rfl, rfl, rfl, by simp, fun k hk => setRow_other _ _ k _ (by omega)⟩
  have HE0 : Hid (((w.alloc (.cells #[.string ⟨#[]⟩, .int .i64 0] 44)).setRow w.heap.size #[.string s, .int .i64 0]).heap.size = w.heap.size + 1) := by unfold Hid; simp
  generalize (w.alloc (.cells #[.string ⟨#[]⟩, .int .i64 0] 44)).setRow w.heap.size #[.string s, .int .i64 0] = W0 at *
  clear HN0
  obtain ⟨E, hE⟩ : ∃ E, E = W0.heap.size := ⟨_, rfl⟩
  have HBE : Hid (w.heap.size < E) := by unfold Hid; rw [hE, HE0.out]; omega
  have HBL1 : Hid (Below W0.heap.size W0 (W0.alloc (.cells #[.slice none 0 0, .string ⟨#[]⟩] 46))) := (Below.refl _ W0).alloc (Nat.le_refl _) _
  have HD0 : Hid (DirX (W0.alloc (.cells #[.slice none 0 0, .string ⟨#[]⟩] 46)) E [] [] (.slice none 0 0) []) :=
    ⟨by rw [hE]; exact heap_alloc_new W0 _, ⟨rfl, .inl ⟨rfl, rfl⟩⟩, rfl, fun i hi => by simp at hi⟩
  have HB1 := hidM (HB0.out.below HBL1.out HB0.out.lt)
  have HL1 := hidM (HL0.out.trans (HBL1.out.mono (by have := HB0.out.lt; omega)))
  go_upto_block 0 with fail
  rw [← hE]
  generalize W0.alloc (.cells #[.slice none 0 0, .string ⟨#[]⟩] 46) = W1 at *
  clear hE HBL1 HB0 HL0 HE0
  go_wp2_with fail
  go_loopw [3, 7, 8, 14, 15, 16, 17, 18, 19, 20, 21, 22, 23, 24, 25, 26, 27, 28, 29, 30, 31, 32, 33, 34, 35, 36, 37] (fun v3 _ _ _ _ _ _ _ _ _ _ _ _ _ _ _ _ _ _ _ _ _ _ _ _ _ _ wr => ∃ f p k ls blk, v3 = .int .i64 ((k : Nat) : Int) ∧ RBox wr w.heap.size s p ∧ p ≤ s.size ∧ Dir wr E ls blk ∧ Below w.heap.size w wr ∧ (restL s p).length < f ∧ parG f (restL s p) blk ls k = P ∧ ls.length + 1 ≤ k ∧ k ≤ p + 1) (fun v3 _ _ _ _ _ _ _ _ _ _ _ _ _ _ _ _ _ _ _ _ _ _ _ _ _ _ wr => s.size - posOf w.heap.size wr)
  case atStart => exact ⟨_, 0, 1, [], [], rfl, HB1.out, Nat.zero_le _, ⟨_, _, HD0.out⟩, HL1.out, Nat.lt_succ_self _, by rw [HPP.out]; rfl, by simp, by omega⟩
  case round =>
    obtain ⟨f, p, k, ls, blk, rfl, hB, hp, ⟨lv, wvs, hD⟩, hL, hf, hpar, hk1, hk2⟩ := hrel
    clear HD0 HB1 HL1
    have HB := hidM hB
    have HD := hidM hD
    have HL := hidM hL
    have HF := hidM hf
    have HPR := hidM hpar
    have HROW := hidM (row_any w.heap.size s p wr hB (by omega) hp)
    unfold RowPost at HROW
    clear hB hD hL hf hpar
    cases hr : rowL (restL s p) with
    | none =>
      rw [hr] at HROW
      have HPE : Hid (P = ([], k, 3)) := by unfold Hid; rw [← HPR.out]; exact parG_none HF.out hr
      clear hr
      go_upto_region 7 with fail
      go_wp2_with fail
      refine HROW.out.mono ?_
      rintro _ w2 ⟨p2, rfl, hB2, hp2, hb2⟩
      have HL2 : Hid (Below w.heap.size w w2) := HL.out.trans ⟨hb2.os, hb2.tape, hb2.output, hb2.size, fun g hg => hb2.block g (by have := HB.out.lt; omega) (by omega)⟩
      have HN2 : Hid ((w2.alloc (.cells #[.slice none 0 0, .int .i64 0, .bool false] 49)).heap[w2.heap.size]? = some (.cells #[.slice none 0 0, .int .i64 0, .bool false] 49 (0, 0))) := heap_alloc_new w2 _
      clear hB2 hb2 HROW
      go_wp2_with (refine wpList_store_row rfl 49 (.tmp 7) (.tmp 18) rfl w2.heap.size #[.slice none 0 0, .int .i64 0, .bool false] rfl rfl 49 #[.slice none 0 0, .int .i64 0, .bool false] HN2.out size49 rfl (ones49 _ _ _ _ _) ?_)
      go_ret3
      refine HFIN.out _ _ _ _ _ HPE.out (lines_none _ _) ?_ _ rfl
      have hsz := HL2.out.size
      exact (HL2.out.alloc hsz _).trans ⟨rfl, rfl, rfl, by simp, fun g hg => setRow_other _ _ g _ (by omega)⟩
    | some R =>
      obtain ⟨ws, bk, last, rest⟩ := R
      rw [hr] at HROW
      simp only at HROW
      have HR := hidM hr
      obtain ⟨g1, g2⟩ := row_words _ _ _ _ _ (Nat.lt_succ_self _) hr
      have hws : ws.length ≤ 1000000 := by
        have := rest_len s p
        simp at g1
        omega
      have hbk : bk = 0 ∨ bk = 3 ∨ bk = 4 := g2
      clear hr g1 g2
      go_upto_region 7 with fail
      go_wp2_with fail
      refine HROW.out.mono ?_
      rintro _ w2 ⟨v, p2, rfl, hB2, hp2, hrest, hown, hb2⟩
      have HL2 : Hid (Below w.heap.size w w2) := HL.out.trans ⟨hb2.os, hb2.tape, hb2.output, hb2.size, fun g hg => hb2.block g (by have := HB.out.lt; omega) (by omega)⟩
      have HD2 := hidM (HD.out.but HB.out hb2 HBE.out)
      have HRS := hidM hrest
      obtain ⟨na, nc, hv⟩ := hown.isSlice
      have HN2 : Hid ((w2.alloc (.cells #[.slice none 0 0, .int .i64 0, .bool false] 49)).heap[w2.heap.size]? = some (.cells #[.slice none 0 0, .int .i64 0, .bool false] 49 (0, 0))) := heap_alloc_new w2 _
      have HONE : Hid ((#[v, .int .i64 (bk : Int), .bool last] : Array Value).all (·.oneCell') = true) := by rw [hv]; exact ones49 _ _ _ _ _
      have HB3 : Hid (Below w2.heap.size w2 ((w2.alloc (.cells #[.slice none 0 0, .int .i64 0, .bool false] 49)).setRow w2.heap.size #[v, .int .i64 (bk : Int), .bool last])) :=
        ((Below.refl _ w2).alloc (Nat.le_refl _) _).trans ⟨rfl, rfl, rfl, by simp, fun k hk => setRow_other _ _ k _ (by omega)⟩
      have HT3 : Hid (((w2.alloc (.cells #[.slice none 0 0, .int .i64 0, .bool false] 49)).setRow w2.heap.size #[v, .int .i64 (bk : Int), .bool last]).heap[w2.heap.size]? = some (rowB v bk last)) := setRow_heap _ _ _ _ 49 _ HN2.out
      have HD3 := hidM (HD2.out.below HB3.out (Nat.le_refl _))
      have HO3 : Hid (OwnW _ 0 v ws) := ownW_below (ownW_mono hown (Nat.zero_le _)) HB3.out (Nat.le_refl _)
      have HL3 := hidM (HL2.out.trans (HB3.out.mono HL2.out.size))
      have HBX := hidM (hB2.below HB3.out hB2.lt)
      clear hB2 hb2 HROW hown hrest hv
      go_upto_region 8 with (refine wpList_store_row rfl 49 (.tmp 7) (.tmp 18) rfl w2.heap.size #[v, .int .i64 (bk : Int), .bool last] rfl rfl 49 #[.slice none 0 0, .int .i64 0, .bool false] HN2.out size49 rfl HONE.out ?_)
      generalize (w2.alloc (.cells #[.slice none 0 0, .int .i64 0, .bool false] 49)).setRow w2.heap.size #[v, .int .i64 (bk : Int), .bool last] = W3 at *
      clear HB3 HD2 HN2 HONE HL2
      generalize w2.heap.size = TT at *
      obtain ⟨t0, t1, t2, _⟩ := row_cells HT3.out
      have HTK := hidM (dtake_any E ls blk lv wvs v ws bk last k W3 HD3.out HO3.out hbk (by omega) hws)
      unfold TakePost at HTK
      cases ht : takeD blk ws bk k with
      | none =>
        rw [ht] at HTK
        have HPE : Hid (P = ([], k, 3)) := by unfold Hid; rw [← HPR.out]; exact parG_bad HF.out HR.out ht
        clear ht
        go_wp2_with fail
        refine HTK.out.mono ?_
        rintro _ w4 ⟨rfl, hb4⟩
        have HL4 := hidM (HL3.out.trans (hb4.mono (Nat.le_of_lt HBE.out)))
        clear hb4 HTK
        go_wp2
        go_ret3
        exact HFIN.out _ _ _ _ _ HPE.out (lines_none _ _) HL4.out _ rfl
      | some y =>
        obtain ⟨blk', x⟩ := y
        rw [ht] at HTK
        simp only at HTK
        have HT := hidM ht
        have hx1 := take_len ht
        clear ht
        go_wp2_with fail
        refine HTK.out.mono ?_
        rintro _ w4 ⟨rfl, ⟨lv4, wvs4, hD4⟩, hb4, hk4⟩
        have HL4 := hidM (HL3.out.trans (hb4.mono (Nat.le_of_lt HBE.out)))
        have HB4 := hidM (HBX.out.below hb4 HBE.out)
        have HD4 := hidM hD4
        obtain ⟨_, _, y2, _⟩ := row_cells (hk4 _ _ HT3.out)
        obtain ⟨e0, e1, _⟩ := dir_cells hD4.box
        obtain ⟨B4, hB4⟩ : ∃ B4 : ByteArray, B4 = ⟨blk'.toArray⟩ := ⟨_, rfl⟩
        have HBL : Hid (B4.toList = blk') := by unfold Hid; rw [hB4, Lib.toList_data]
        rw [← hB4] at e1
        clear hD4 hb4 hk4 HTK t0 t1 t2 HT3 HD3 HO3 HL3 HBX hB4
        cases last with
        | false =>
          obtain ⟨g1, g2, g3⟩ := parG_next (out := ls) HF.out HR.out HT.out
          have HG : Hid ((restL s p2).length < f - 1 ∧ parG (f - 1) (restL s p2) blk' (ls ++ x) (k + 1) = P) := ⟨by rw [HRS.out]; exact g2, by rw [HRS.out, ← g1, HPR.out]⟩
          have HLT : Hid (p < p2) := by
            rw [← HRS.out, rest_len, rest_len] at g3
            unfold Hid
            omega
          clear g1 g2 g3
          go_wp2
          go_roundw
          case rel => exact ⟨f - 1, p2, k + 1, ls ++ x, blk', by go_num, HB4.out, hp2, ⟨lv4, wvs4, HD4.out⟩, HL4.out, HG.out.1, HG.out.2, by simp; omega, by have := HLT.out; omega⟩
          case measure =>
            show s.size - posOf _ _ < s.size - posOf _ wr
            rw [posOf_box HB4.out, posOf_box HB.out]
            have := HLT.out
            omega
        | true =>
          have HPL : Hid (P = if blk' = [] then (ls ++ x, 0, 0) else ([], k, 3)) := by unfold Hid; rw [← HPR.out]; exact parG_last HF.out HR.out HT.out
          by_cases hb0 : blk' = []
          · rw [if_pos hb0] at HPL
            have h3 : B4.toList.isEmpty = true := by rw [HBL.out, hb0]; rfl
            have HLA : Hid (LinesAt w4 w.heap.size lv4 (ls ++ x)) := ⟨wvs4, ownsRow_mono HD4.out.own (by have := HBE.out; omega), HD4.out.len, HD4.out.words⟩
            clear hb0
            go_wp2
            go_ret3
            exact HFIN.out _ _ _ _ _ HPL.out HLA.out HL4.out _ rfl
          · rw [if_neg hb0] at HPL
            have h3 : B4.toList.isEmpty = false := by
              rw [HBL.out]
              cases blk' with
              | nil => exact absurd rfl hb0
              | cons _ _ => rfl
            clear hb0
            go_wp2
            go_ret3
            exact HFIN.out _ _ _ _ _ HPL.out (lines_none _ _) HL4.out _ rfl
end Go.Proofs.YtgkjmmfpbcgmgaaDoor
namespace Go.Proofs.YtgkjmmfpbcgmgaaDoor

theorem remB_app {c : UInt8} {r : List UInt8} (b : List UInt8) (h : 10 ∈ c :: r) : remB (c :: r ++ b) = remB (c :: r) := by
  cases r with
  | nil =>
    simp at h; subst h
    cases b <;> simp [remB]
  | cons d r => simp [remB]
theorem skip_app : ∀ (m : Bool) (l b : List UInt8), 10 ∈ l → skipL m (l ++ b) = skipL m l ++ b ∧ 10 ∈ skipL m l
  | _, [], _, h => by simp at h
  | true, c :: r, b, h => by
    rw [List.cons_append, skipL, skipL]
    by_cases hc : c = 10
    · simp [hc]
    · rw [if_neg hc, if_neg hc]
      exact skip_app true r b (by simpa [Ne.symm hc] using h)
  | false, c :: r, b, h => by
    have hr := remB_app b h
    rw [List.cons_append] at hr ⊢
    rw [skipL, skipL, hr]
    by_cases h1 : remB (c :: r) = true
    · have hc : c ≠ 10 := by rintro rfl; cases r <;> simp [remB] at h1
      rw [if_pos h1, if_pos h1]
      exact skip_app true r b (by simpa [Ne.symm hc] using h)
    · rw [if_neg h1, if_neg h1]
      by_cases h2 : blkB c = true
      · have hc : c ≠ 10 := by rintro rfl; simp [blkB] at h2
        rw [if_pos h2, if_pos h2]
        exact skip_app false r b (by simpa [Ne.symm hc] using h)
      · rw [if_neg h2, if_neg h2]
        exact ⟨rfl, h⟩
theorem quo_app : ∀ (n : Nat) (l b : List UInt8), l.length ≤ n → 10 ∈ l → quoL (l ++ b) = (quoL l).map (fun x => (x.1, x.2 ++ b)) ∧ (∀ x, quoL l = some x → x.2.count 10 = l.count 10)
  | _, [], _, _, h => by simp at h
  | 0, c :: r, _, hl, _ => by simp at hl
  | n + 1, c :: r, b, hl, h => by
    rw [List.cons_append, quoL.eq_def, quoL.eq_def (c :: r)]
    simp only
    by_cases h1 : c = 34
    · subst h1; simp
    · rw [if_neg h1, if_neg h1]
      by_cases h2 : c = 10
      · simp [h2]
      · have hr : 10 ∈ r := by simpa [Ne.symm h2] using h
        rw [if_neg h2, if_neg h2]
        by_cases h3 : c = 92
        · rw [if_pos h3, if_pos h3]
          cases r with
          | nil => simp at hr
          | cons d r' =>
            simp only [List.cons_append]
            cases hm : mntL d with
            | none => simp
            | some e =>
              have hd : d ≠ 10 := by rintro rfl; simp [mntL] at hm
              obtain ⟨i1, i2⟩ := quo_app n r' b (by simp at hl; omega) (by simpa [Ne.symm hd] using hr)
              simp only [i1]
              cases hq : quoL r' with
              | none => simp
              | some x => simp [i2 x hq, hd, h2]
        · rw [if_neg h3, if_neg h3]
          obtain ⟨i1, i2⟩ := quo_app n r b (by simp at hl; omega) hr
          simp only [i1]
          cases hq : quoL r with
          | none => simp
          | some x => simp [i2 x hq, h2]
theorem raw_app : ∀ (l b : List UInt8), 10 ∈ l → rawL (l ++ b) = rawL l ∧ (∀ n, rawL l = some n → (l.drop (n + 1)).count 10 = l.count 10)
  | [], _, h => by simp at h
  | c :: r, b, h => by
    rw [List.cons_append, rawL, rawL]
    by_cases h1 : c = 96
    · subst h1; simp
    · rw [if_neg h1, if_neg h1]
      by_cases h2 : c = 10
      · simp [h2]
      · rw [if_neg h2, if_neg h2]
        obtain ⟨i1, i2⟩ := raw_app r b (by simpa [Ne.symm h2] using h)
        rw [i1]
        refine ⟨rfl, fun n hn => ?_⟩
        cases hr : rawL r with
        | none => simp [hr] at hn
        | some m =>
          simp [hr] at hn
          subst hn
          have := i2 m hr
          simp [h2, this]
theorem word_app : ∀ (l b : List UInt8), 10 ∈ l → wordN (l ++ b) = wordN l ∧ (l.drop (wordN l)).count 10 = l.count 10
  | [], _, h => by simp at h
  | c :: r, b, h => by
    have hr := remB_app b h
    rw [List.cons_append] at hr ⊢
    rw [wordN, wordN, wEnd, wEnd, hr]
    by_cases h1 : (c == 10 || blkB c || c == 40 || c == 41 || c == 34 || c == 96 || remB (c :: r)) = true
    · rw [if_pos h1, if_pos h1]; simp
    · rw [if_neg h1, if_neg h1]
      have hc : c ≠ 10 := by rintro rfl; simp at h1
      obtain ⟨i1, i2⟩ := word_app r b (by simpa [Ne.symm hc] using h)
      rw [i1]
      refine ⟨rfl, ?_⟩
      simp [hc, i2]
theorem skip_count : ∀ (m : Bool) (l : List UInt8), 10 ∈ l → (skipL m l).count 10 = l.count 10
  | _, [], h => by simp at h
  | true, c :: r, h => by
    rw [skipL]
    by_cases hc : c = 10
    · simp [hc]
    · rw [if_neg hc, skip_count true r (by simpa [Ne.symm hc] using h), List.count_cons]; simp [hc]
  | false, c :: r, h => by
    rw [skipL]
    by_cases h1 : remB (c :: r) = true
    · have hc : c ≠ 10 := by rintro rfl; cases r <;> simp [remB] at h1
      rw [if_pos h1, skip_count true r (by simpa [Ne.symm hc] using h), List.count_cons]; simp [hc]
    · rw [if_neg h1]
      by_cases h2 : blkB c = true
      · have hc : c ≠ 10 := by rintro rfl; simp [blkB] at h2
        rw [if_pos h2, skip_count false r (by simpa [Ne.symm hc] using h), List.count_cons]; simp [hc]
      · rw [if_neg h2]
/-- A token of a text in which a line ends, with more behind it. -/
theorem tok_app (l b : List UInt8) (h : 10 ∈ l) : (tokL (l ++ b)).1 = (tokL l).1 ∧ (tokL (l ++ b)).2.1 = (tokL l).2.1 ∧ (tokL l).1 ≠ 1 ∧
    ((tokL l).1 ≠ 6 → (tokL (l ++ b)).2.2 = (tokL l).2.2 ++ b) ∧ ((tokL l).1 = 2 → l.count 10 = (tokL l).2.2.count 10 + 1) ∧ ((tokL l).1 ≠ 2 → (tokL l).1 ≠ 6 → l.count 10 = (tokL l).2.2.count 10) := by
  obtain ⟨e, hm⟩ := skip_app false l b h
  have hc := skip_count false l h
  unfold tokL
  rw [e, ← hc]
  clear e hc h
  generalize skipL false l = s at *
  cases s with
  | nil => simp at hm
  | cons c r =>
    rw [List.cons_append, tokS, tokS]
    by_cases h1 : c = 10
    · simp [h1]
    · have hr : 10 ∈ r := by simpa [Ne.symm h1] using hm
      rw [if_neg h1, if_neg h1]
      by_cases h2 : c = 40
      · simp [h2]
      · rw [if_neg h2, if_neg h2]
        by_cases h3 : c = 41
        · simp [h3]
        · rw [if_neg h3, if_neg h3]
          by_cases h4 : c = 34
          · rw [if_pos h4, if_pos h4]
            obtain ⟨i1, i2⟩ := quo_app _ r b (Nat.le_refl _) hr
            rw [i1]
            cases hq : quoL r with
            | none => simp
            | some x => simp [i2 x hq, h1]
          · rw [if_neg h4, if_neg h4]
            by_cases h5 : c = 96
            · rw [if_pos h5, if_pos h5]
              obtain ⟨i1, i2⟩ := raw_app r b hr
              rw [i1]
              cases hq : rawL r with
              | none => simp
              | some n =>
                have hn := raw_le r n hq
                have := i2 n hq
                simp only [List.take_append_of_le_length (Nat.le_of_lt hn), List.drop_append_of_le_length (show n + 1 ≤ r.length by omega), this, List.count_cons]
                simp [h1]
            · rw [if_neg h5, if_neg h5]
              obtain ⟨i1, i2⟩ := word_app r b hr
              have hn := word_le r
              rw [i1]
              simp only [List.take_append_of_le_length hn, List.drop_append_of_le_length hn, i2, List.count_cons]
              simp [h1]
theorem mem_of_count {l : List UInt8} (h : 0 < l.count 10) : 10 ∈ l := List.count_pos_iff.1 h
/-- A row of a text in which a line ends, with more behind it. -/
theorem row_app : ∀ (f g : Nat) (l b : List UInt8) ws k, 10 ∈ l → l.length < f → (l ++ b).length < g →
    rowG g (l ++ b) ws k = (rowG f l ws k).map (fun r => (r.1, r.2.1, r.2.2.1, r.2.2.2 ++ b)) ∧ ∀ r, rowG f l ws k = some r → r.2.2.1 = false ∧ l.count 10 = r.2.2.2.count 10 + 1
  | 0, _, l, _, _, _, _, h, _ => absurd h (by omega)
  | _, 0, l, _, _, _, _, _, h => absurd h (by omega)
  | f + 1, g + 1, l, b, ws, k, h10, hf, hg => by
    obtain ⟨t1, t2, t3, t4, t5, t6⟩ := tok_app l b h10
    rw [rowG, rowG, t1, t2, if_neg t3, if_neg t3]
    by_cases h2 : (tokL l).1 = 2
    · rw [if_pos h2, if_pos h2, t4 (by omega)]
      refine ⟨rfl, fun r hr => ?_⟩
      simp at hr
      subst hr
      exact ⟨rfl, t5 h2⟩
    · rw [if_neg h2, if_neg h2]
      by_cases h6 : (tokL l).1 = 6 ∨ k ≠ 0
      · rw [if_pos h6, if_pos h6]; simp
      · rw [if_neg h6, if_neg h6]
        have hc := t6 h2 (by omega)
        have hm : 10 ∈ (tokL l).2.2 := mem_of_count (by rw [← hc]; exact List.count_pos_iff.2 h10)
        have hl := tok_less t3 (by omega)
        have h4 := t4 (by omega)
        rw [h4]
        by_cases h5 : (tokL l).1 = 5
        · rw [if_pos h5, if_pos h5]
          obtain ⟨i1, i2⟩ := row_app f g (tokL l).2.2 b (ws ++ [(tokL l).2.1]) k hm (by omega) (by simp at hg ⊢; omega)
          exact ⟨i1, fun r hr => by rw [hc]; exact i2 r hr⟩
        · rw [if_neg h5, if_neg h5]
          obtain ⟨i1, i2⟩ := row_app f g (tokL l).2.2 b ws (tokL l).1 hm (by omega) (by simp at hg ⊢; omega)
          exact ⟨i1, fun r hr => by rw [hc]; exact i2 r hr⟩
theorem rowL_app (l b : List UInt8) (h : 10 ∈ l) : rowL (l ++ b) = (rowL l).map (fun r => (r.1, r.2.1, r.2.2.1, r.2.2.2 ++ b)) ∧ ∀ r, rowL l = some r → r.2.2.1 = false ∧ l.count 10 = r.2.2.2.count 10 + 1 :=
  row_app _ _ l b [] 0 h (Nat.lt_succ_self _) (Nat.lt_succ_self _)
def shL (d : Nat) (x : Ln) : Ln := (x.1, x.2.1, x.2.2 + d)
theorem take_at (blk : List UInt8) (ws : List (List UInt8)) (b k d : Nat) : takeD blk ws b (k + d) = (takeD blk ws b k).map fun x => (x.1, x.2.map (shL d)) := by
  unfold takeD
  split
  · split <;> (try split) <;> simp
  · split
    · split <;> simp
    · split
      · simp
      · split
        · simp [shL]
        · split <;> simp [shL]
/-- What was read ahead, and how many lines, show in nothing else. -/
theorem par_shift : ∀ (f : Nat) (l blk : List UInt8) (out : List Ln) (k d : Nat) (pre : List Ln), l.length < f → parG f l blk (pre ++ out.map (shL d)) (k + d) =
    (if (parG f l blk out k).2.2 = 0 then (pre ++ (parG f l blk out k).1.map (shL d), 0, 0) else ([], (parG f l blk out k).2.1 + d, 3))
  | 0, l, _, _, _, _, _, h => absurd h (by omega)
  | f + 1, l, blk, out, k, d, pre, hf => by
    rw [parG, parG]
    cases hr : rowL l with
    | none => simp
    | some r =>
      obtain ⟨ws, b, last, t⟩ := r
      obtain ⟨m, h1, h2, h3⟩ := row_suf _ _ _ _ _ (Nat.lt_succ_self _) hr
      simp only at h2 h3
      simp only [take_at]
      cases ht : takeD blk ws b k with
      | none => simp
      | some x =>
        simp only [Option.map_some]
        cases last with
        | true =>
          by_cases hb : x.1 = []
          · simp [hb]
          · simp [hb]
        | false =>
          simp only [Bool.false_eq_true, if_false]
          have hl : t.length < l.length := by
            rw [h3, List.length_drop]
            simp at h2
            omega
          have := par_shift f t x.1 (out ++ x.2) (k + 1) d pre (by omega)
          rw [List.map_append, ← List.append_assoc] at this
          rw [show k + d + 1 = k + 1 + d by omega, this]
/-- What is wrong is told by 3, with a line, and with no directives; what is right with no line. -/
theorem par_err : ∀ (f : Nat) (l blk : List UInt8) (out : List Ln) (k : Nat), l.length < f → ((parG f l blk out k).2.2 = 0 ∧ (parG f l blk out k).2.1 = 0) ∨ ((parG f l blk out k).2.2 = 3 ∧ (parG f l blk out k).1 = [])
  | 0, l, _, _, _, h => absurd h (by omega)
  | f + 1, l, blk, out, k, hf => by
    rw [parG]
    cases hr : rowL l with
    | none => simp
    | some r =>
      obtain ⟨ws, b, last, t⟩ := r
      obtain ⟨m, h1, h2, h3⟩ := row_suf _ _ _ _ _ (Nat.lt_succ_self _) hr
      simp only at h2 h3 ⊢
      cases ht : takeD blk ws b k with
      | none => simp
      | some x =>
        simp only
        cases last with
        | true =>
          by_cases hb : x.1 = []
          · simp [hb]
          · simp [hb]
        | false =>
          simp only [Bool.false_eq_true, if_false]
          have hl : t.length < l.length := by
            rw [h3, List.length_drop]
            simp at h2
            omega
          exact par_err f t x.1 (out ++ x.2) (k + 1) (by omega)
/-- A text that ends with a line's end, and more behind it: the first one's lines are gone through, then the other's. -/
theorem par_app : ∀ (f : Nat) (l b blk : List UInt8) (out : List Ln) (k : Nat), l.length < f → (l = [] ∨ l.getLast? = some 10) → (parG f l blk out k).2.2 = 0 →
    ∀ g, (l ++ b).length < g → parG g (l ++ b) blk out k = parG (b.length + 1) b [] (parG f l blk out k).1 (k + l.count 10)
  | 0, l, _, _, _, _, h, _, _, _, _ => absurd h (by omega)
  | f + 1, [], b, blk, out, k, hf, _, h0, g, hg => by
    have hr : rowL [] = some ([], 0, true, []) := by decide
    have h1 : parG (f + 1) [] blk out k = if blk = [] then (out, 0, 0) else ([], k, 3) := by
      rw [parG, hr]
      simp [takeD]
    rw [h1] at h0 ⊢
    by_cases hb : blk = []
    · subst hb
      simp
      exact par_fuel _ _ _ _ _ _ (by simpa using hg) (by omega)
    · simp [hb] at h0
  | f + 1, c :: l', b, blk, out, k, hf, he, h0, 0, hg => absurd hg (by omega)
  | f + 1, c :: l', b, blk, out, k, hf, he, h0, g + 1, hg => by
    have he' : (c :: l').getLast? = some 10 := by
      rcases he with h | h
      · cases h
      · exact h
    have hm : 10 ∈ c :: l' := List.mem_of_getLast? he'
    obtain ⟨a1, a2⟩ := rowL_app (c :: l') b hm
    generalize c :: l' = l at *
    rw [parG, a1]
    rw [parG] at h0 ⊢
    cases hr : rowL l with
    | none => simp [hr] at h0
    | some r =>
      obtain ⟨ws, bk, last, t⟩ := r
      obtain ⟨b1, b2⟩ := a2 _ hr
      obtain ⟨m, h1, h2, h3⟩ := row_suf _ _ _ _ _ (Nat.lt_succ_self _) hr
      simp only at h2 h3 b1 b2
      subst b1
      simp only [hr] at h0
      simp only [Option.map_some]
      cases ht : takeD blk ws bk k with
      | none => simp [ht] at h0
      | some x =>
        simp only [ht, Bool.false_eq_true, if_false] at h0
        simp only [Bool.false_eq_true, if_false]
        have hl : t.length < l.length := by
          rw [h3, List.length_drop]
          simp at h2
          omega
        have hte : t = [] ∨ t.getLast? = some 10 := by
          by_cases hn : t = []
          · exact .inl hn
          · refine .inr ?_
            rw [h3] at hn ⊢
            rw [List.getLast?_drop, if_neg (by simp at hn; omega)]
            exact he'
        rw [par_app f t b x.1 (out ++ x.2) (k + 1) (by omega) hte h0 g (by simp at hg ⊢; omega), b2, show k + 1 + List.count 10 t = k + (List.count 10 t + 1) by omega]
        simp [parG, hr, ht]
end Go.Proofs.YtgkjmmfpbcgmgaaDoor
namespace Go.Proofs.YtgkjmmfpbcgmgaaDoor
open Go.RowKit

theorem bar_list : (⟨#[34, 39, 42, 60, 62, 63, 96, 124, 92, 58, 59]⟩ : ByteArray).data.toList = barL := rfl
set_option maxHeartbeats 1000000 in
theorem filePath_any (s : ByteArray) (m : Int) (w : World) (hm : w.cell? ⟨0, 0, none⟩ = some (.int .i64 m)) :
    Calls Tryd.prog 17 #[.string s] w fun e w' => e = .returned (.bool (fileL s.data.toList)) ∧ Below w.heap.size w w' := by
  have HC := hidM (clean_any s w)
  rw [clean_eq] at HC
  have HR : Hid (fileL s.data.toList = (cleanL s.data.toList && !(s.data.toList.any fun c => barL.contains c) && !stopL s.data.toList)) := rfl
  cases h0 : cleanL s.data.toList with
  | false =>
    rw [h0] at HC HR
    clear h0
    go_enter Tryd.func17, Tryd.ntmps17
    go_wp2_with fail
    refine HC.out.mono ?_
    rintro _ w1 ⟨rfl, hb⟩
    go_wp2
    go_ret
    exact ⟨by rw [HR.out]; rfl, hb⟩
  | true =>
    have hs : s.size ≤ 200 := by
      unfold cleanL at h0
      simp only [Bool.and_eq_true, decide_eq_true_eq] at h0
      rw [sl_len] at h0; exact h0.1.1
    have HAS : Hid (∀ (j : Nat) b, s.data.toList[j]? = some b → b.toNat < 128) := by
      intro j b hj
      unfold cleanL plainL at h0
      simp only [Bool.and_eq_true, List.all_eq_true, decide_eq_true_eq] at h0
      have := h0.1.2 b (List.mem_of_getElem? hj)
      omega
    have HAN : Hid (∀ V, Calls Tryd.prog 33 #[.string s, .string ⟨#[34, 39, 42, 60, 62, 63, 96, 124, 92, 58, 59]⟩] V fun e w' => e = .returned (.bool (s.data.toList.any fun c => barL.contains c)) ∧ Below V.heap.size V w') := by
      intro V
      have h := Tryd.strings_ContainsAny_laid s ⟨#[34, 39, 42, 60, 62, 63, 96, 124, 92, 58, 59]⟩ V (by omega) (by decide) HAS.out (by
        intro j b hj
        rw [bar_list] at hj
        have hm := List.mem_of_getElem? hj
        simp only [barL, List.mem_cons, List.not_mem_nil, or_false] at hm
        rcases hm with rfl | rfl | rfl | rfl | rfl | rfl | rfl | rfl | rfl | rfl | rfl <;> decide)
      rw [bar_list, any_cont] at h
      exact h
    obtain ⟨S, hS⟩ : ∃ S, s ++ (⟨#[47]⟩ : ByteArray) = S := ⟨_, rfl⟩
    have HCO : Hid (∀ V, V.cell? ⟨0, 0, none⟩ = some (.int .i64 m) → Calls Tryd.prog 34 #[.string S, .string ⟨#[46, 47]⟩] V fun e w' => e = .returned (.bool (stopL s.data.toList)) ∧ w' = V) := by
      intro V hV
      have h := Tryd.strings_Contains S ⟨#[46, 47]⟩ m V (by rw [← hS, ByteArray.size_append]; have : (⟨#[47]⟩ : ByteArray).size = 1 := rfl; omega) hV
      rw [show (⟨#[46, 47]⟩ : ByteArray).data.toList = [46, 47] from rfl, show S.data.toList = s.data.toList ++ [47] by rw [← hS]; simp, cont_stop] at h
      exact h
    have hsum : ¬ (9223372036854775807 : Nat) < s.size + 1 := by omega
    have h0lt : 0 < w.heap.size := by
      rcases Nat.lt_or_ge 0 w.heap.size with h | h
      · exact h
      · unfold World.cell? at hm
        rw [Array.getElem?_eq_none (by simpa using h)] at hm
        cases hm
    rw [h0] at HC HR
    clear h0 HAS
    generalize (s.data.toList.any fun c => barL.contains c) = A at *
    generalize stopL s.data.toList = B at *
    have HM := hidM hm
    clear hm
    cases A with
    | true =>
      go_enter Tryd.func17, Tryd.ntmps17
      go_wp2_with fail
      refine HC.out.mono ?_
      rintro _ w1 ⟨rfl, hb⟩
      go_wp2_with fail
      refine (HAN.out _).mono ?_
      rintro _ w2 ⟨rfl, hb2⟩
      go_wp2
      go_ret
      exact ⟨by rw [HR.out]; rfl, hb.trans (hb2.mono hb.size)⟩
    | false =>
      go_enter Tryd.func17, Tryd.ntmps17
      go_wp2_with fail
      refine HC.out.mono ?_
      rintro _ w1 ⟨rfl, hb⟩
      go_wp2_with fail
      refine (HAN.out _).mono ?_
      rintro _ w2 ⟨rfl, hb2⟩
      have hb3 := hb.trans (hb2.mono hb.size)
      have HM2 : Hid (w2.cell? ⟨0, 0, none⟩ = some (.int .i64 m)) := (hb3.cell (p := ⟨0, 0, none⟩) h0lt).trans HM.out
      go_wp2_with fail
      refine (HCO.out _ HM2.out).mono ?_
      rintro _ w3 ⟨rfl, h3⟩
      rw [h3]
      clear h3
      go_wp2
      go_ret
      exact ⟨by rw [HR.out]; rfl, hb3⟩

/-! ## Module -/
def noL : Ln := ([], [], 0)
theorem flatL_get : ∀ (ls : List Ln) (wvs : List Value) (i : Nat), i < ls.length → wvs.length = ls.length → (flatL ls wvs)[i * 3]? = some (strV (ls.getD i noL).1) ∧ (flatL ls wvs)[i * 3 + 1]? = some (wvs.getD i undef) ∧ (flatL ls wvs)[i * 3 + 2]? = some (.int .i64 ((ls.getD i noL).2.2 : Int))
  | [], _, i, h, _ => by simp at h
  | l :: ls, [], i, _, h2 => by simp at h2
  | l :: ls, v :: wvs, 0, _, _ => by simp [flatL]
  | l :: ls, v :: wvs, i + 1, h, h2 => by
    have ih := flatL_get ls wvs i (by simpa using h) (by simpa using h2)
    have e : flatL (l :: ls) (v :: wvs) = strV l.1 :: v :: .int .i64 (l.2.2 : Int) :: flatL ls wvs := by simp [flatL]
    rw [e, show (i + 1) * 3 = i * 3 + 3 by omega, show i * 3 + 3 + 1 = i * 3 + 1 + 3 by omega, show i * 3 + 3 + 2 = i * 3 + 2 + 3 by omega]
    simpa using ih
/-- the lines as a walk reads them -/
def LnsAt (w : World) (g off : Nat) (ls : List Ln) : Prop := ∀ i, i < ls.length → ∃ na nc, w.cell? ⟨g, off + i * 3, none⟩ = some (strV (ls.getD i noL).1) ∧ w.cell? ⟨g, off + i * 3 + 1, none⟩ = some (.slice na (ls.getD i noL).2.1.length nc) ∧
  w.cell? ⟨g, off + i * 3 + 2, none⟩ = some (.int .i64 ((ls.getD i noL).2.2 : Int)) ∧ OwnW w 0 (.slice na (ls.getD i noL).2.1.length nc) (ls.getD i noL).2.1
def LinesV (w : World) (a : Option Addr) (ls : List Ln) : Prop := ls = [] ∨ ∃ g off, a = some ⟨g, off, none⟩ ∧ g < w.heap.size ∧ LnsAt w g off ls
theorem LinesAt.view {w : World} {base : Nat} {lv : Value} {ls : List Ln} (h : LinesAt w base lv ls) : ∃ a c, lv = .slice a ls.length c ∧ LinesV w a ls := by
  obtain ⟨wvs, h1, h2, h3⟩ := h
  rcases h1.2 with ⟨rfl, hn⟩ | ⟨g, cap, cur, rfl, hB, hg, hnc, hcm, hcs, htk⟩
  · exact ⟨none, 0, by rw [hn], .inl (List.length_eq_zero_iff.1 hn)⟩
  · refine ⟨_, _, rfl, .inr ⟨g, 0, rfl, lt_of_some hg, fun i hi => ?_⟩⟩
    obtain ⟨f0, f1, f2⟩ := flatL_get ls wvs i hi h2
    have hw : OwnW w 0 (wvs.getD i undef) (ls.getD i noL).2.1 := h3 i hi
    obtain ⟨na, nc, hv⟩ := hw.isSlice
    rw [hv] at f1 hw
    have hadd : ∀ j, (⟨g, 0, none⟩ : Addr).add j = ⟨g, j, none⟩ := fun j => by unfold Addr.add; split <;> simp_all
    refine ⟨na, nc, ?_, ?_, ?_, hw⟩
    · have := World.ownsRow.cells (g := g) h1 rfl _ _ f0; rw [hadd] at this; simpa using this
    · have := World.ownsRow.cells (g := g) h1 rfl _ _ f1; rw [hadd] at this; simpa using this
    · have := World.ownsRow.cells (g := g) h1 rfl _ _ f2; rw [hadd] at this; simpa using this
theorem LinesV.below {w w' : World} {a : Option Addr} {ls : List Ln} (h : LinesV w a ls) (hb : Below w.heap.size w w') : LinesV w' a ls := by
  rcases h with h | ⟨g, off, h1, h2, h3⟩
  · exact .inl h
  · refine .inr ⟨g, off, h1, Nat.lt_of_lt_of_le h2 hb.size, fun i hi => ?_⟩
    obtain ⟨na, nc, c0, c1, c2, hw⟩ := h3 i hi
    exact ⟨na, nc, (hb.cell (p := ⟨g, _, none⟩) h2).trans c0, (hb.cell (p := ⟨g, _, none⟩) h2).trans c1, (hb.cell (p := ⟨g, _, none⟩) h2).trans c2, ownW_below hw hb (Nat.le_refl _)⟩
theorem LinesV.at {w : World} {a : Option Addr} {ls : List Ln} (h : LinesV w a ls) {k : Nat} (hk : k < ls.length) : ∃ g off, a = some ⟨g, off, none⟩ ∧ g < w.heap.size ∧ LnsAt w g off ls := by
  rcases h with h | h
  · rw [h] at hk; simp at hk
  · exact h
theorem below_dn {B : Nat} {w w' : World} (h : Below B w w') (n : Nat) : Below B w (w'.drewN n) := h.trans ⟨rfl, rfl, rfl, by simp, fun k _ => by simp⟩
theorem lt_of_cell {w : World} {p : Addr} {v : Value} (h : w.cell? p = some v) : p.block < w.heap.size := by
  rcases Nat.lt_or_ge p.block w.heap.size with h1 | h1
  · exact h1
  · unfold World.cell? at h
    rw [Array.getElem?_eq_none (by simpa using h1)] at h
    cases h
theorem par_len : ∀ (f : Nat) (l blk : List UInt8) (out : List Ln) (k : Nat), l.length < f → (parG f l blk out k).1.length ≤ out.length + l.length + 1
  | 0, l, _, _, _, h => absurd h (by omega)
  | f + 1, l, blk, out, k, hf => by
    cases hr : rowL l with
    | none => rw [parG_none hf hr]; simp
    | some r =>
      obtain ⟨ws, b, last, t⟩ := r
      cases ht : takeD blk ws b k with
      | none => rw [parG_bad hf hr ht]; simp
      | some y =>
        obtain ⟨blk', x⟩ := y
        have hx := take_len ht
        cases last with
        | true =>
          rw [parG_last hf hr ht]
          split
          · simp; omega
          · simp
        | false =>
          obtain ⟨h1, h2, h3⟩ := parG_next (out := out) hf hr ht
          rw [h1]
          have := par_len f t blk' (out ++ x) (k + 1) (by simpa using h2)
          simp at this ⊢
          omega
def modW : List UInt8 := [109, 111, 100, 117, 108, 101]
def modG : List Ln → List UInt8 → List UInt8 × Nat × Nat
  | [], path => if path = [] then ([], 0, 7) else (path, 0, 0)
  | l :: r, path => if l.1 ≠ modW then modG r path else if path ≠ [] then ([], l.2.2, 8) else
    match l.2.1 with
    | [x] => if pathL x = true then modG r x else ([], l.2.2, 4)
    | _ => ([], l.2.2, 4)
def modL (s : List UInt8) : List UInt8 × Nat × Nat := if (parL s).2.2 ≠ 0 then ([], (parL s).2.1, (parL s).2.2) else modG (parL s).1 []
theorem modG_skip {l : Ln} {r : List Ln} {path : List UInt8} (h : l.1 ≠ modW) : modG (l :: r) path = modG r path := by rw [modG, if_pos h]
theorem modG_twice {l : Ln} {r : List Ln} {path : List UInt8} (h : l.1 = modW) (hp : path ≠ []) : modG (l :: r) path = ([], l.2.2, 8) := by rw [modG, if_neg (by simpa using h), if_pos hp]
theorem modG_many {l : Ln} {r : List Ln} (h : l.1 = modW) (hp : l.2.1.length ≠ 1) : modG (l :: r) [] = ([], l.2.2, 4) := by
  rw [modG, if_neg (by simpa using h), if_neg (by simp)]
  split
  · rename_i x hx; rw [hx] at hp; simp at hp
  · rfl
theorem modG_one {l : Ln} {r : List Ln} {x : List UInt8} (h : l.1 = modW) (hp : l.2.1 = [x]) : modG (l :: r) [] = if pathL x = true then modG r x else ([], l.2.2, 4) := by
  rw [modG, if_neg (by simpa using h), if_neg (by simp), hp]
theorem path_ne {x : List UInt8} (h : pathL x = true) : x ≠ [] := by
  rintro rfl
  exact absurd h (by decide)
theorem zero37b : (Tryd.prog.info? 37).map (·.size) = some 3 := by kernel_rfl
def ModQ (R : List UInt8 × Nat × Nat) (w : World) (e : Ending) (w' : World) : Prop := e = .returned (.tuple #[.string ⟨R.1.toArray⟩, .int .i64 (R.2.1 : Int), .int .i64 (R.2.2 : Int)]) ∧ Below w.heap.size w w'
set_option maxHeartbeats 4000000 in
set_option maxRecDepth 100000 in
theorem module_any (s : ByteArray) (w : World) (hs : s.size ≤ 65536) :
    Calls Tryd.prog 11 #[.string s] w fun e w' => ModQ (modL s.data.toList) w e w' := by
  have HP := hidM (parse_any s w hs)
  unfold ParPost at HP
  have HE : Hid ((parL s.data.toList).2.2 = 0 ∨ (parL s.data.toList).2.2 = 3) := by
    have := par_err (s.data.toList.length + 1) s.data.toList [] [] 1 (Nat.lt_succ_self _)
    unfold parL
    rcases this with h | h
    · exact .inl h.1
    · exact .inr h.1
  have HR : Hid (modL s.data.toList = if (parL s.data.toList).2.2 ≠ 0 then ([], (parL s.data.toList).2.1, (parL s.data.toList).2.2) else modG (parL s.data.toList).1 []) := rfl
  have HLN : Hid ((parL s.data.toList).1.length ≤ 70000) := by
    have := par_len (s.data.toList.length + 1) s.data.toList [] [] 1 (Nat.lt_succ_self _)
    unfold Hid parL
    rw [sl_len] at *
    simp at this
    omega
  generalize modL s.data.toList = R at *
  generalize parL s.data.toList = P at *
  obtain ⟨ls, at_, er⟩ := P
  simp only at HP HE HR HLN
  by_cases h0 : er = 0
  · subst h0
    rw [if_neg (by simp)] at HR
    clear HE
    go_enter Tryd.func11, Tryd.ntmps11
    go_wp2_with fail
    refine HP.out.mono ?_
    rintro _ w1 ⟨lv, rfl, hl, hb1⟩
    obtain ⟨a, c, rfl, hv⟩ := hl.view
    have HV := hidM hv
    have HB1 := hidM hb1
    clear hl hv hb1 HP
    obtain ⟨n, hn⟩ : ∃ n, n = ls.length := ⟨_, rfl⟩
    rw [← hn]
    have HL := hidM hn
    have hn7 : n ≤ 70000 := by rw [hn]; exact HLN.out
    clear hn HLN
    go_wp2
    go_loopw [2, 7, 20, 21, 22, 23, 24, 25, 26, 27, 28, 29, 30, 31, 32, 33, 34, 35, 36, 37, 38, 39, 40, 41, 42, 43, 44, 45, 46, 47, 48, 49] (fun v2 _ v20 _ _ _ _ _ _ _ _ _ _ _ _ _ _ _ _ _ _ _ _ _ _ _ _ _ _ _ _ _ wr => ∃ (k : Nat) (path : ByteArray), k ≤ n ∧ v2 = .string path ∧ v20 = .int .i64 (k : Int) ∧ modG (ls.drop k) path.data.toList = R ∧ Below w1.heap.size w1 wr) (fun _ _ v20 _ _ _ _ _ _ _ _ _ _ _ _ _ _ _ _ _ _ _ _ _ _ _ _ _ _ _ _ _ _ => n - (intOf v20).toNat)
    case atStart => exact ⟨0, ⟨#[]⟩, Nat.zero_le _, rfl, rfl, by rw [HR.out]; rfl, Below.refl _ _⟩
    case round =>
      obtain ⟨k, path, hk, rfl, rfl, hd, hbr⟩ := hrel
      have HD := hidM hd
      have HBR := hidM hbr
      clear hd hbr HR
      by_cases hlt : k < n
      · have kk : (k : Int) < (n : Int) := by omega
        have hkl : k < ls.length := by rw [← HL.out]; exact hlt
        obtain ⟨g, off, rfl, hg, hat⟩ := (HV.out.below HBR.out).at hkl
        obtain ⟨na, nc, c0, c1, c2, hw⟩ := hat k hkl
        have HDK : Hid (modG (ls.getD k noL :: ls.drop (k + 1)) path.data.toList = R) := by
          unfold Hid
          rw [← HD.out, List.drop_eq_getElem_cons hkl]
          simp [List.getD, hkl]
        clear hat HD
        generalize ls.getD k noL = L at *
        obtain ⟨verb, words, la⟩ := L
        simp only at c0 c1 c2 hw
        unfold strV at c0
        obtain ⟨V, hV⟩ : ∃ V : ByteArray, V = ⟨verb.toArray⟩ := ⟨_, rfl⟩
        have HVL : Hid (V.toList = verb) := by unfold Hid; rw [hV, Lib.toList_data]
        rw [← hV] at c0
        have hg2 : wr.heap[wr.heap.size]? = none := by simp
        obtain ⟨y0, y1, y2⟩ : (wr.alloc (.cells #[.string V, .slice na words.length nc, .int .i64 (la : Int)] 37)).cell? ⟨wr.heap.size, 0, none⟩ = some (.string V) ∧ (wr.alloc (.cells #[.string V, .slice na words.length nc, .int .i64 (la : Int)] 37)).cell? ⟨wr.heap.size, 1, none⟩ = some (.slice na words.length nc) ∧ (wr.alloc (.cells #[.string V, .slice na words.length nc, .int .i64 (la : Int)] 37)).cell? ⟨wr.heap.size, 2, none⟩ = some (.int .i64 (la : Int)) :=
          ⟨World.cell?_alloc_mark wr _ 37 (0, 0) 0, World.cell?_alloc_mark wr _ 37 (0, 0) 1, World.cell?_alloc_mark wr _ 37 (0, 0) 2⟩
        have HB3 : Hid (Below wr.heap.size wr (wr.alloc (.cells #[.string V, .slice na words.length nc, .int .i64 (la : Int)] 37))) := (Below.refl _ wr).alloc (Nat.le_refl _) _
        have HW3 := hidM (ownW_below hw HB3.out (Nat.le_refl _))
        have HB4 := hidM (HBR.out.trans (HB3.out.mono HBR.out.size))
        clear hw hV hg2
        go_upto_region 7 with fail
        generalize wr.alloc (.cells #[.string V, .slice na words.length nc, .int .i64 (la : Int)] 37) = W3 at *
        generalize wr.heap.size = g3 at *
        clear c0 c1 c2
        by_cases hvm : verb = modW
        · have b1 : (V.toList == [109, 111, 100, 117, 108, 101]) = true := by rw [HVL.out, hvm]; rfl
          by_cases hpe : path.data.toList = []
          · have b2 : path.toList.isEmpty = true := by rw [Lib.toList_data, hpe]; rfl
            by_cases hone : words.length = 1
            · obtain ⟨x, hx⟩ : ∃ x, words = [x] := List.length_eq_one_iff.1 hone
              obtain ⟨g4, c4, h4, h5, _⟩ := HW3.out.cellAt (by rw [hone]; omega)
              have h6 := h5 0 (by omega)
              have h7 : words[0] = x := by simp [hx]
              rw [h7] at h6
              unfold strV at h6
              have HG : Hid (R = if pathL x = true then modG (ls.drop (k + 1)) x else ([], la, 4)) := by
                unfold Hid
                rw [← HDK.out, hpe]
                exact modG_one hvm hx
              obtain ⟨X, hX⟩ : ∃ X : ByteArray, X = ⟨x.toArray⟩ := ⟨_, rfl⟩
              have HXL : Hid (X.data.toList = x) := by unfold Hid; rw [hX]
              rw [← hX] at h6
              have HPA := hidM (path_any X W3)
              rw [HXL.out] at HPA
              rw [hone] at y1 h4
              injection h4 with q1 q2 q3
              subst q1 q3
              clear HDK hpe hvm hx h5 h7 hone hX
              cases hpa : pathL x with
              | true =>
                rw [hpa] at HPA HG
                rw [if_pos rfl] at HG
                have HG2 := hidM HG.out
                go_wp2_with fail
                refine HPA.out.mono ?_
                rintro _ w5 ⟨rfl, hb5⟩
                have HB5 := hidM hb5
                have z1 := (hb5.cell (p := ⟨g3, 1, none⟩) (lt_of_cell y1)).trans y1
                have z6 := (hb5.cell (p := ⟨g4, 0, none⟩) (lt_of_cell h6)).trans h6
                have HB6 := hidM (HB4.out.trans (hb5.mono HB4.out.size))
                clear hb5 hpa y0 y1 y2 h6
                go_wp2
                go_roundw
                case rel => exact ⟨k + 1, X, by omega, rfl, by go_num, by rw [HXL.out, HG.out], HB6.out⟩
                case measure => (show n - ((k : Int) + 1).toNat < n - ((k : Int)).toNat); omega
              | false =>
                rw [hpa] at HPA HG
                rw [if_neg (by simp)] at HG
                go_wp2_with fail
                refine HPA.out.mono ?_
                rintro _ w5 ⟨rfl, hb5⟩
                have z2 := (hb5.cell (p := ⟨g3, 2, none⟩) (lt_of_cell y2)).trans y2
                have HB6 := hidM (HB4.out.trans (hb5.mono HB4.out.size))
                clear hb5 hpa y0 y1 y2 h6
                go_wp2_with fail
                go_quiet (fail)
                go_wp2
                go_ret3
                exact ⟨by rw [HG.out]; rfl, below_dn (HB1.out.trans (HB6.out.mono HB1.out.size)) _⟩
            · have HG : Hid (R = ([], la, 4)) := by
                unfold Hid
                rw [← HDK.out, hpe]
                exact modG_many hvm hone
              have b3 : ((words.length : Int) != 1) = true := by simp; omega
              clear HDK hpe hvm hone
              go_wp2_with fail
              go_quiet (fail)
              go_wp2
              go_ret3
              exact ⟨by rw [HG.out]; rfl, below_dn (HB1.out.trans (HB4.out.mono HB1.out.size)) _⟩
          · have b2 : path.toList.isEmpty = false := by rw [Lib.toList_data]; cases h : path.data.toList <;> simp_all
            have HG : Hid (R = ([], la, 8)) := by
              unfold Hid
              rw [← HDK.out]
              exact modG_twice hvm hpe
            clear HDK hvm hpe
            go_wp2_with fail
            go_quiet (fail)
            go_wp2
            go_ret3
            exact ⟨by rw [HG.out]; rfl, below_dn (HB1.out.trans (HB4.out.mono HB1.out.size)) _⟩
        · have b1 : (V.toList == [109, 111, 100, 117, 108, 101]) = false := by rw [HVL.out]; exact beq_false_of_ne hvm
          have HG : Hid (modG (ls.drop (k + 1)) path.data.toList = R) := by
            unfold Hid
            rw [← HDK.out]
            exact (modG_skip hvm).symm
          clear HDK hvm
          go_wp2
          go_roundw
          case rel => exact ⟨k + 1, path, by omega, rfl, by go_num, HG.out, HB4.out⟩
          case measure => (show n - ((k : Int) + 1).toNat < n - ((k : Int)).toNat); omega
      · obtain rfl : k = n := by omega
        have HG : Hid ((if path.data.toList = [] then ([], 0, 7) else (path.data.toList, 0, 0)) = R) := by
          unfold Hid
          rw [← HD.out, List.drop_of_length_le (by rw [← HL.out]; omega), modG]
        have HBF : Hid (Below w.heap.size w wr) := HB1.out.trans (HBR.out.mono HB1.out.size)
        by_cases hpe : path.data.toList = []
        · have b2 : path.toList.isEmpty = true := by rw [Lib.toList_data, hpe]; rfl
          rw [if_pos hpe] at HG
          clear hpe HD
          go_wp2
          go_ret3
          exact ⟨by rw [← HG.out]; rfl, HBF.out⟩
        · have b2 : path.toList.isEmpty = false := by rw [Lib.toList_data]; cases h : path.data.toList <;> simp_all
          rw [if_neg hpe] at HG
          clear hpe HD
          go_wp2
          go_ret3
          exact ⟨by rw [← HG.out]; rfl, HBF.out⟩
  · have h3 : er = 3 := by rcases HE.out with h | h; exact absurd h h0; exact h
    subst h3
    rw [if_pos (by simp)] at HR
    clear HE h0
    go_enter Tryd.func11, Tryd.ntmps11
    go_wp2_with fail
    refine HP.out.mono ?_
    rintro _ w1 ⟨lv, rfl, hl, hb1⟩
    obtain ⟨a, c, rfl, hv⟩ := hl.view
    clear hl hv
    go_wp2
    go_ret3
    exact ⟨by rw [HR.out]; rfl, hb1⟩
end Go.Proofs.YtgkjmmfpbcgmgaaDoor
