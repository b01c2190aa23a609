/-
  Module files: Parse.
-/
import Derived.Test.YtgkjmmfpbcgmgaaDoorLexE
namespace Go.Proofs.YtgkjmmfpbcgmgaaDoor
open Go.RowKit

theorem row_words : ∀ (f : Nat) (l : List UInt8) ws b r, l.length < f → rowG f l ws b = some r → r.1.length ≤ ws.length + l.length ∧ (r.2.1 = b ∨ r.2.1 = 3 ∨ r.2.1 = 4)
  | 0, l, _, _, _, h, _ => absurd h (by omega)
  | f + 1, l, ws, b, r, hf, h => by
    rw [rowG] at h
    split at h
    · simp at h; subst h; exact ⟨by simp, .inl rfl⟩
    · rename_i h1
      split at h
      · simp at h; subst h; exact ⟨by simp, .inl rfl⟩
      · rename_i h2
        split at h
        · simp at h
        · rename_i h6
          have hl := tok_less h1 (by omega)
          have hk := tok_kind l
          split at h
          · obtain ⟨i1, i2⟩ := row_words f _ _ _ r (by omega) h
            exact ⟨by simp at i1; omega, i2⟩
          · obtain ⟨i1, i2⟩ := row_words f _ _ _ r (by omega) h
            exact ⟨by omega, by omega⟩
/-- directives that lie in memory from 'base' on -/
def LinesAt (w : World) (base : Nat) (lv : Value) (ls : List Ln) : Prop :=
  ∃ wvs, w.ownsRow base 37 3 lv ls.length (flatL ls wvs) ∧ wvs.length = ls.length ∧ ∀ i, i < ls.length → OwnW w 0 (wvs.getD i undef) (ls.getD i ([], [], 0)).2.1
theorem lines_none (w : World) (base : Nat) : LinesAt w base (.slice none 0 0) [] := ⟨[], ⟨rfl, .inl ⟨rfl, rfl⟩⟩, rfl, fun i hi => by simp at hi⟩
theorem ownsRow_mono {w : World} {A B : Nat} {e : TypeId} {z n : Nat} {v : Value} {xs : List Value} (h : w.ownsRow B e z v n xs) (hA : A ≤ B) : w.ownsRow A e z v n xs := by
  obtain ⟨hl, h2⟩ := h
  refine ⟨hl, ?_⟩
  rcases h2 with h2 | ⟨g, cap, cur, rfl, hB, hr⟩
  · exact .inl h2
  · exact .inr ⟨g, cap, cur, rfl, by omega, hr⟩
def ParPost (s : ByteArray) (w : World) (e : Ending) (w' : World) : Prop :=
  ∃ lv, e = .returned (.tuple #[lv, .int .i64 ((parL s.data.toList).2.1 : Int), .int .i64 ((parL s.data.toList).2.2 : Int)]) ∧ LinesAt w' w.heap.size lv (parL s.data.toList).1 ∧ Below w.heap.size w w'
theorem size44 : (Tryd.prog.info? 44).map (·.size) = some 2 := by kernel_rfl
theorem zero44 (w : World) : (zeroValue 44).run Tryd.prog w = .ok (.agg #[.string ⟨#[]⟩, .int .i64 0]) w := by kernel_rfl
theorem zero46 (w : World) : (zeroValue 46).run Tryd.prog w = .ok (.agg #[.slice none 0 0, .string ⟨#[]⟩]) w := by kernel_rfl
theorem parG_none {f : Nat} {l blk : List UInt8} {out : List Ln} {k : Nat} (hf : l.length < f) (h : rowL l = none) : parG f l blk out k = ([], k, 3) := by
  cases f with
  | zero => omega
  | succ f => rw [parG, h]
theorem parG_bad {f : Nat} {l blk : List UInt8} {out : List Ln} {k : Nat} {ws : List (List UInt8)} {b : Nat} {last : Bool} {t : List UInt8} (hf : l.length < f) (h : rowL l = some (ws, b, last, t)) (ht : takeD blk ws b k = none) : parG f l blk out k = ([], k, 3) := by
  cases f with
  | zero => omega
  | succ f => rw [parG, h]; simp only [ht]
theorem parG_last {f : Nat} {l blk blk' : List UInt8} {out x : List Ln} {k : Nat} {ws : List (List UInt8)} {b : Nat} {t : List UInt8} (hf : l.length < f) (h : rowL l = some (ws, b, true, t)) (ht : takeD blk ws b k = some (blk', x)) : parG f l blk out k = if blk' = [] then (out ++ x, 0, 0) else ([], k, 3) := by
  cases f with
  | zero => omega
  | succ f => rw [parG, h]; simp only [ht]; simp
theorem parG_next {f : Nat} {l blk blk' : List UInt8} {out x : List Ln} {k : Nat} {ws : List (List UInt8)} {b : Nat} {t : List UInt8} (hf : l.length < f) (h : rowL l = some (ws, b, false, t)) (ht : takeD blk ws b k = some (blk', x)) : parG f l blk out k = parG (f - 1) t blk' (out ++ x) (k + 1) ∧ t.length < f - 1 ∧ t.length < l.length := by
  obtain ⟨m, h1, h2, h3⟩ := row_suf _ _ _ _ _ (Nat.lt_succ_self _) h
  simp only at h2 h3
  have hl : t.length < l.length := by
    rw [h3, List.length_drop]
    simp at h2
    omega
  cases f with
  | zero => omega
  | succ f => rw [parG, h]; simp only [ht]; exact ⟨by simp, by omega, hl⟩
theorem take_len {blk : List UInt8} {ws : List (List UInt8)} {b k : Nat} {blk' : List UInt8} {x : List Ln} (h : takeD blk ws b k = some (blk', x)) : x.length ≤ 1 := by
  unfold takeD at h
  repeat' split at h
  all_goals first
    | (simp at h; done)
    | (simp only [Option.some.injEq, Prod.mk.injEq] at h; rw [← h.2]; simp)

set_option maxHeartbeats 4000000 in
set_option maxRecDepth 100000 in
theorem parse_any (s : ByteArray) (w : World) (hs : s.size ≤ 65536) :
    Calls Tryd.prog 9 #[.string s] w fun e w' => ParPost s w e w' := by
  have hsz : ¬ (65536 : Int) < (s.size : Int) := by omega
  obtain ⟨P, hP⟩ : ∃ P, P = parL s.data.toList := ⟨_, rfl⟩
  have HPP := hidM hP
  clear hP
  have HFIN : Hid (∀ lv ls a er V, P = (ls, a, er) → LinesAt V w.heap.size lv ls → Below w.heap.size w V → ∀ e, e = .returned (.tuple #[lv, .int .i64 (a : Int), .int .i64 (er : Int)]) → ParPost s w e V) := by
    intro lv ls a er V h1 h2 h3 e he
    unfold ParPost
    rw [← HPP.out, h1]
    exact ⟨lv, he, h2, h3⟩
  have hz4 := zero44
  have hz6 := zero46
  have hz9 := zero49
  have HN0 : Hid ((w.alloc (.cells #[.string ⟨#[]⟩, .int .i64 0] 44)).heap[w.heap.size]? = some (.cells #[.string ⟨#[]⟩, .int .i64 0] 44 (0, 0))) := heap_alloc_new w _
  go_enter Tryd.func9, Tryd.ntmps9
  go_upto_region 4 with (refine wpList_store_row rfl 44 (.tmp 5) (.tmp 13) rfl w.heap.size #[.string s, .int .i64 0] rfl rfl 44 #[.string ⟨#[]⟩, .int .i64 0] HN0.out size44 rfl (by simp [Value.oneCell']) ?_)
  have HB0 : Hid (RBox ((w.alloc (.cells #[.string ⟨#[]⟩, .int .i64 0] 44)).setRow w.heap.size #[.string s, .int .i64 0]) w.heap.size s 0) := setRow_heap _ _ _ _ 44 _ HN0.out
  have HL0 : Hid (Below w.heap.size w ((w.alloc (.cells #[.string ⟨#[]⟩, .int .i64 0] 44)).setRow w.heap.size #[.string s, .int .i64 0])) :=
    ((Below.refl _ w).alloc (Nat.le_refl _) _).trans ⟨rfl, rfl, rfl, by simp, fun k hk => setRow_other _ _ k _ (by omega)⟩
  have HE0 : Hid (((w.alloc (.cells #[.string ⟨#[]⟩, .int .i64 0] 44)).setRow w.heap.size #[.string s, .int .i64 0]).heap.size = w.heap.size + 1) := by unfold Hid; simp
  generalize (w.alloc (.cells #[.string ⟨#[]⟩, .int .i64 0] 44)).setRow w.heap.size #[.string s, .int .i64 0] = W0 at *
  clear HN0
  obtain ⟨E, hE⟩ : ∃ E, E = W0.heap.size := ⟨_, rfl⟩
  have HBE : Hid (w.heap.size < E) := by unfold Hid; rw [hE, HE0.out]; omega
  have HBL1 : Hid (Below W0.heap.size W0 (W0.alloc (.cells #[.slice none 0 0, .string ⟨#[]⟩] 46))) := (Below.refl _ W0).alloc (Nat.le_refl _) _
  have HD0 : Hid (DirX (W0.alloc (.cells #[.slice none 0 0, .string ⟨#[]⟩] 46)) E [] [] (.slice none 0 0) []) :=
    ⟨by rw [hE]; exact heap_alloc_new W0 _, ⟨rfl, .inl ⟨rfl, rfl⟩⟩, rfl, fun i hi => by simp at hi⟩
  have HB1 := hidM (HB0.out.below HBL1.out HB0.out.lt)
  have HL1 := hidM (HL0.out.trans (HBL1.out.mono (by have := HB0.out.lt; omega)))
  go_upto_block 0 with fail
  rw [← hE]
  generalize W0.alloc (.cells #[.slice none 0 0, .string ⟨#[]⟩] 46) = W1 at *
  clear hE HBL1 HB0 HL0 HE0
  go_wp2_with fail
  go_loopw [3, 7, 8, 14, 15, 16, 17, 18, 19, 20, 21, 22, 23, 24, 25, 26, 27, 28, 29, 30, 31, 32, 33, 34, 35, 36, 37] (fun v3 _ _ _ _ _ _ _ _ _ _ _ _ _ _ _ _ _ _ _ _ _ _ _ _ _ _ wr => ∃ f p k ls blk, v3 = .int .i64 ((k : Nat) : Int) ∧ RBox wr w.heap.size s p ∧ p ≤ s.size ∧ Dir wr E ls blk ∧ Below w.heap.size w wr ∧ (restL s p).length < f ∧ parG f (restL s p) blk ls k = P ∧ ls.length + 1 ≤ k ∧ k ≤ p + 1) (fun v3 _ _ _ _ _ _ _ _ _ _ _ _ _ _ _ _ _ _ _ _ _ _ _ _ _ _ wr => s.size - posOf w.heap.size wr)
  case atStart => exact ⟨_, 0, 1, [], [], rfl, HB1.out, Nat.zero_le _, ⟨_, _, HD0.out⟩, HL1.out, Nat.lt_succ_self _, by rw [HPP.out]; rfl, by simp, by omega⟩
  case round =>
    obtain ⟨f, p, k, ls, blk, rfl, hB, hp, ⟨lv, wvs, hD⟩, hL, hf, hpar, hk1, hk2⟩ := hrel
    clear HD0 HB1 HL1
    have HB := hidM hB
    have HD := hidM hD
    have HL := hidM hL
    have HF := hidM hf
    have HPR := hidM hpar
    have HROW := hidM (row_any w.heap.size s p wr hB (by omega) hp)
    unfold RowPost at HROW
    clear hB hD hL hf hpar
    cases hr : rowL (restL s p) with
    | none =>
      rw [hr] at HROW
      have HPE : Hid (P = ([], k, 3)) := by unfold Hid; rw [← HPR.out]; exact parG_none HF.out hr
      clear hr
      go_upto_region 7 with fail
      go_wp2_with fail
      refine HROW.out.mono ?_
      rintro _ w2 ⟨p2, rfl, hB2, hp2, hb2⟩
      have HL2 : Hid (Below w.heap.size w w2) := HL.out.trans ⟨hb2.os, hb2.tape, hb2.output, hb2.size, fun g hg => hb2.block g (by have := HB.out.lt; omega) (by omega)⟩
      have HN2 : Hid ((w2.alloc (.cells #[.slice none 0 0, .int .i64 0, .bool false] 49)).heap[w2.heap.size]? = some (.cells #[.slice none 0 0, .int .i64 0, .bool false] 49 (0, 0))) := heap_alloc_new w2 _
      clear hB2 hb2 HROW
      go_wp2_with (refine wpList_store_row rfl 49 (.tmp 7) (.tmp 18) rfl w2.heap.size #[.slice none 0 0, .int .i64 0, .bool false] rfl rfl 49 #[.slice none 0 0, .int .i64 0, .bool false] HN2.out size49 rfl (ones49 _ _ _ _ _) ?_)
      go_ret3
      refine HFIN.out _ _ _ _ _ HPE.out (lines_none _ _) ?_ _ rfl
      have hsz := HL2.out.size
      exact (HL2.out.alloc hsz _).trans ⟨rfl, rfl, rfl, by simp, fun g hg => setRow_other _ _ g _ (by omega)⟩
    | some R =>
      obtain ⟨ws, bk, last, rest⟩ := R
      rw [hr] at HROW
      simp only at HROW
      have HR := hidM hr
      obtain ⟨g1, g2⟩ := row_words _ _ _ _ _ (Nat.lt_succ_self _) hr
      have hws : ws.length ≤ 1000000 := by
        have := rest_len s p
        simp at g1
        omega
      have hbk : bk = 0 ∨ bk = 3 ∨ bk = 4 := g2
      clear hr g1 g2
      go_upto_region 7 with fail
      go_wp2_with fail
      refine HROW.out.mono ?_
      rintro _ w2 ⟨v, p2, rfl, hB2, hp2, hrest, hown, hb2⟩
      have HL2 : Hid (Below w.heap.size w w2) := HL.out.trans ⟨hb2.os, hb2.tape, hb2.output, hb2.size, fun g hg => hb2.block g (by have := HB.out.lt; omega) (by omega)⟩
      have HD2 := hidM (HD.out.but HB.out hb2 HBE.out)
      have HRS := hidM hrest
      obtain ⟨na, nc, hv⟩ := hown.isSlice
      have HN2 : Hid ((w2.alloc (.cells #[.slice none 0 0, .int .i64 0, .bool false] 49)).heap[w2.heap.size]? = some (.cells #[.slice none 0 0, .int .i64 0, .bool false] 49 (0, 0))) := heap_alloc_new w2 _
      have HONE : Hid ((#[v, .int .i64 (bk : Int), .bool last] : Array Value).all (·.oneCell') = true) := by rw [hv]; exact ones49 _ _ _ _ _
      have HB3 : Hid (Below w2.heap.size w2 ((w2.alloc (.cells #[.slice none 0 0, .int .i64 0, .bool false] 49)).setRow w2.heap.size #[v, .int .i64 (bk : Int), .bool last])) :=
        ((Below.refl _ w2).alloc (Nat.le_refl _) _).trans ⟨rfl, rfl, rfl, by simp, fun k hk => setRow_other _ _ k _ (by omega)⟩
      have HT3 : Hid (((w2.alloc (.cells #[.slice none 0 0, .int .i64 0, .bool false] 49)).setRow w2.heap.size #[v, .int .i64 (bk : Int), .bool last]).heap[w2.heap.size]? = some (rowB v bk last)) := setRow_heap _ _ _ _ 49 _ HN2.out
      have HD3 := hidM (HD2.out.below HB3.out (Nat.le_refl _))
      have HO3 : Hid (OwnW _ 0 v ws) := ownW_below (ownW_mono hown (Nat.zero_le _)) HB3.out (Nat.le_refl _)
      have HL3 := hidM (HL2.out.trans (HB3.out.mono HL2.out.size))
      have HBX := hidM (hB2.below HB3.out hB2.lt)
      clear hB2 hb2 HROW hown hrest hv
      go_upto_region 8 with (refine wpList_store_row rfl 49 (.tmp 7) (.tmp 18) rfl w2.heap.size #[v, .int .i64 (bk : Int), .bool last] rfl rfl 49 #[.slice none 0 0, .int .i64 0, .bool false] HN2.out size49 rfl HONE.out ?_)
      generalize (w2.alloc (.cells #[.slice none 0 0, .int .i64 0, .bool false] 49)).setRow w2.heap.size #[v, .int .i64 (bk : Int), .bool last] = W3 at *
      clear HB3 HD2 HN2 HONE HL2
      generalize w2.heap.size = TT at *
      obtain ⟨t0, t1, t2, _⟩ := row_cells HT3.out
      have HTK := hidM (dtake_any E ls blk lv wvs v ws bk last k W3 HD3.out HO3.out hbk (by omega) hws)
      unfold TakePost at HTK
      cases ht : takeD blk ws bk k with
      | none =>
        rw [ht] at HTK
        have HPE : Hid (P = ([], k, 3)) := by unfold Hid; rw [← HPR.out]; exact parG_bad HF.out HR.out ht
        clear ht
        go_wp2_with fail
        refine HTK.out.mono ?_
        rintro _ w4 ⟨rfl, hb4⟩
        have HL4 := hidM (HL3.out.trans (hb4.mono (Nat.le_of_lt HBE.out)))
        clear hb4 HTK
        go_wp2
        go_ret3
        exact HFIN.out _ _ _ _ _ HPE.out (lines_none _ _) HL4.out _ rfl
      | some y =>
        obtain ⟨blk', x⟩ := y
        rw [ht] at HTK
        simp only at HTK
        have HT := hidM ht
        have hx1 := take_len ht
        clear ht
        go_wp2_with fail
        refine HTK.out.mono ?_
        rintro _ w4 ⟨rfl, ⟨lv4, wvs4, hD4⟩, hb4, hk4⟩
        have HL4 := hidM (HL3.out.trans (hb4.mono (Nat.le_of_lt HBE.out)))
        have HB4 := hidM (HBX.out.below hb4 HBE.out)
        have HD4 := hidM hD4
        obtain ⟨_, _, y2, _⟩ := row_cells (hk4 _ _ HT3.out)
        obtain ⟨e0, e1, _⟩ := dir_cells hD4.box
        obtain ⟨B4, hB4⟩ : ∃ B4 : ByteArray, B4 = ⟨blk'.toArray⟩ := ⟨_, rfl⟩
        have HBL : Hid (B4.toList = blk') := by unfold Hid; rw [hB4, Lib.toList_data]
        rw [← hB4] at e1
        clear hD4 hb4 hk4 HTK t0 t1 t2 HT3 HD3 HO3 HL3 HBX hB4
        cases last with
        | false =>
          obtain ⟨g1, g2, g3⟩ := parG_next (out := ls) HF.out HR.out HT.out
          have HG : Hid ((restL s p2).length < f - 1 ∧ parG (f - 1) (restL s p2) blk' (ls ++ x) (k + 1) = P) := ⟨by rw [HRS.out]; exact g2, by rw [HRS.out, ← g1, HPR.out]⟩
          have HLT : Hid (p < p2) := by
            rw [← HRS.out, rest_len, rest_len] at g3
            unfold Hid
            omega
          clear g1 g2 g3
          go_wp2
          go_roundw
          case rel => exact ⟨f - 1, p2, k + 1, ls ++ x, blk', by go_num, HB4.out, hp2, ⟨lv4, wvs4, HD4.out⟩, HL4.out, HG.out.1, HG.out.2, by simp; omega, by have := HLT.out; omega⟩
          case measure =>
            show s.size - posOf _ _ < s.size - posOf _ wr
            rw [posOf_box HB4.out, posOf_box HB.out]
            have := HLT.out
            omega
        | true =>
          have HPL : Hid (P = if blk' = [] then (ls ++ x, 0, 0) else ([], k, 3)) := by unfold Hid; rw [← HPR.out]; exact parG_last HF.out HR.out HT.out
          by_cases hb0 : blk' = []
          · rw [if_pos hb0] at HPL
            have h3 : B4.toList.isEmpty = true := by rw [HBL.out, hb0]; rfl
            have HLA : Hid (LinesAt w4 w.heap.size lv4 (ls ++ x)) := ⟨wvs4, ownsRow_mono HD4.out.own (by have := HBE.out; omega), HD4.out.len, HD4.out.words⟩
            clear hb0
            go_wp2
            go_ret3
            exact HFIN.out _ _ _ _ _ HPL.out HLA.out HL4.out _ rfl
          · rw [if_neg hb0] at HPL
            have h3 : B4.toList.isEmpty = false := by
              rw [HBL.out]
              cases blk' with
              | nil => exact absurd rfl hb0
              | cons _ _ => rfl
            clear hb0
            go_wp2
            go_ret3
            exact HFIN.out _ _ _ _ _ HPL.out (lines_none _ _) HL4.out _ rfl
end Go.Proofs.YtgkjmmfpbcgmgaaDoor
