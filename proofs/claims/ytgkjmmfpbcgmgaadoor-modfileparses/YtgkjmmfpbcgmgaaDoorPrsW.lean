/-
  ModfileParses: the law's walk.
-/
import Derived.Test.YtgkjmmfpbcgmgaaDoorJoiW
import Derived.Test.YtgkjmmfpbcgmgaaDoorRmW
import Derived.Test.YtgkjmmfpbcgmgaaDoorSamB
namespace Go.Proofs.YtgkjmmfpbcgmgaaDoor
open Go.RowKit

/-- a line has no more words than the text has bytes -/
theorem words_par : ∀ (f : Nat) (l blk : List UInt8) (out : List Ln) (k M : Nat), l.length < f → l.length ≤ M → (∀ x ∈ out, x.2.1.length ≤ M) → ∀ x ∈ (parG f l blk out k).1, x.2.1.length ≤ M
  | 0, l, _, _, _, _, h, _, _ => absurd h (by omega)
  | f + 1, l, blk, out, k, M, hf, hM, ho => by
    cases hr : rowL l with
    | none => rw [parG_none hf hr]; simp
    | some r =>
      obtain ⟨ws, b, last, t⟩ := r
      have hws : ws.length ≤ l.length := by have := (row_words (l.length + 1) l [] 0 _ (Nat.lt_succ_self _) hr).1; simpa using this
      cases ht : takeD blk ws b k with
      | none => rw [parG_bad hf hr ht]; simp
      | some y =>
        obtain ⟨blk', x⟩ := y
        have hx : ∀ z ∈ x, z.2.1.length ≤ M := by
          intro z hz
          unfold takeD at ht
          repeat' split at ht
          all_goals first
            | (simp at ht; done)
            | (simp only [Option.some.injEq, Prod.mk.injEq] at ht; obtain ⟨_, rfl⟩ := ht; simp at hz; try (subst hz; simp at hws ⊢; omega))
        have hox : ∀ z ∈ out ++ x, z.2.1.length ≤ M := fun z hz => by
          rcases List.mem_append.1 hz with h | h
          · exact ho z h
          · exact hx z h
        cases last with
        | true =>
          rw [parG_last hf hr ht]
          split
          · exact hox
          · simp
        | false =>
          obtain ⟨h1, h2, h3⟩ := parG_next (out := out) hf hr ht
          rw [h1]
          exact words_par f t blk' (out ++ x) (k + 1) M (by simpa using h2) (by omega) hox
theorem words_le (l : List UInt8) (k : Nat) : ((parL l).1.getD k noL).2.1.length ≤ l.length := by
  have h := words_par (l.length + 1) l [] [] 1 l.length (Nat.lt_succ_self _) (Nat.le_refl _) (by simp)
  unfold parL
  by_cases hk : k < (parG (l.length + 1) l [] [] 1).1.length
  · refine h _ ?_
    simp [List.getD, hk]
  · simp [List.getD, List.getElem?_eq_none (Nat.le_of_not_lt hk), noL]
theorem OwnW.win {w : World} {B : Nat} {v : Value} {l : List (List UInt8)} (h : OwnW w B v l) : WIn w v (l.map mkB) := by
  have h2 : OwnS w B v (l.map mkB) := by
    unfold OwnS strsV
    unfold OwnW at h
    rw [List.length_map, List.map_map]
    exact h
  exact h2.win
theorem win_dn {w : World} {v : Value} {l : List ByteArray} (h : WIn w v l) (q : Nat) : WIn (w.drewN q) v l := h.keep fun _ _ _ => rfl
set_option maxHeartbeats 4000000 in
set_option maxRecDepth 100000 in
theorem parses_walk (s : ByteArray) (w : World) : Calls Tryd.prog 3 #[.string s] w fun e w' => e = .returned (.bool true) ∧ Below w.heap.size w w' := by
  have HF1 := hidM (few_any s 4000 w (by omega))
  have hz1 := fewB_size s 4000
  generalize fewB s 4000 = S at *
  have HP1 := hidM (fun V => parse_any S V (by omega))
  have HP2 := hidM (fun V => rparse_any S V (by omega))
  have HM1 := hidM (fun V => module_any S V (by omega))
  have HM2 := hidM (fun V => rmodule_any S V (by omega))
  unfold ParPost at HP1
  unfold RParPost at HP2
  unfold ModQ at HM1 HM2
  have hl1 : (parL S.data.toList).1.length ≤ 4001 := by have := parL_len S.data.toList; rw [sl_len] at this; omega
  have HWL : Hid (∀ k, ((parL S.data.toList).1.getD k noL).2.1.length ≤ 1000000) := by
    intro k
    have := words_le S.data.toList k
    rw [sl_len] at this
    omega
  generalize parL S.data.toList = P at *
  generalize modL S.data.toList = M at *
  obtain ⟨X, xa, xe⟩ := P
  obtain ⟨M1, ma, me⟩ := M
  simp only at HP1 HP2 HM1 HM2 hl1 HWL
  obtain ⟨MB, hMB⟩ : ∃ MB : ByteArray, MB = ⟨M1.toArray⟩ := ⟨_, rfl⟩
  rw [← hMB] at HM1 HM2
  clear hMB
  have HEND : Hid (∀ V, Below w.heap.size w V → Calls Tryd.prog 13 #[] V fun e w' => e = .returned (.bool true) ∧ Below V.heap.size V w') := fun V _ => awake_any V
  go_enter Tryd.func3, Tryd.ntmps3
  go_wp2_with fail
  refine HF1.out.mono ?_
  rintro _ w0 ⟨rfl, hw⟩
  rw [hw]
  clear hw HF1
  go_wp2_with fail
  refine (HP1.out _).mono ?_
  rintro _ w1 ⟨lv1, rfl, hv1, hb1⟩
  obtain ⟨a1, c1, rfl, hq1⟩ := hv1.view
  have HB1 := hidM hb1
  have HV1 := hidM hq1
  clear hb1 hv1 hq1 HP1
  go_wp2_with fail
  refine (HP2.out _).mono ?_
  rintro _ w2 ⟨lv2, rfl, hv2, hb2⟩
  obtain ⟨a2, c2, rfl, hq2⟩ := hv2.view
  have HV1b := hidM (HV1.out.below hb2)
  have HB2 := hidM (HB1.out.trans (hb2.mono HB1.out.size))
  have HV2 := hidM hq2
  clear hb2 hv2 hq2 HP2 HV1 HB1
  go_wp2_with fail
  refine (HM1.out _).mono ?_
  rintro _ w3 ⟨rfl, hb3⟩
  have HX3 := hidM (HV1b.out.below hb3)
  have HY3 := hidM (HV2.out.below hb3)
  have HB3 := hidM (HB2.out.trans (hb3.mono HB2.out.size))
  clear hb3 HM1 HV1b HV2 HB2
  go_wp2_with fail
  refine (HM2.out _).mono ?_
  rintro _ w4 ⟨rfl, hb4⟩
  have HX4 := hidM (HX3.out.below hb4)
  have HY4 := hidM (HY3.out.below hb4)
  have HB4 := hidM (HB3.out.trans (hb4.mono HB3.out.size))
  clear hb4 HM2 HX3 HY3 HB3
  obtain ⟨lx, hlx⟩ : ∃ n, n = X.length := ⟨_, rfl⟩
  rw [← hlx] at hl1
  rw [← hlx]
  have HLX := hidM hlx
  clear hlx
  go_wp2_with fail
  refine (HEND.out _ HB4.out).mono ?_
  rintro _ w5 ⟨rfl, hb5⟩
  have HX := hidM (HX4.out.below hb5)
  have HY := hidM (HY4.out.below hb5)
  have HB := hidM (HB4.out.trans (hb5.mono HB4.out.size))
  clear hb5 HEND HX4 HY4 HB4
  go_wp2
  go_loopw [78] (fun v78 wr => ∃ k q : Nat, k ≤ lx ∧ v78 = .int .i64 (k : Int) ∧ wr = w5.drewN q) (fun v78 _ => lx - (intOf v78).toNat)
  case atStart => exact ⟨0, 0, Nat.zero_le _, rfl, rfl⟩
  case round =>
    obtain ⟨k, q, hk, rfl, hwr⟩ := hrel
    have HWR := hidM hwr
    by_cases hlt : k < lx
    · have kk : (k : Int) < (lx : Int) := by omega
      have hkl : k < X.length := by rw [← HLX.out]; exact hlt
      obtain ⟨g, off, rfl, hg, hat⟩ := HX.out.at hkl
      obtain ⟨na, nc, z0, z1, z2, hw⟩ := hat k hkl
      obtain ⟨g2, off2, rfl, hg2, hat2⟩ := HY.out.at hkl
      obtain ⟨na2, nc2, y0, y1, y2, hw2⟩ := hat2 k hkl
      have hwl := HWL.out k
      clear hat hat2
      generalize X.getD k noL = L at *
      obtain ⟨verb, words, la⟩ := L
      simp only at z0 z1 z2 y0 y1 y2 hw hw2 hwl
      unfold strV at z0 y0
      have HS : Hid (∀ n, Calls Tryd.prog 14 #[.slice na words.length nc, .slice na2 words.length nc2] (wr.drewN n) fun e w' => e = .returned (.bool true) ∧ ∃ m, w' = (wr.drewN n).drewN m) := by
        intro n
        have e1 := win_dn (win_dn hw.win q) n
        have e2 := win_dn (win_dn hw2 q) n
        rw [← HWR.out] at e1 e2
        exact same_yes _ _ (words.map mkB) _ e1 e2 (by rw [List.length_map]; exact hwl)
      replace z0 : wr.cell? ⟨g, off + k * 3, none⟩ = some (.string ⟨verb.toArray⟩) := by rw [hwr]; exact z0
      replace z1 : wr.cell? ⟨g, off + k * 3 + 1, none⟩ = some (.slice na words.length nc) := by rw [hwr]; exact z1
      replace z2 : wr.cell? ⟨g, off + k * 3 + 2, none⟩ = some (.int .i64 (la : Int)) := by rw [hwr]; exact z2
      replace y0 : wr.cell? ⟨g2, off2 + k * 3, none⟩ = some (.string ⟨verb.toArray⟩) := by rw [hwr]; exact y0
      replace y1 : wr.cell? ⟨g2, off2 + k * 3 + 1, none⟩ = some (.slice na2 words.length nc2) := by rw [hwr]; exact y1
      replace y2 : wr.cell? ⟨g2, off2 + k * 3 + 2, none⟩ = some (.int .i64 (la : Int)) := by rw [hwr]; exact y2
      clear hw hw2 hwr hwl
      generalize words.length = nw at *
      generalize (⟨verb.toArray⟩ : ByteArray) = VB at *
      go_wp2_with fail
      go_quiet ((go_at_call 14; with_reducible exact Calls.quiet_of (HS.out _)))
      go_wp2
      go_roundw
      case rel => exact ⟨k + 1, q + nq, by omega, by go_num, by rw [HWR.out, World.drewN_drewN]⟩
      case measure => (show lx - ((k : Int) + 1).toNat < lx - ((k : Int)).toNat); omega
    · have kk : ¬ (k : Int) < (lx : Int) := by omega
      clear hwr
      go_wp2
      go_ret
      exact ⟨rfl, by rw [HWR.out]; exact below_dn HB.out _⟩
end Go.Proofs.YtgkjmmfpbcgmgaaDoor
