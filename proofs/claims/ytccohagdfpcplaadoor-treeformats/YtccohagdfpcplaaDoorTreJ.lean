/-
  Walks of the law's Few: entries copied.
-/
import Derived.Test.YtccohagdfpcplaaDoorTreI
import Derived.Laws.AppendOwn
namespace Go.Proofs.YtccohagdfpcplaaDoor
open Go.RowKit Go.WideMaps Go.Maps

/-- the cells of entries -/
def flatE : List EntB → List Value
  | [] => []
  | e :: es => .int .i64 e.1 :: .string e.2.1 :: .string e.2.2 :: flatE es
theorem flatE_len (es : List EntB) : (flatE es).length = es.length * 3 := by
  induction es with
  | nil => rfl
  | cons e es ih => simp only [flatE, List.length_cons, ih]; omega
theorem flatE_one (es : List EntB) : ∀ u ∈ flatE es, u.oneCell' = true := by
  induction es with
  | nil => intro u hu; cases hu
  | cons e es ih =>
    intro u hu
    simp only [flatE, List.mem_cons] at hu
    rcases hu with rfl | rfl | rfl | hu
    · rfl
    · rfl
    · rfl
    · exact ih u hu
theorem flatE_at (es : List EntB) : ∀ i, i < es.length → (flatE es)[i * 3]? = some (.int .i64 (es.getD i noE).1) ∧ (flatE es)[i * 3 + 1]? = some (.string (es.getD i noE).2.1) ∧ (flatE es)[i * 3 + 2]? = some (.string (es.getD i noE).2.2) := by
  induction es with
  | nil => intro i hi; cases hi
  | cons e es ih =>
    intro i hi
    cases i with
    | zero => exact ⟨rfl, rfl, rfl⟩
    | succ i =>
      have h := ih i (by simpa using hi)
      rw [show (i + 1) * 3 = i * 3 + 1 + 1 + 1 by omega]
      simp only [flatE, List.getElem?_cons_succ, List.getD_cons_succ]
      exact h
theorem flatE_news {w : World} {b off : Nat} {es : List EntB} (h : EntsAt w b off es) : ∀ j u, (flatE es)[j]? = some u → w.cell? ⟨b, off + j, none⟩ = some u := by
  intro j u hj
  have hl : j < es.length * 3 := by rw [← flatE_len]; exact (List.getElem?_eq_some_iff.1 hj).1
  have hi : j / 3 < es.length := by omega
  obtain ⟨f0, f1, f2⟩ := flatE_at es (j / 3) hi
  obtain ⟨c0, c1, c2⟩ := h (j / 3) hi
  have hr : j = j / 3 * 3 ∨ j = j / 3 * 3 + 1 ∨ j = j / 3 * 3 + 2 := by omega
  rcases hr with e | e | e
  · rw [e] at hj
    rw [f0] at hj
    rw [e, c0, ← hj]
  · rw [e] at hj
    rw [f1] at hj
    rw [e, ← Nat.add_assoc, c1, ← hj]
  · rw [e] at hj
    rw [f2] at hj
    rw [e, ← Nat.add_assoc, c2, ← hj]
theorem EntsAt.take {w : World} {b off : Nat} {es : List EntB} (h : EntsAt w b off es) (n : Nat) : EntsAt w b off (es.take n) := fun i hi => by
  rw [List.length_take] at hi
  have h1 := h i (by omega)
  have h2 : (es.take n).getD i noE = es.getD i noE := by rw [List.getD_eq_getElem?_getD, List.getD_eq_getElem?_getD, List.getElem?_take, if_pos (by omega)]
  rw [h2]
  exact h1
/-- what Few answers -/
def FewE (w0 : World) (es : List EntB) (e : Ending) (w : World) : Prop := ∃ g cap, e = .returned (.slice (some ⟨g, 0, none⟩) es.length cap) ∧ w0.heap.size ≤ g ∧ es.length ≤ cap ∧ EntsIn w (some ⟨g, 0, none⟩) es
theorem few_ret {w w' : World} {es : List EntB} {v : Value} (hown : w'.ownsRow w.heap.size 29 3 v es.length (flatE es)) (hnn : v ≠ .slice none 0 0) : FewE w es (.returned v) w' := by
  rcases hown.2 with ⟨hnil, _⟩ | ⟨g, cap, cur, rfl, hbase, hbk, h1, h2, h3, h4⟩
  · exact absurd hnil hnn
  · refine ⟨g, cap, rfl, hbase, h1, .inr ⟨g, 0, rfl, (Array.getElem?_eq_some_iff.1 hbk).1, fun i hi => ?_⟩⟩
    obtain ⟨f0, f1, f2⟩ := flatE_at es i hi
    have hc : ∀ j u, (flatE es)[j]? = some u → w'.cell? ⟨g, 0 + j, none⟩ = some u := fun j u hj => by
      have := World.ownsRow.cells hown (g := g) rfl j u hj
      rw [Addr.add_lit] at this
      exact this
    exact ⟨hc _ _ f0, by rw [Nat.add_assoc]; exact hc _ _ f1, by rw [Nat.add_assoc]; exact hc _ _ f2⟩
theorem info29 : (Tryd.prog.info? 29).map (fun i => (i.zero, i.size, i.bytes)) = some (some (.agg #[.int .i64 0, .string .empty, .string .empty]), 3, 40) := by kernel_rfl
/-- the slice of entries that a value is -/
def EntsV (w : World) (v : Value) (es : List EntB) : Prop := (v = .slice none 0 0 ∧ es = []) ∨ (∃ a c, v = .slice (some a) 0 c ∧ es = []) ∨ ∃ b off c, v = .slice (some ⟨b, off, none⟩) es.length c ∧ b < w.heap.size ∧ EntsAt w b off es ∧ es.length ≤ c
set_option maxHeartbeats 1600000 in
set_option maxRecDepth 100000 in
theorem few_nil (w : World) : Calls Tryd.prog 9 #[.slice none 0 0] w fun e w' => FewE w [] e w' ∧ Below w.heap.size w w' := by
  go_enter Tryd.func9, Tryd.ntmps9
  go_wp2_with fail
  go_ret
  exact ⟨⟨w.heap.size, 0, rfl, Nat.le_refl _, Nat.zero_le _, .inl rfl⟩, (Below.refl _ _).alloc (Nat.le_refl _) _⟩
set_option maxHeartbeats 1600000 in
set_option maxRecDepth 100000 in
theorem few_at (b off c : Nat) (es : List EntB) (w : World) (hf : EntsAt w b off es) (hcap : es.length ≤ c) :
    Calls Tryd.prog 9 #[.slice (some ⟨b, off, none⟩) es.length c] w fun e w' => FewE w (es.take 600) e w' ∧ Below w.heap.size w w' := by
  obtain ⟨i0, hi, hz0, hz1, hz2⟩ := info_parts info29
  have hf' := hf.take 600
  have HNW := hidM (flatE_news hf')
  have HON := hidM (flatE_one (es.take 600))
  have HLN := hidM (flatE_len (es.take 600))
  have HTL : Hid ((es.take 600).length = min 600 es.length) := by unfold Hid; simp
  have HRT := hidM (fun (w' : World) (v : Value) (h1 : w'.ownsRow w.heap.size 29 3 v (es.take 600).length (flatE (es.take 600))) h2 => few_ret (w := w) h1 h2)
  clear hf hf'
  by_cases hlt : 600 < es.length
  · have g1 : decide ((600 : Int) < (es.length : Int)) = true := by simp; omega
    have HM : Hid (min 600 es.length = 600) := by unfold Hid; omega
    rw [HM.out] at HTL
    rw [HTL.out] at HLN HRT
    generalize es.take 600 = us at *
    generalize flatE us = news at *
    have c0 : (600 : Int) ≤ (c : Int) := by omega
    clear HM
    go_enter Tryd.func9, Tryd.ntmps9
    go_wp2_with (at_builtin; refine wpList_append_own _ rfl _ _ 22 rfl w.heap.size 29 i0 (.agg #[.int .i64 0, .string .empty, .string .empty]) 3 40 Tryd.underlying22 hi hz0 hz1 hz2 rfl (by decide) _ _ _ rfl (World.ownsRow_made w #[] 0 (Nat.le_refl _) (Nat.zero_le _) (by simp)) ⟨b, off, none⟩ 600 c news rfl ?qc1 ?qc2 ?qc3 ?qc4 ?qc5 ?qc6 ?_)
    case qc1 => exact HLN.out
    case qc2 =>
      intro j u hj
      rw [Addr.add_lit]
      exact Lib.cell?_alloc_some _ (HNW.out j u hj)
    case qc3 => exact HON.out
    case qc4 => unfold maxLen; omega
    case qc5 => omega
    case qc6 => simp
    intro v' w1 hown hgrow hnil
    have HR := hidM (HRT.out w1 v' (by simpa using hown) hnil)
    have HB : Hid (Below w.heap.size w w1) := ((Below.refl _ w).alloc (Nat.le_refl _) _).grown hgrow (by simp) (by intro k hk; simp [Value.ownBlock] at hk; omega)
    clear hown hgrow hnil
    go_wp2
    go_ret
    exact ⟨HR.out, HB.out⟩
  · have g1 : decide ((600 : Int) < (es.length : Int)) = false := by simp; omega
    have HM : Hid (min 600 es.length = es.length) := by unfold Hid; omega
    rw [HM.out] at HTL
    rw [HTL.out] at HLN HRT
    generalize es.take 600 = us at *
    generalize flatE us = news at *
    have c0 : es.length ≤ 600 := by omega
    clear HM
    generalize es.length = L at *
    go_enter Tryd.func9, Tryd.ntmps9
    go_wp2_with (at_builtin; refine wpList_append_own _ rfl _ _ 22 rfl w.heap.size 29 i0 (.agg #[.int .i64 0, .string .empty, .string .empty]) 3 40 Tryd.underlying22 hi hz0 hz1 hz2 rfl (by decide) _ _ _ rfl (World.ownsRow_made w #[] 0 (Nat.le_refl _) (Nat.zero_le _) (by simp)) ⟨b, off, none⟩ L c news rfl ?qc1 ?qc2 ?qc3 ?qc4 ?qc5 ?qc6 ?_)
    case qc1 => exact HLN.out
    case qc2 =>
      intro j u hj
      rw [Addr.add_lit]
      exact Lib.cell?_alloc_some _ (HNW.out j u hj)
    case qc3 => exact HON.out
    case qc4 => unfold maxLen; omega
    case qc5 => omega
    case qc6 => simp
    intro v' w1 hown hgrow hnil
    have HR := hidM (HRT.out w1 v' (by simpa using hown) hnil)
    have HB : Hid (Below w.heap.size w w1) := ((Below.refl _ w).alloc (Nat.le_refl _) _).grown hgrow (by simp) (by intro k hk; simp [Value.ownBlock] at hk; omega)
    clear hown hgrow hnil
    go_wp2
    go_ret
    exact ⟨HR.out, HB.out⟩
set_option maxHeartbeats 1600000 in
set_option maxRecDepth 100000 in
theorem few_empty (ad : Addr) (c : Nat) (w : World) : Calls Tryd.prog 9 #[.slice (some ad) 0 c] w fun e w' => FewE w [] e w' ∧ Below w.heap.size w w' := by
  obtain ⟨i0, hi, hz0, hz1, hz2⟩ := info_parts info29
  have HRT := hidM (fun (w' : World) (v : Value) (h1 : w'.ownsRow w.heap.size 29 3 v 0 []) h2 => few_ret (w := w) (es := []) h1 h2)
  go_enter Tryd.func9, Tryd.ntmps9
  go_wp2_with (at_builtin; refine wpList_append_own _ rfl _ _ 22 rfl w.heap.size 29 i0 (.agg #[.int .i64 0, .string .empty, .string .empty]) 3 40 Tryd.underlying22 hi hz0 hz1 hz2 rfl (by decide) _ _ _ rfl (World.ownsRow_made w #[] 0 (Nat.le_refl _) (Nat.zero_le _) (by simp)) ad 0 c [] rfl rfl (by intro j u hj; simp at hj) (by intro u hu; cases hu) (by unfold maxLen; omega) (by omega) (by simp) ?_)
  intro v' w1 hown hgrow hnil
  have HR := hidM (HRT.out w1 v' (by simpa using hown) hnil)
  have HB : Hid (Below w.heap.size w w1) := ((Below.refl _ w).alloc (Nat.le_refl _) _).grown hgrow (by simp) (by intro k hk; simp [Value.ownBlock] at hk; omega)
  clear hown hgrow hnil
  go_wp2
  go_ret
  exact ⟨HR.out, HB.out⟩
theorem fewE_any (v : Value) (es : List EntB) (w : World) (h : EntsV w v es) : Calls Tryd.prog 9 #[v] w fun e w' => FewE w (es.take 600) e w' ∧ Below w.heap.size w w' := by
  rcases h with ⟨rfl, rfl⟩ | ⟨a, c, rfl, rfl⟩ | ⟨b, off, c, rfl, _, h2, h3⟩
  · exact few_nil w
  · exact few_empty a c w
  · exact few_at b off c es w h2 h3
end Go.Proofs.YtccohagdfpcplaaDoor
