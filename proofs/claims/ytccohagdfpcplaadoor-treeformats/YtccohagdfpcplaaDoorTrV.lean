/-
  Few, with the row that it owns; entries that change places, and that are taken out.
-/
import Derived.Test.YtccohagdfpcplaaDoorTrU
import Derived.Test.YtccohagdfpcplaaDoorTreK
namespace Go.Proofs.YtccohagdfpcplaaDoor
open Go.RowKit

def FewO (w0 : World) (es : List EntB) (e : Ending) (w : World) : Prop := ∃ v, e = .returned v ∧ w.ownsRow w0.heap.size 29 3 v es.length (flatE es) ∧ v ≠ .slice none 0 0
theorem few_own {w w' : World} {es : List EntB} {v : Value} (hown : w'.ownsRow w.heap.size 29 3 v es.length (flatE es)) (hnn : v ≠ .slice none 0 0) : FewO w es (.returned v) w' := ⟨v, rfl, hown, hnn⟩
set_option maxHeartbeats 1600000 in
set_option maxRecDepth 100000 in
theorem fewO_nil (w : World) : Calls Tryd.prog 9 #[.slice none 0 0] w fun e w' => FewO w [] e w' ∧ Below w.heap.size w w' := by
  go_enter Tryd.func9, Tryd.ntmps9
  go_wp2_with fail
  go_ret
  exact ⟨⟨_, rfl, World.ownsRow_made w #[] 0 (Nat.le_refl _) (Nat.zero_le _) (by simp), by intro h; cases h⟩, (Below.refl _ _).alloc (Nat.le_refl _) _⟩
set_option maxHeartbeats 1600000 in
set_option maxRecDepth 100000 in
theorem fewO_at (b off c : Nat) (es : List EntB) (w : World) (hf : EntsAt w b off es) (hcap : es.length ≤ c) :
    Calls Tryd.prog 9 #[.slice (some ⟨b, off, none⟩) es.length c] w fun e w' => FewO w (es.take 600) e w' ∧ Below w.heap.size w w' := by
  obtain ⟨i0, hi, hz0, hz1, hz2⟩ := info_parts info29
  have hf' := hf.take 600
  have HNW := hidM (flatE_news hf')
  have HON := hidM (flatE_one (es.take 600))
  have HLN := hidM (flatE_len (es.take 600))
  have HTL : Hid ((es.take 600).length = min 600 es.length) := by unfold Hid; simp
  have HRT := hidM (fun (w' : World) (v : Value) (h1 : w'.ownsRow w.heap.size 29 3 v (es.take 600).length (flatE (es.take 600))) h2 => few_own (w := w) h1 h2)
  clear hf hf'
  by_cases hlt : 600 < es.length
  · have g1 : decide ((600 : Int) < (es.length : Int)) = true := by simp; omega
    have HM : Hid (min 600 es.length = 600) := by unfold Hid; omega
    rw [HM.out] at HTL
    rw [HTL.out] at HLN HRT
    generalize es.take 600 = us at *
    generalize flatE us = news at *
    have c0 : (600 : Int) ≤ (c : Int) := by omega
    clear HM
    go_enter Tryd.func9, Tryd.ntmps9
    go_wp2_with (at_builtin; refine wpList_append_own _ rfl _ _ 22 rfl w.heap.size 29 i0 (.agg #[.int .i64 0, .string .empty, .string .empty]) 3 40 Tryd.underlying22 hi hz0 hz1 hz2 rfl (by decide) _ _ _ rfl (World.ownsRow_made w #[] 0 (Nat.le_refl _) (Nat.zero_le _) (by simp)) ⟨b, off, none⟩ 600 c news rfl ?qc1 ?qc2 ?qc3 ?qc4 ?qc5 ?qc6 ?_)
    case qc1 => exact HLN.out
    case qc2 =>
      intro j u hj
      rw [Addr.add_lit]
      exact Lib.cell?_alloc_some _ (HNW.out j u hj)
    case qc3 => exact HON.out
    case qc4 => unfold maxLen; omega
    case qc5 => omega
    case qc6 => simp
    intro v' w1 hown hgrow hnil
    have HR := hidM (HRT.out w1 v' (by simpa using hown) hnil)
    have HB : Hid (Below w.heap.size w w1) := ((Below.refl _ w).alloc (Nat.le_refl _) _).grown hgrow (by simp) (by intro k hk; simp [Value.ownBlock] at hk; omega)
    clear hown hgrow hnil
    go_wp2
    go_ret
    exact ⟨HR.out, HB.out⟩
  · have g1 : decide ((600 : Int) < (es.length : Int)) = false := by simp; omega
    have HM : Hid (min 600 es.length = es.length) := by unfold Hid; omega
    rw [HM.out] at HTL
    rw [HTL.out] at HLN HRT
    generalize es.take 600 = us at *
    generalize flatE us = news at *
    have c0 : es.length ≤ 600 := by omega
    clear HM
    generalize es.length = L at *
    go_enter Tryd.func9, Tryd.ntmps9
    go_wp2_with (at_builtin; refine wpList_append_own _ rfl _ _ 22 rfl w.heap.size 29 i0 (.agg #[.int .i64 0, .string .empty, .string .empty]) 3 40 Tryd.underlying22 hi hz0 hz1 hz2 rfl (by decide) _ _ _ rfl (World.ownsRow_made w #[] 0 (Nat.le_refl _) (Nat.zero_le _) (by simp)) ⟨b, off, none⟩ L c news rfl ?qc1 ?qc2 ?qc3 ?qc4 ?qc5 ?qc6 ?_)
    case qc1 => exact HLN.out
    case qc2 =>
      intro j u hj
      rw [Addr.add_lit]
      exact Lib.cell?_alloc_some _ (HNW.out j u hj)
    case qc3 => exact HON.out
    case qc4 => unfold maxLen; omega
    case qc5 => omega
    case qc6 => simp
    intro v' w1 hown hgrow hnil
    have HR := hidM (HRT.out w1 v' (by simpa using hown) hnil)
    have HB : Hid (Below w.heap.size w w1) := ((Below.refl _ w).alloc (Nat.le_refl _) _).grown hgrow (by simp) (by intro k hk; simp [Value.ownBlock] at hk; omega)
    clear hown hgrow hnil
    go_wp2
    go_ret
    exact ⟨HR.out, HB.out⟩
set_option maxHeartbeats 1600000 in
set_option maxRecDepth 100000 in
theorem fewO_empty (ad : Addr) (c : Nat) (w : World) : Calls Tryd.prog 9 #[.slice (some ad) 0 c] w fun e w' => FewO w [] e w' ∧ Below w.heap.size w w' := by
  obtain ⟨i0, hi, hz0, hz1, hz2⟩ := info_parts info29
  have HRT := hidM (fun (w' : World) (v : Value) (h1 : w'.ownsRow w.heap.size 29 3 v 0 []) h2 => few_own (w := w) (es := []) h1 h2)
  go_enter Tryd.func9, Tryd.ntmps9
  go_wp2_with (at_builtin; refine wpList_append_own _ rfl _ _ 22 rfl w.heap.size 29 i0 (.agg #[.int .i64 0, .string .empty, .string .empty]) 3 40 Tryd.underlying22 hi hz0 hz1 hz2 rfl (by decide) _ _ _ rfl (World.ownsRow_made w #[] 0 (Nat.le_refl _) (Nat.zero_le _) (by simp)) ad 0 c [] rfl rfl (by intro j u hj; simp at hj) (by intro u hu; cases hu) (by unfold maxLen; omega) (by omega) (by simp) ?_)
  intro v' w1 hown hgrow hnil
  have HR := hidM (HRT.out w1 v' (by simpa using hown) hnil)
  have HB : Hid (Below w.heap.size w w1) := ((Below.refl _ w).alloc (Nat.le_refl _) _).grown hgrow (by simp) (by intro k hk; simp [Value.ownBlock] at hk; omega)
  clear hown hgrow hnil
  go_wp2
  go_ret
  exact ⟨HR.out, HB.out⟩

theorem less_irr : ∀ a : List UInt8, Op.bytesLess a a = false
  | [] => rfl
  | x :: a => by rw [less_cons, less_irr a]; simp
theorem less_asym {a b : List UInt8} (h : Op.bytesLess a b = true) : Op.bytesLess b a = false := by
  cases h2 : Op.bytesLess b a with
  | false => rfl
  | true => have := less_trans a b a h h2; rw [less_irr] at this; cases this
def swapE (es : List EntB) (i j : Nat) : List EntB := (es.set i (es.getD j noE)).set j (es.getD i noE)
def lessE (es : List EntB) (i : Nat) : List EntB := es.take i ++ es.drop (i + 1)
theorem chk_r {es : List EntB} (h : checkV es = 0) : es.length ≤ 500 ∧ ∀ i, i < es.length → rstep es i := by
  obtain ⟨h1, h2⟩ := chk_steps h
  exact ⟨h1, step_all.1 h2⟩
theorem getD_set_self {es : List EntB} {i : Nat} (h : i < es.length) (x : EntB) : (es.set i x).getD i noE = x := by
  rw [List.getD_eq_getElem?_getD, List.getElem?_set_self h]; rfl
theorem getD_set_ne {es : List EntB} {i k : Nat} (h : i ≠ k) (x : EntB) : (es.set i x).getD k noE = es.getD k noE := by
  rw [List.getD_eq_getElem?_getD, List.getElem?_set_ne h, List.getD_eq_getElem?_getD]
theorem swap_bad {es : List EntB} (h : checkV es = 0) {i j : Nat} (hij : i < j) (hj : j < es.length) : checkV (swapE es i j) = 4 := by
  obtain ⟨h5, hs⟩ := chk_r h
  have hl : (swapE es i j).length = es.length := by unfold swapE; rw [List.length_set, List.length_set]
  have ei : (swapE es i j).getD i noE = es.getD j noE := by
    unfold swapE
    rw [getD_set_ne (by omega), getD_set_self (by omega)]
  have ej : (swapE es i j).getD j noE = es.getD i noE := by
    unfold swapE
    rw [getD_set_self (by rw [List.length_set]; exact hj)]
  unfold checkV
  rw [if_neg (by omega)]
  refine chkr_no (i := j) (by omega) (fun hr => ?_)
  have h1 := (hr.2 i hij).2
  unfold keyE at h1
  rw [ei, ej] at h1
  have h2 := ((hs j hj).2 i hij).2
  unfold keyE at h2
  rw [less_asym h2] at h1
  cases h1
theorem less_at {es : List EntB} {i k : Nat} (hi : i < es.length) : (lessE es i).getD k noE = es.getD (if k < i then k else k + 1) noE := by
  unfold lessE
  rw [List.getD_eq_getElem?_getD, List.getD_eq_getElem?_getD]
  by_cases hk : k < i
  · rw [if_pos hk, List.getElem?_append_left (by rw [List.length_take]; omega), List.getElem?_take, if_pos hk]
  · rw [if_neg hk, List.getElem?_append_right (by rw [List.length_take]; omega), List.getElem?_drop, List.length_take]
    congr 2
    omega
theorem less_ok {es : List EntB} (h : checkV es = 0) {i : Nat} (hi : i < es.length) : checkV (lessE es i) = 0 := by
  obtain ⟨h5, hs⟩ := chk_r h
  have hl : (lessE es i).length = es.length - 1 := by unfold lessE; rw [List.length_append, List.length_take, List.length_drop]; omega
  unfold checkV
  rw [if_neg (by omega)]
  refine chkr_yes (fun k hk => ?_)
  have hk2 : (if k < i then k else k + 1) < es.length := by split <;> omega
  obtain ⟨a, b⟩ := hs _ hk2
  refine ⟨by rw [less_at hi]; exact a, fun j hj => ?_⟩
  have hj2 : (if j < i then j else j + 1) < (if k < i then k else k + 1) := by split <;> split <;> omega
  have := b _ hj2
  unfold keyE at this ⊢
  rw [less_at hi, less_at hi]
  exact this
end Go.Proofs.YtccohagdfpcplaaDoor
