/-
  The lanes of a picture: take, row and Clone.
-/
import Derived.Test.YthgmabbnmoembaaDoorGraD
namespace Go.Proofs.YthgmabbnmoembaaDoor
open Go.RowKit

/-- the blocks of the lanes: the variable's own, and the row's -/
def LX (B : Nat) (v : Value) : Nat → Prop := fun k => k = B ∨ v.ownBlock = some k
structure LBx (w : World) (B : Nat) (v : Value) (l : List Int) : Prop where
  box : w.heap[B]? = some (.cells #[v] 45 (0, 0))
  own : OwnI w (B + 1) v l
theorem LBx.lt {w : World} {B : Nat} {v : Value} {l : List Int} (h : LBx w B v l) : B < w.heap.size := (Array.getElem?_eq_some_iff.1 h.box).1
theorem LBx.cell {w : World} {B : Nat} {v : Value} {l : List Int} (h : LBx w B v l) : w.cell? ⟨B, 0, none⟩ = some v := by rw [cell_of_row w _ _ _ 45 (0, 0) h.box]; rfl
theorem LBx.froz {w : World} {B : Nat} {v : Value} {l : List Int} (h : LBx w B v l) : w.frozen? ⟨B, 0, none⟩ = false := frozen_of_row w _ 0 _ 45 h.box
theorem LBx.below {w w' : World} {B : Nat} {v : Value} {l : List Int} (h : LBx w B v l) (hb : Below w.heap.size w w') : LBx w' B v l := ⟨(hb.block B h.lt).trans h.box, OwnV.below h.own hb⟩
/-- what a step on the lanes leaves: blocks that are theirs now were theirs, or are new -/
structure LStep (B : Nat) (w : World) (v : Value) (w' : World) (v' : Value) (l' : List Int) : Prop where
  lb : LBx w' B v' l'
  but : But (LX B v) w w'
  own : ∀ k, LX B v' k → LX B v k ∨ w.heap.size ≤ k
theorem LStep.trans {B : Nat} {w w1 w2 : World} {v v1 v2 : Value} {l1 l2 : List Int} (h : LStep B w v w1 v1 l1) (k : LStep B w1 v1 w2 v2 l2) : LStep B w v w2 v2 l2 :=
  ⟨k.lb, h.but.trans k.but (fun j hj hx => by rcases h.own j hx with h2 | h2; exact h2; omega), fun j hx => by
    rcases k.own j hx with h2 | h2
    · exact h.own j h2
    · right; have := h.but.size; omega⟩
theorem LStep.below {B : Nat} {w w' : World} {v v' : Value} {l l' : List Int} (h : LStep B w v w' v' l') (h0 : LBx w B v l) : Below B w w' :=
  h.but.below (Nat.le_of_lt h0.lt) (fun k hk => by
    rcases hk with rfl | hk
    · exact Nat.le_refl _
    · have := (OwnV.lt h0.own hk).1; omega)
theorem LBx.set {w : World} {B g n c : Nat} {l : List Int} (h : LBx w B (.slice (some ⟨g, 0, none⟩) n c) l) (j : Nat) (x : Int) : LStep B w (.slice (some ⟨g, 0, none⟩) n c) (w.setCell ⟨g, j, none⟩ (.int .i64 x)) (.slice (some ⟨g, 0, none⟩) n c) (l.set j x) := by
  have hBg : B + 1 ≤ g := (OwnV.lt h.own (k := g) rfl).1
  refine ⟨⟨?_, h.own.stored j x⟩, (But.set w g j _).mono (fun k _ hk => .inr (by rw [hk]; rfl)), fun k hk => .inl hk⟩
  rw [heap_setCell_other w ⟨g, j, none⟩ B _ (by simp; omega)]
  exact h.box
def freeL (l : List Int) (c : Int) : List Int := if takeK l c < l.length then l else l ++ [-1]
theorem freeL_len (l : List Int) (c : Int) : takeK l c < (freeL l c).length := by
  unfold freeL; have := takeK_le l c; split <;> simp <;> omega
theorem freeL_set (l : List Int) (c x : Int) : (freeL l c).set (takeK l c) x = setL l (takeK l c) x := by
  unfold freeL setL
  have := takeK_le l c
  split
  · rfl
  · have e : takeK l c = l.length := by omega
    rw [e, List.set_append_right _ _ (Nat.le_refl _)]
    simp
theorem freeL_yes (l : List Int) (c : Int) (h : 0 ≤ posZ c l) : freeL l c = l ∧ posZ c l = (takeK l c : Nat) := by
  obtain ⟨_, hk, hlt, hz⟩ := putL_posZ l c h
  refine ⟨?_, by rw [hz, hk]⟩
  unfold freeL; rw [hk, if_pos hlt]
theorem freeL_free (l : List Int) (c : Int) (h : posZ c l < 0) (h2 : 0 ≤ posZ (-1) l) : freeL l c = l ∧ posZ (-1) l = (takeK l c : Nat) := by
  obtain ⟨_, hk, hlt, hz⟩ := putL_free l c h h2
  refine ⟨?_, by rw [hz, hk]⟩
  unfold freeL; rw [hk, if_pos hlt]
theorem freeL_new (l : List Int) (c : Int) (h : posZ c l < 0) (h2 : posZ (-1) l < 0) : freeL l c = l ++ [-1] ∧ takeK l c = l.length := by
  obtain ⟨_, hk⟩ := putL_new l c h h2
  refine ⟨?_, hk⟩
  unfold freeL; rw [hk, if_neg (by omega)]
/-- the answer of take -/
def TakeP (B : Nat) (w : World) (v : Value) (l : List Int) (c : Int) (e : Ending) (w' : World) : Prop := e = .returned (.int .i64 (takeK l c : Nat)) ∧ ∃ v', LStep B w v w' v' (freeL l c)
set_option maxHeartbeats 1000000 in
theorem take_any (B : Nat) (v : Value) (l : List Int) (c : Int) (w : World) (h : LBx w B v l) (hl : l.length ≤ 1000000) :
    Calls Tryd.prog 24 #[.pointer (some ⟨B, 0, none⟩), .int .i64 c] w fun e w' => TakeP B w v l c e w' := by
  unfold TakeP
  have hB := h.lt
  have HW0 : Hid (Below w.heap.size w (w.alloc (.cells #[.int .i64 c, .int .i64 (-1)] 3))) := (Below.refl _ w).alloc (Nat.le_refl _) _
  have HL0 := hidM (h.below HW0.out)
  have HA := hidM (heap_alloc_new w (.cells #[.int .i64 c, .int .i64 (-1)] 3))
  have HIX := hidM (fun x => indexL_any v l x (w.alloc (.cells #[.int .i64 c, .int .i64 (-1)] 3)) HL0.out.own.ints hl)
  have HST0 : Hid (LStep B w v (w.alloc (.cells #[.int .i64 c, .int .i64 (-1)] 3)) v l) := ⟨HL0.out, But.of_below HW0.out, fun k hk => .inl hk⟩
  obtain ⟨a, cp, rfl, hcp, -⟩ := h.own.shape
  obtain ⟨n, hn⟩ : ∃ n, l.length = n := ⟨_, rfl⟩
  have HN := hidM hn
  rw [hn] at HL0 HIX HST0 hcp hl ⊢
  clear h hn
  by_cases h0 : 0 ≤ posZ c l
  · obtain ⟨hf, hz⟩ := freeL_yes l c h0
    rw [hf]
    obtain ⟨q, hq⟩ : ∃ q, takeK l c = q := ⟨_, rfl⟩
    rw [hq] at hz ⊢
    have HI1 := hidM (HIX.out c)
    rw [hz] at HI1
    clear hf hz hq h0
    go_enter Tryd.func24, Tryd.ntmps24
    go_upto_region 2 with fail
    generalize w.alloc (.cells #[.int .i64 c, .int .i64 (-1)] 3) = W at *
    have e0 : W.cell? ⟨w.heap.size, 0, none⟩ = some (.int .i64 c) := by rw [cell_of_row W _ _ _ 3 (0, 0) HA.out]; rfl
    have cb := HL0.out.cell
    go_loop [11] (fun iv => iv = .int .i64 0) (fun iv => 2 - (intOf iv).toNat)
    case atStart => rfl
    case round =>
      subst hrel
      go_wp2_with fail
      refine HI1.out.mono ?_
      rintro _ wq ⟨rfl, hq⟩
      rw [hq]
      clear hq
      go_wp2
      go_ret
      exact ⟨rfl, _, HST0.out⟩
  · by_cases h1 : 0 ≤ posZ (-1) l
    · obtain ⟨hf, hz⟩ := freeL_free l c (by omega) h1
      rw [hf]
      obtain ⟨q, hq⟩ : ∃ q, takeK l c = q := ⟨_, rfl⟩
      rw [hq] at hz ⊢
      have HI1 := hidM (HIX.out c)
      have HI2 := hidM (HIX.out (-1))
      rw [hz] at HI2
      obtain ⟨y, hy⟩ : ∃ y, posZ c l = y := ⟨_, rfl⟩
      rw [hy] at HI1 h0
      have h0' : y < 0 := by omega
      have h0d : decide (0 ≤ y) = false := by simp; omega
      clear hf hz hq h1 hy h0
      go_enter Tryd.func24, Tryd.ntmps24
      go_upto_region 2 with fail
      generalize w.alloc (.cells #[.int .i64 c, .int .i64 (-1)] 3) = W at *
      have e0 : W.cell? ⟨w.heap.size, 0, none⟩ = some (.int .i64 c) := by rw [cell_of_row W _ _ _ 3 (0, 0) HA.out]; rfl
      have e1 : W.cell? ⟨w.heap.size, 1, none⟩ = some (.int .i64 (-1)) := by rw [cell_of_row W _ _ _ 3 (0, 0) HA.out]; rfl
      have cb := HL0.out.cell
      go_loop [11] (fun iv => iv = .int .i64 0 ∨ iv = .int .i64 1) (fun iv => 2 - (intOf iv).toNat)
      case atStart => exact .inl rfl
      case round =>
        rcases hrel with rfl | rfl
        · go_wp2_with fail
          refine HI1.out.mono ?_
          rintro _ wq ⟨rfl, hq⟩
          rw [hq]
          clear hq
          go_wp2
          go_round
          case rel => exact .inr rfl
          case measure => (show 2 - ((0 : Int) + 1).toNat < 2 - ((0 : Int)).toNat); omega
        · go_wp2_with fail
          refine HI2.out.mono ?_
          rintro _ wq ⟨rfl, hq⟩
          rw [hq]
          clear hq
          go_wp2
          go_ret
          exact ⟨rfl, _, HST0.out⟩
    · obtain ⟨hf, hz⟩ := freeL_new l c (by omega) (by omega)
      rw [hf, hz, HN.out]
      have HI1 := hidM (HIX.out c)
      have HI2 := hidM (HIX.out (-1))
      obtain ⟨y, hy⟩ : ∃ y, posZ c l = y := ⟨_, rfl⟩
      obtain ⟨z, hz2⟩ : ∃ z, posZ (-1) l = z := ⟨_, rfl⟩
      rw [hy] at HI1 h0
      rw [hz2] at HI2 h1
      have h0' : y < 0 := by omega
      have h1' : z < 0 := by omega
      have h0d : decide (0 ≤ y) = false := by simp; omega
      have h1d : decide (0 ≤ z) = false := by simp; omega
      clear hf hz hy h0 h1 hz2
      go_enter Tryd.func24, Tryd.ntmps24
      go_upto_region 2 with fail
      generalize w.alloc (.cells #[.int .i64 c, .int .i64 (-1)] 3) = W at *
      have e0 : W.cell? ⟨w.heap.size, 0, none⟩ = some (.int .i64 c) := by rw [cell_of_row W _ _ _ 3 (0, 0) HA.out]; rfl
      have e1 : W.cell? ⟨w.heap.size, 1, none⟩ = some (.int .i64 (-1)) := by rw [cell_of_row W _ _ _ 3 (0, 0) HA.out]; rfl
      have cb := HL0.out.cell
      have fb := HL0.out.froz
      have hBW := HL0.out.lt
      go_loop [11] (fun iv => iv = .int .i64 0 ∨ iv = .int .i64 1 ∨ iv = .int .i64 2) (fun iv => 2 - (intOf iv).toNat)
      case atStart => exact .inl rfl
      case round =>
        rcases hrel with rfl | rfl | rfl
        · go_wp2_with fail
          refine HI1.out.mono ?_
          rintro _ wq ⟨rfl, hq⟩
          rw [hq]
          clear hq
          go_wp2
          go_round
          case rel => exact .inr (.inl rfl)
          case measure => (show 2 - ((0 : Int) + 1).toNat < 2 - ((0 : Int)).toNat); omega
        · go_wp2_with fail
          refine HI2.out.mono ?_
          rintro _ wq ⟨rfl, hq⟩
          rw [hq]
          clear hq
          go_wp2
          go_round
          case rel => exact .inr (.inr rfl)
          case measure => (show 2 - ((1 : Int) + 1).toNat < 2 - ((1 : Int)).toNat); omega
        · have HW1 : Hid (LBx (W.alloc (.cells #[.int .i64 (-1)] 3)) B (.slice a n cp) l) := HL0.out.below ((Below.refl _ W).alloc (Nat.le_refl _) _)
          go_wp2_with (at_builtin; refine wpList_append_own_at _ rfl _ _ 45 rfl (B + 1) 3 I3 (.int .i64 0) 1 8 Tryd.underlying45 I3a I3b I3c I3d rfl (by decide) (.slice a n cp) n (intsV l) rfl ?rc0 ⟨W.heap.size, 0, none⟩ 1 1 [.int .i64 (-1)] ?rd ?rc1 ?rc2 ?rc3 ?rc4 ?rc5 ?rc6 ?_)
          case rc0 =>
            have := HW1.out.own
            unfold OwnI OwnV at this
            rwa [intsV_len, HN.out] at this
          try (case rd => rfl)
          try (case rc1 => rfl)
          try (case rc2 => exact World.news_of_block (heap_alloc_new _ _))
          try (case rc3 => first | rfl | (intro u hu; simp at hu; subst hu; rfl))
          try (case rc4 => unfold maxLen; omega)
          try (case rc5 => omega)
          try (case rc6 => first | omega | (simp; omega))
          intro v2 w2 hown hgrow hnil hat
          have HO2 : Hid (OwnI w2 (B + 1) v2 (l ++ [-1])) := by
            unfold Hid OwnI OwnV
            rw [intsV_app, List.length_append, intsV_len, HN.out]
            exact hown
          have HBX2 : Hid (w2.heap[B]? = some (.cells #[.slice a n cp] 45 (0, 0))) := by
            rw [hgrow.block B HW1.out.lt (fun e => by have := (OwnV.lt HW1.out.own e.symm).1; omega)]
            exact HW1.out.box
          have HBU : Hid (But (LX B (.slice a n cp)) w w2) := by
            refine But.trans HST0.out.but (But.trans (But.of_below ((Below.refl _ W).alloc (Nat.le_refl _) _)) (But.grown hgrow) (X := fun k => (Value.slice a n cp).ownBlock = some k) (fun j _ hj => hj)) (fun j _ hj => .inr hj)
          have HFR : Hid (∀ k, v2.ownBlock = some k → (Value.slice a n cp).ownBlock = some k ∨ w.heap.size ≤ k) := fun k hk => by
            rcases hat with h9 | h9
            · left; rw [← h9]; exact hk
            · right
              rw [hk] at h9
              have h10 := HST0.out.but.size
              simp at h9
              omega
          obtain ⟨a2, c2, rfl, hc2, -⟩ := HO2.out.shape
          have cb2 : w2.cell? ⟨B, 0, none⟩ = some (.slice a n cp) := by rw [cell_of_row w2 _ _ _ 45 (0, 0) HBX2.out]; rfl
          have fb2 : w2.frozen? ⟨B, 0, none⟩ = false := frozen_of_row w2 _ 0 _ 45 HBX2.out
          have HNL2 : Hid ((l ++ [-1]).length = n + 1) := by unfold Hid; rw [List.length_append, HN.out]; rfl
          rw [HNL2.out] at HO2 HFR hc2 ⊢
          have HF : Hid (LStep B w (.slice a n cp) (w2.setCell ⟨B, 0, none⟩ (.slice a2 (n + 1) c2)) (.slice a2 (n + 1) c2) (l ++ [-1])) := by
            refine ⟨⟨heap_setCell_same w2 B 0 _ 45 _ HBX2.out, OwnV.same HO2.out (fun g hg _ => heap_setCell_other w2 ⟨B, 0, none⟩ g _ (by have := (OwnV.lt HO2.out hg).1; simp; omega))⟩, HBU.out.trans ((But.set w2 B 0 _).mono (fun j _ hj => .inl hj)) (fun j _ hj => hj), fun k hk => ?_⟩
            rcases hk with hk | hk
            · exact .inl (.inl hk)
            · rcases HFR.out k hk with h9 | h9
              · exact .inl (.inr h9)
              · exact .inr h9
          clear hown hgrow hnil hat HO2 HBU HFR HW1
          go_wp2
          go_ret
          exact ⟨by go_num, _, HF.out⟩
end Go.Proofs.YthgmabbnmoembaaDoor
