/-
  The law TreeOrder, walked.
-/
import Derived.Test.YtccohagdfpcplaaDoorTrV
import Derived.Deep.MidRow
import Derived.Lib.LazyBuf
namespace Go.Proofs.YtccohagdfpcplaaDoor
open Go.RowKit

def entV (e : EntB) : List Value := [.int .i64 e.1, .string e.2.1, .string e.2.2]
theorem entV_one (e : EntB) : (entV e).toArray.all (·.oneCell') = true := by simp [entV, Value.oneCell']
theorem size29 : (Tryd.prog.info? 29).map (·.size) = some 3 := by kernel_rfl
theorem ents_range {w : World} {b : Nat} {es : List EntB} (h : EntsAt w b 0 es) {k : Nat} (hk : k < es.length) : w.rangeAt b (k * 3) (entV (es.getD k noE)) := by
  obtain ⟨c0, c1, c2⟩ := h k hk
  rw [Nat.zero_add] at c0 c1 c2
  intro j v hj
  match j, hj with
  | 0, hj => simp [entV] at hj; subst hj; exact c0
  | 1, hj => simp [entV] at hj; subst hj; exact c1
  | 2, hj => simp [entV] at hj; subst hj; exact c2
  | j + 3, hj => simp [entV] at hj
theorem range_ents {w : World} {b : Nat} {es : List EntB} (h : ∀ k, k < es.length → w.rangeAt b (k * 3) (entV (es.getD k noE))) : EntsAt w b 0 es := fun k hk => by
  have h1 := h k hk
  rw [Nat.zero_add]
  exact ⟨h1 0 _ rfl, h1 1 _ rfl, h1 2 _ rfl⟩
theorem ents_swap {w : World} {b : Nat} {es : List EntB} {i j : Nat} (h : EntsAt w b 0 es) (ht : ∀ k, k < es.length → w.there b (k * 3) 3) (hij : i < j) (hj : j < es.length) :
    EntsAt ((w.setCells b (i * 3) (entV (es.getD j noE))).setCells b (j * 3) (entV (es.getD i noE))) b 0 (swapE es i j) := by
  refine range_ents (fun k hk => ?_)
  have hk' : k < es.length := by unfold swapE at hk; rw [List.length_set, List.length_set] at hk; exact hk
  by_cases e1 : k = j
  · subst e1
    have : (swapE es i k).getD k noE = es.getD i noE := by unfold swapE; rw [getD_set_self (by rw [List.length_set]; exact hj)]
    rw [this]
    exact World.rangeAt_setCells_same _ _ _ _ (World.there_setCells (ht k hj) _ _ _)
  · have hap : ∀ X : World, X.rangeAt b (k * 3) (entV ((swapE es i j).getD k noE)) → (X.setCells b (j * 3) (entV (es.getD i noE))).rangeAt b (k * 3) (entV ((swapE es i j).getD k noE)) := fun X hX =>
      World.rangeAt_setCells_apart hX _ _ _ (Or.inr (by show k * 3 + 3 ≤ j * 3 ∨ j * 3 + 3 ≤ k * 3; omega))
    apply hap
    by_cases e2 : k = i
    · subst e2
      have : (swapE es k j).getD k noE = es.getD j noE := by unfold swapE; rw [getD_set_ne (by omega), getD_set_self (by omega)]
      rw [this]
      exact World.rangeAt_setCells_same _ _ _ _ (ht k (by omega))
    · have : (swapE es i j).getD k noE = es.getD k noE := by unfold swapE; rw [getD_set_ne (by omega), getD_set_ne (by omega)]
      rw [this]
      exact World.rangeAt_setCells_apart (ents_range h hk') _ _ _ (Or.inr (by show k * 3 + 3 ≤ i * 3 ∨ i * 3 + 3 ≤ k * 3; omega))
theorem EntsAt.belowB {w w' : World} {b off B : Nat} {es : List EntB} (h : EntsAt w b off es) (hb : Below B w w') (hl : b < B) : EntsAt w' b off es := fun i hi =>
  ⟨(hb.cell (p := ⟨b, off + i * 3, none⟩) hl).trans (h i hi).1, (hb.cell (p := ⟨b, off + i * 3 + 1, none⟩) hl).trans (h i hi).2.1, (hb.cell (p := ⟨b, off + i * 3 + 2, none⟩) hl).trans (h i hi).2.2⟩
theorem flatE_drop (es : List EntB) : ∀ n, flatE (es.drop n) = (flatE es).drop (n * 3) := by
  induction es with
  | nil => intro n; simp [flatE]
  | cons e es ih =>
    intro n
    cases n with
    | zero => simp
    | succ n =>
      rw [List.drop_succ_cons, ih n, show (n + 1) * 3 = n * 3 + 3 by omega]
      rfl
theorem drop_cells {w : World} {b : Nat} {es : List EntB} (h : EntsAt w b 0 es) (n : Nat) : ∀ t u, (flatE (es.drop n))[t]? = some u → w.cell? ⟨b, n * 3 + t, none⟩ = some u := by
  intro t u ht
  rw [flatE_drop, List.getElem?_drop] at ht
  have := flatE_news h _ _ ht
  rw [Nat.zero_add] at this
  exact this
theorem own_ge {w : World} {B n : Nat} {v : Value} {xs : List Value} (h : w.ownsRow B 29 3 v n xs) : ∀ k, v.ownBlock = some k → B ≤ k := by
  intro k hk
  rcases h.2 with ⟨rfl, _⟩ | ⟨g, cap, cur, rfl, hbase, _⟩
  · cases hk
  · simp [Value.ownBlock] at hk; omega
theorem flatE_app (a b : List EntB) : flatE (a ++ b) = flatE a ++ flatE b := by
  induction a with
  | nil => rfl
  | cons e a ih => simp [flatE, ih]
theorem swap_mem {es : List EntB} {i j : Nat} (hij : i < j) (hj : j < es.length) {e : EntB} (h : e ∈ swapE es i j) : e ∈ es := by
  unfold swapE at h
  rcases List.mem_or_eq_of_mem_set h with h | rfl
  · rcases List.mem_or_eq_of_mem_set h with h | rfl
    · exact h
    · exact getD_mem hj
  · exact getD_mem (by omega)
theorem less_mem {es : List EntB} {i : Nat} {e : EntB} (h : e ∈ lessE es i) : e ∈ es := by
  rcases List.mem_append.1 h with h | h
  · exact List.mem_of_mem_take h
  · exact List.mem_of_mem_drop h

set_option maxHeartbeats 8000000 in
set_option maxRecDepth 100000 in
theorem torder_walk (v : Value) (es : List EntB) (i j : Int) (w : World) (hG : GT w) (hV : EntsV w v es) (hO : ∀ e ∈ es, OkE e) :
    Calls Tryd.prog 6 #[v, .int .i64 i, .int .i64 j] w fun e w' => e = .returned (.bool true) ∧ Below w.heap.size w w' := by
  have HFW := hidM (fewE_any v es w hV)
  have HG := hidM hG
  have HO : Hid (∀ e ∈ es.take 600, OkE e) := fun e he => hO e (List.mem_of_mem_take he)
  have HT6 : Hid ((es.take 600).take 600 = es.take 600) := by unfold Hid; rw [List.take_take]; rfl
  have HAW := hidM (fun V (h : GT V) => awake_any V h)
  clear hG hV hO
  generalize es.take 600 = us at *
  go_enter Tryd.func6, Tryd.ntmps6
  go_wp2_with fail
  refine HFW.out.mono ?_
  rintro _ w1 ⟨⟨g, cap, rfl, hg, hcap, hE⟩, hb1⟩
  have HW1 := hidM hb1
  have HG1 := hidM (HG.out.below hb1)
  have HE1 := hidM hE
  have HCK := hidM (check_any (some ⟨g, 0, none⟩) cap us w1 HG1.out hE HO.out)
  have HRC := hidM (fun V (h : EntsIn V (some ⟨g, 0, none⟩) us) => rcheck_any (some ⟨g, 0, none⟩) cap us V hcap h HO.out)
  clear hb1 hE HFW
  obtain ⟨len, hl⟩ : ∃ len, len = us.length := ⟨_, rfl⟩
  rw [← hl] at HCK HRC hcap ⊢
  have HL := hidM hl
  clear hl
  have l600 : len ≤ 600 := by rw [HL.out, ← HT6.out, List.length_take]; omega
  go_wp2_with fail
  refine HCK.out.mono ?_
  rintro _ w2 ⟨rfl, hb2⟩
  have HW2 := hidM (HW1.out.trans (hb2.mono HW1.out.size))
  have HG2 := hidM (HG1.out.below hb2)
  have HE2 := hidM (HE1.out.below hb2)
  clear hb2 HCK HE1 HG1 HW1
  by_cases hc : checkV us = 0
  · obtain ⟨CV, hCV⟩ : ∃ CV, CV = checkV us := ⟨_, rfl⟩
    rw [← hCV, hCV, hc]
    clear CV hCV
    have HC0 := hidM hc
    clear hc HRC
    by_cases k1 : i < 0
    · as_aux_lemma =>
      go_wp2_with fail
      refine (HAW.out _ HG2.out).mono ?_
      rintro _ w3 ⟨rfl, hb3⟩
      have HW3 := hidM (HW2.out.trans (hb3.mono HW2.out.size))
      go_wp2
      go_ret
      exact ⟨rfl, HW3.out⟩
    by_cases k2 : j ≤ i
    · as_aux_lemma =>
      go_wp2_with fail
      refine (HAW.out _ HG2.out).mono ?_
      rintro _ w3 ⟨rfl, hb3⟩
      have HW3 := hidM (HW2.out.trans (hb3.mono HW2.out.size))
      go_wp2
      go_ret
      exact ⟨rfl, HW3.out⟩
    by_cases k3 : (len : Int) ≤ j
    · as_aux_lemma =>
      go_wp2_with fail
      refine (HAW.out _ HG2.out).mono ?_
      rintro _ w3 ⟨rfl, hb3⟩
      have HW3 := hidM (HW2.out.trans (hb3.mono HW2.out.size))
      go_wp2
      go_ret
      exact ⟨rfl, HW3.out⟩
    obtain ⟨ni, rfl⟩ : ∃ ni : Nat, i = (ni : Int) := ⟨i.toNat, by omega⟩
    obtain ⟨nj, rfl⟩ : ∃ nj : Nat, j = (nj : Int) := ⟨j.toNat, by omega⟩
    have hij : ni < nj := by omega
    have hjl : nj < len := by omega
    have hjl' : (nj : Int) < (len : Int) := by omega
    have hil' : (ni : Int) < (len : Int) := by omega
    have HEA : Hid (EntsAt w2 g 0 us ∧ g < w2.heap.size) := by
      rcases HE2.out with h | ⟨b, off, h1, h2, h3⟩
      · have := HL.out; rw [h] at this; simp at this; omega
      · cases h1; exact ⟨h3, h2⟩
    have HF2 : Hid (Calls Tryd.prog 9 #[.slice (some ⟨g, 0, none⟩) len cap] w2 fun e w' => FewO w2 us e w' ∧ Below w2.heap.size w2 w') := by
      have := fewO_at g 0 cap us w2 HEA.out.1 (by rw [← HL.out]; exact hcap)
      rw [HT6.out, ← HL.out] at this
      exact this
    clear HE2
    go_wp2_with fail
    refine HF2.out.mono ?_
    rintro _ w3 ⟨⟨v2, rfl, hown, hnn⟩, hb3⟩
    have HW3 := hidM (HW2.out.trans (hb3.mono HW2.out.size))
    have HG3 := hidM (HG2.out.below hb3)
    have HEL : Hid (EntsAt w3 g 0 us ∧ g < w3.heap.size) := ⟨HEA.out.1.below hb3 HEA.out.2, Nat.lt_of_lt_of_le HEA.out.2 hb3.size⟩
    have hglt : g < w2.heap.size := HEA.out.2
    clear hb3 HF2 HEA HG2
    obtain ⟨g2, cap2, h2a, h2b, h2c, h2d⟩ : ∃ g2 cap2, v2 = .slice (some ⟨g2, 0, none⟩) len cap2 ∧ w2.heap.size ≤ g2 ∧ len ≤ cap2 ∧ (EntsAt w3 g2 0 us ∧ ∀ k, k < us.length → w3.there g2 (k * 3) 3) := by
      obtain ⟨g', cap', hv', hb', hc', hE'⟩ := few_ret hown hnn
      rcases hown.2 with ⟨hnil, _⟩ | ⟨g2, cap2, cur, hv, hbase, hbk, h1, h2, h3, h4⟩
      · exact absurd hnil hnn
      · have hEA : EntsAt w3 g2 0 us := by
          rcases hE' with h | ⟨b, off, e1, e2, e3⟩
          · intro k hk; rw [h] at hk; cases hk
          · have e4 := hv'.symm.trans (congrArg Ending.returned hv)
            simp only [Ending.returned.injEq, Value.slice.injEq, Option.some.injEq, Addr.mk.injEq] at e4 e1
            obtain ⟨⟨rfl, -, -⟩, -, -⟩ := e4
            obtain ⟨rfl, rfl, -⟩ := e1
            exact e3
        refine ⟨g2, cap2, by rw [HL.out]; exact hv, hbase, by rw [HL.out]; exact h1, hEA, fun k hk t ht => ?_⟩
        have hcs : k * 3 + t < cur.size := by rw [h3]; omega
        refine ⟨?_, by simp [World.frozen?, hbk]⟩
        rw [cell_of_row _ _ _ _ 29 (0, 0) hbk, Array.getElem?_eq_getElem hcs]; rfl
    subst h2a
    clear hown hnn
    have HEA2 := hidM h2d.1
    have HTH := hidM h2d.2
    clear h2d
    have HRI : Hid (w3.drew.rangeAt g2 (ni * 3) (entV (us.getD ni noE))) := ents_range HEA2.out (by rw [← HL.out]; omega)
    have HRJ : Hid (w3.drew.rangeAt g2 (nj * 3) (entV (us.getD nj noE))) := ents_range HEA2.out (by rw [← HL.out]; omega)
    have HTI : Hid (w3.drew.there g2 (ni * 3) 3) := HTH.out ni (by rw [← HL.out]; omega)
    have HTJ : Hid ((w3.drew.setCells g2 (ni * 3) (entV (us.getD nj noE))).there g2 (nj * 3) 3) := World.there_setCells (show w3.drew.there g2 (nj * 3) 3 from HTH.out nj (by rw [← HL.out]; omega)) _ _ _
    have HSW : Hid (EntsAt ((w3.drew.setCells g2 (ni * 3) (entV (us.getD nj noE))).setCells g2 (nj * 3) (entV (us.getD ni noE))) g2 0 (swapE us ni nj)) := ents_swap (w := w3.drew) HEA2.out HTH.out hij (by rw [← HL.out]; exact hjl)
    have HB4 : Hid (Below w2.heap.size w3 ((w3.drew.setCells g2 (ni * 3) (entV (us.getD nj noE))).setCells g2 (nj * 3) (entV (us.getD ni noE)))) := Go.below_setCells h2b _ _ _ (Go.below_setCells h2b _ _ _ ((Below.refl _ _).drew))
    have hoXJ := entV_one (us.getD nj noE)
    have hoXI := entV_one (us.getD ni noE)
    have hlXJ : (entV (us.getD nj noE)).length = 3 := rfl
    have hlXI : (entV (us.getD ni noE)).length = 3 := rfl
    have haXJ : (entV (us.getD nj noE)).toArray.size = 3 := rfl
    have haXI : (entV (us.getD ni noE)).toArray.size = 3 := rfl
    generalize entV (us.getD nj noE) = XJ at *
    generalize entV (us.getD ni noE) = XI at *
    have HlXJ := hidM hlXJ
    have HlXI := hidM hlXI
    have HaXJ := hidM haXJ
    have HaXI := hidM haXI
    have HoXJ := hidM hoXJ
    have HoXI := hidM hoXI
    clear hlXJ hlXI haXJ haXI hoXJ hoXI
    go_upto_region 7 with fail
    refine wp_region_noPanic ?_
    refine wp_region_any (by kernel_rfl) ?_
    change wpAny _ _ _ _ _ _ _ (World.drew _)
    refine wpAny_take (i := 0) (v := ?_) rfl (by kernel_rfl) (by kernel_rfl) (by kernel_rfl) (fun _ _ _ h => h) (Or.inl ⟨by kernel_rfl, ?_⟩) ?_
    rotate_left
    · intro w
      go_simp
      try with_reducible rfl
    change wpAny _ _ _ _ _ _ (⟨#[_, _, _, _, _, _, _, _, _, _, _, _, _, _, _, _, _, _, _, _, _, _, _, _, _, _, _, _, _, _, _, _, _, _, _, _, _, _, _, _, _, _, _, _, _, _, _, _, _, _, _, _, _, _, _, _, _, _, _, _, _, _, _, _, _, _, _, _, _, _, _, _, _, _, _, _, _, _, _, _, _, _, _, _, _, _], _⟩ : Act) _
    refine wpAny_take (i := 1) (v := ?_) rfl (by kernel_rfl) (by kernel_rfl) (by kernel_rfl) (fun _ _ _ h => h) (Or.inl ⟨by kernel_rfl, ?_⟩) ?_
    rotate_left
    · intro w
      go_simp
      try with_reducible rfl
    change wpAny _ _ _ _ _ _ (⟨#[_, _, _, _, _, _, _, _, _, _, _, _, _, _, _, _, _, _, _, _, _, _, _, _, _, _, _, _, _, _, _, _, _, _, _, _, _, _, _, _, _, _, _, _, _, _, _, _, _, _, _, _, _, _, _, _, _, _, _, _, _, _, _, _, _, _, _, _, _, _, _, _, _, _, _, _, _, _, _, _, _, _, _, _, _, _], _⟩ : Act) _
    refine wpAny_take (i := 2) (v := ?_) rfl (by kernel_rfl) (by kernel_rfl) (by kernel_rfl) (fun _ _ _ h => h) (Or.inl ⟨by kernel_rfl, ?_⟩) ?_
    rotate_left
    · intro w
      go_simp
      try with_reducible rfl
    change wpAny _ _ _ _ _ _ (⟨#[_, _, _, _, _, _, _, _, _, _, _, _, _, _, _, _, _, _, _, _, _, _, _, _, _, _, _, _, _, _, _, _, _, _, _, _, _, _, _, _, _, _, _, _, _, _, _, _, _, _, _, _, _, _, _, _, _, _, _, _, _, _, _, _, _, _, _, _, _, _, _, _, _, _, _, _, _, _, _, _, _, _, _, _, _, _], _⟩ : Act) _
    refine wpAny_take (i := 3) (v := ?_) rfl (by kernel_rfl) (by kernel_rfl) (by kernel_rfl) (fun _ _ _ h => h) (Or.inl ⟨by kernel_rfl, ?_⟩) ?_
    rotate_left
    · intro w
      go_simp
      try with_reducible rfl
    change wpAny _ _ _ _ _ _ (⟨#[_, _, _, _, _, _, _, _, _, _, _, _, _, _, _, _, _, _, _, _, _, _, _, _, _, _, _, _, _, _, _, _, _, _, _, _, _, _, _, _, _, _, _, _, _, _, _, _, _, _, _, _, _, _, _, _, _, _, _, _, _, _, _, _, _, _, _, _, _, _, _, _, _, _, _, _, _, _, _, _, _, _, _, _, _, _], _⟩ : Act) _
    refine wpAny_take (i := 4) (v := ?_) rfl (by kernel_rfl) (by kernel_rfl) (by kernel_rfl) (fun _ _ _ h => h) (Or.inl ⟨by kernel_rfl, ?_⟩) ?_
    rotate_left
    · intro w
      go_simp
      try with_reducible rfl
    change wpAny _ _ _ _ _ _ (⟨#[_, _, _, _, _, _, _, _, _, _, _, _, _, _, _, _, _, _, _, _, _, _, _, _, _, _, _, _, _, _, _, _, _, _, _, _, _, _, _, _, _, _, _, _, _, _, _, _, _, _, _, _, _, _, _, _, _, _, _, _, _, _, _, _, _, _, _, _, _, _, _, _, _, _, _, _, _, _, _, _, _, _, _, _, _, _], _⟩ : Act) _
    refine wpAny_take (i := 5) (v := ?_) rfl (by kernel_rfl) (by kernel_rfl) (by kernel_rfl) (fun _ _ _ h => h) (Or.inl ⟨by kernel_rfl, ?_⟩) ?_
    rotate_left
    · intro w
      go_simp
      try with_reducible rfl
    change wpAny _ _ _ _ _ _ (⟨#[_, _, _, _, _, _, _, _, _, _, _, _, _, _, _, _, _, _, _, _, _, _, _, _, _, _, _, _, _, _, _, _, _, _, _, _, _, _, _, _, _, _, _, _, _, _, _, _, _, _, _, _, _, _, _, _, _, _, _, _, _, _, _, _, _, _, _, _, _, _, _, _, _, _, _, _, _, _, _, _, _, _, _, _, _, _], _⟩ : Act) _
    refine wpAny_take (i := 6) (v := ?_) rfl (by kernel_rfl) (by kernel_rfl) (by kernel_rfl) (fun _ _ _ h => h) (Or.inl ⟨by kernel_rfl, ?_⟩) ?_
    rotate_left
    · intro w
      go_simp
      try with_reducible rfl
    change wpAny _ _ _ _ _ _ (⟨#[_, _, _, _, _, _, _, _, _, _, _, _, _, _, _, _, _, _, _, _, _, _, _, _, _, _, _, _, _, _, _, _, _, _, _, _, _, _, _, _, _, _, _, _, _, _, _, _, _, _, _, _, _, _, _, _, _, _, _, _, _, _, _, _, _, _, _, _, _, _, _, _, _, _, _, _, _, _, _, _, _, _, _, _, _, _], _⟩ : Act) _
    refine wpAny_take (i := 8) (v := ?_) rfl (by kernel_rfl) (by kernel_rfl) (by kernel_rfl) (fun _ _ _ h => h) (Or.inl ⟨by kernel_rfl, ?_⟩) ?_
    rotate_left
    · intro w
      go_simp
      try with_reducible rfl
    change wpAny _ _ _ _ _ _ (⟨#[_, _, _, _, _, _, _, _, _, _, _, _, _, _, _, _, _, _, _, _, _, _, _, _, _, _, _, _, _, _, _, _, _, _, _, _, _, _, _, _, _, _, _, _, _, _, _, _, _, _, _, _, _, _, _, _, _, _, _, _, _, _, _, _, _, _, _, _, _, _, _, _, _, _, _, _, _, _, _, _, _, _, _, _, _, _], _⟩ : Act) _
    refine wpAny_take (i := 9) (v := ?_) rfl (by kernel_rfl) (by kernel_rfl) (by kernel_rfl) (fun _ _ _ h => h) (Or.inl ⟨by kernel_rfl, ?_⟩) ?_
    rotate_left
    · intro w
      go_simp
      try with_reducible rfl
    change wpAny _ _ _ _ _ _ (⟨#[_, _, _, _, _, _, _, _, _, _, _, _, _, _, _, _, _, _, _, _, _, _, _, _, _, _, _, _, _, _, _, _, _, _, _, _, _, _, _, _, _, _, _, _, _, _, _, _, _, _, _, _, _, _, _, _, _, _, _, _, _, _, _, _, _, _, _, _, _, _, _, _, _, _, _, _, _, _, _, _, _, _, _, _, _, _], _⟩ : Act) _
    refine wpAny_take (i := 10) (v := ?_) rfl (by kernel_rfl) (by kernel_rfl) (by kernel_rfl) (fun _ _ _ h => h) (Or.inl ⟨by kernel_rfl, ?_⟩) ?_
    rotate_left
    · intro w
      go_simp
      try with_reducible rfl
    change wpAny _ _ _ _ _ _ (⟨#[_, _, _, _, _, _, _, _, _, _, _, _, _, _, _, _, _, _, _, _, _, _, _, _, _, _, _, _, _, _, _, _, _, _, _, _, _, _, _, _, _, _, _, _, _, _, _, _, _, _, _, _, _, _, _, _, _, _, _, _, _, _, _, _, _, _, _, _, _, _, _, _, _, _, _, _, _, _, _, _, _, _, _, _, _, _], _⟩ : Act) _
    refine wpAny_ready (rs := [7, 11]) (by kernel_rfl) (by simp) (AllReady.cons rfl (fun K hK => ?_) (AllReady.cons rfl (fun K hK => ?_) AllReady.nil))
    · as_aux_lemma =>
      rw [if_pos (by kernel_rfl)]
      refine wp_load_mid 29 (.tmp 46) rfl g2 (nj * 3) rfl XJ _ HRJ.out Tryd.underlying29 rfl (by rw [HlXJ.out]; exact size29) ?_
      refine hK _ _ ?_
      clear hK K
      change wpAny _ _ _ _ _ _ (⟨#[_, _, _, _, _, _, _, _, _, _, _, _, _, _, _, _, _, _, _, _, _, _, _, _, _, _, _, _, _, _, _, _, _, _, _, _, _, _, _, _, _, _, _, _, _, _, _, _, _, _, _, _, _, _, _, _, _, _, _, _, _, _, _, _, _, _, _, _, _, _, _, _, _, _, _, _, _, _, _, _, _, _, _, _, _, _], _⟩ : Act) _
      refine wpAny_ready (rs := [11]) (by kernel_rfl) (by simp) (AllReady.cons rfl (fun K hK => ?_) AllReady.nil)
      rw [if_pos (by kernel_rfl)]
      refine wp_load_mid 29 (.tmp 50) rfl g2 (ni * 3) rfl XI _ HRI.out Tryd.underlying29 rfl (by rw [HlXI.out]; exact size29) ?_
      refine hK _ _ ?_
      clear hK K
      change wpAny _ _ _ _ _ _ (⟨#[_, _, _, _, _, _, _, _, _, _, _, _, _, _, _, _, _, _, _, _, _, _, _, _, _, _, _, _, _, _, _, _, _, _, _, _, _, _, _, _, _, _, _, _, _, _, _, _, _, _, _, _, _, _, _, _, _, _, _, _, _, _, _, _, _, _, _, _, _, _, _, _, _, _, _, _, _, _, _, _, _, _, _, _, _, _], _⟩ : Act) _
      refine wpAny_take (i := 12) (v := ?_) rfl (by kernel_rfl) (by kernel_rfl) (by kernel_rfl) (fun _ _ _ h => h) (Or.inl ⟨by kernel_rfl, ?_⟩) ?_
      rotate_left
      · intro w
        go_simp
        try with_reducible rfl
      change wpAny _ _ _ _ _ _ (⟨#[_, _, _, _, _, _, _, _, _, _, _, _, _, _, _, _, _, _, _, _, _, _, _, _, _, _, _, _, _, _, _, _, _, _, _, _, _, _, _, _, _, _, _, _, _, _, _, _, _, _, _, _, _, _, _, _, _, _, _, _, _, _, _, _, _, _, _, _, _, _, _, _, _, _, _, _, _, _, _, _, _, _, _, _, _, _], _⟩ : Act) _
      refine wpAny_ready (rs := [13]) (by kernel_rfl) (by simp) (AllReady.cons rfl (fun K hK => ?_) AllReady.nil)
      rw [if_pos (by kernel_rfl)]
      refine wp_store_mid 29 (.tmp 52) (.tmp 47) rfl g2 (ni * 3) XJ.toArray rfl rfl (by rw [HaXJ.out]; exact HTI.out) (by rw [HaXJ.out]; exact size29) HoXJ.out ?_
      refine hK _ _ ?_
      clear hK K
      change wpAny _ _ _ _ _ _ (⟨#[_, _, _, _, _, _, _, _, _, _, _, _, _, _, _, _, _, _, _, _, _, _, _, _, _, _, _, _, _, _, _, _, _, _, _, _, _, _, _, _, _, _, _, _, _, _, _, _, _, _, _, _, _, _, _, _, _, _, _, _, _, _, _, _, _, _, _, _, _, _, _, _, _, _, _, _, _, _, _, _, _, _, _, _, _, _], _⟩ : Act) _
      refine wpAny_take (i := 14) (v := ?_) rfl (by kernel_rfl) (by kernel_rfl) (by kernel_rfl) (fun _ _ _ h => h) (Or.inl ⟨by kernel_rfl, ?_⟩) ?_
      rotate_left
      · intro w
        go_simp
        try with_reducible rfl
      change wpAny _ _ _ _ _ _ (⟨#[_, _, _, _, _, _, _, _, _, _, _, _, _, _, _, _, _, _, _, _, _, _, _, _, _, _, _, _, _, _, _, _, _, _, _, _, _, _, _, _, _, _, _, _, _, _, _, _, _, _, _, _, _, _, _, _, _, _, _, _, _, _, _, _, _, _, _, _, _, _, _, _, _, _, _, _, _, _, _, _, _, _, _, _, _, _], _⟩ : Act) _
      refine wpAny_ready (rs := [15]) (by kernel_rfl) (by simp) (AllReady.cons rfl (fun K hK => ?_) AllReady.nil)
      rw [if_pos (by kernel_rfl)]
      refine wp_store_mid 29 (.tmp 53) (.tmp 51) rfl g2 (nj * 3) XI.toArray rfl rfl (by rw [HaXI.out]; exact HTJ.out) (by rw [HaXI.out]; exact size29) HoXI.out ?_
      refine hK _ _ ?_
      clear hK K
      change wpAny _ _ _ _ _ _ (⟨#[_, _, _, _, _, _, _, _, _, _, _, _, _, _, _, _, _, _, _, _, _, _, _, _, _, _, _, _, _, _, _, _, _, _, _, _, _, _, _, _, _, _, _, _, _, _, _, _, _, _, _, _, _, _, _, _, _, _, _, _, _, _, _, _, _, _, _, _, _, _, _, _, _, _, _, _, _, _, _, _, _, _, _, _, _, _], _⟩ : Act) _
      refine wpAny_done (by kernel_rfl) ?_ _
      refine NoPanic.normal ?_
      go_simp
      have HE4 : Hid (EntsAt ((w3.drew.setCells g2 (ni * 3) XJ).setCells g2 (nj * 3) XI) g 0 us) := HEL.out.1.belowB HB4.out hglt
      have hsz4 : w3.heap.size ≤ ((w3.drew.setCells g2 (ni * 3) XJ).setCells g2 (nj * 3) XI).heap.size := HB4.out.size
      have hg2lt : g2 < ((w3.drew.setCells g2 (ni * 3) XJ).setCells g2 (nj * 3) XI).heap.size := by
        have h1 := (HSW.out ni (by unfold swapE; rw [List.length_set, List.length_set, ← HL.out]; omega)).1
        exact World.block_lt_of_cell? _ _ h1
      have HW4 : Hid (Below w.heap.size w ((w3.drew.setCells g2 (ni * 3) XJ).setCells g2 (nj * 3) XI)) := HW3.out.trans (HB4.out.mono HW2.out.size)
      have HSWl : Hid ((swapE us ni nj).length = len) := by unfold Hid swapE; rw [List.length_set, List.length_set, HL.out]
      clear HRI HRJ HTI HTJ HEA2 HTH
      generalize ((w3.drew.setCells g2 (ni * 3) XJ).setCells g2 (nj * 3) XI) = w4 at *
      obtain ⟨n1, hn1⟩ : ∃ n1, n1 = ni + 1 := ⟨_, rfl⟩
      obtain ⟨m1, hm1⟩ : ∃ m1, len = n1 + m1 := ⟨len - n1, by omega⟩
      obtain ⟨c1, hc1⟩ : ∃ c1, cap = n1 + c1 := ⟨cap - n1, by omega⟩
      have s1 : (ni : Int) + 1 = (n1 : Int) := by omega
      have s2 : (len : Int) - (n1 : Int) = (m1 : Int) := by omega
      have s3 : (cap : Int) - (n1 : Int) = (c1 : Int) := by omega
      have s2' : len - n1 = m1 := by omega
      have s3' : cap - n1 = c1 := by omega
      have s4 : (n1 : Int) ≤ (len : Int) := by omega
      have s4' : n1 ≤ len := by omega
      have s5 : (len : Int) ≤ (cap : Int) := by omega
      have s6 : (ni : Int) ≤ (cap : Int) := by omega
      have s6' : ni ≤ cap := by omega
      have s7 : ¬ cap = n1 := by omega
      have s7' : ¬ (cap : Int) = (n1 : Int) := by omega
      have s7'' : n1 < cap := by omega
      have s8 : n1 ≤ 600 := by omega
      have s9 : IntKind.i64.wrap (n1 : Int) = (n1 : Int) := by rw [IntKind.wrap_i64]; omega
      have s10 : (0 : Int) ≤ (ni : Int) := by omega
      have s11 : (0 : Int) ≤ (n1 : Int) := by omega
      have s12 : (n1 : Int) ≤ (cap : Int) := by omega
      have HN1 := hidM hn1
      have HM1 := hidM hm1
      clear hn1 hm1 hc1
      have HF3 : Hid (∀ V : World, EntsAt V g 0 us → Calls Tryd.prog 9 #[.slice (some ⟨g, 0, none⟩) ni cap] V fun e w' => FewO V (us.take ni) e w' ∧ Below V.heap.size V w') := fun V hV => by
        have hln : (us.take ni).length = ni := by rw [List.length_take, ← HL.out]; omega
        have := fewO_at g 0 cap (us.take ni) V (hV.take ni) (by rw [hln]; exact s6')
        rw [List.take_take, show min 600 ni = ni by omega, hln] at this
        exact this
      have HDR : Hid (EntsAt w4.drew g 0 us) := HE4.out
      obtain ⟨i0, hi, hz0, hz1, hz2⟩ := info_parts info29
      go_upto_region 8 with fail
      refine wp_region_noPanic ?_
      refine wp_region_any (by kernel_rfl) ?_
      change wpAny _ _ _ _ _ _ _ (World.drew _)
      refine wpAny_take (i := 0) (v := ?_) rfl (by kernel_rfl) (by kernel_rfl) (by kernel_rfl) (fun _ _ _ h => h) (Or.inl ⟨by kernel_rfl, ?_⟩) ?_
      rotate_left
      · intro w
        go_simp
        try with_reducible rfl
      change wpAny _ _ _ _ _ _ (⟨#[_, _, _, _, _, _, _, _, _, _, _, _, _, _, _, _, _, _, _, _, _, _, _, _, _, _, _, _, _, _, _, _, _, _, _, _, _, _, _, _, _, _, _, _, _, _, _, _, _, _, _, _, _, _, _, _, _, _, _, _, _, _, _, _, _, _, _, _, _, _, _, _, _, _, _, _, _, _, _, _, _, _, _, _, _, _], _⟩ : Act) _
      refine wpAny_take (i := 1) (v := ?_) rfl (by kernel_rfl) (by kernel_rfl) (by kernel_rfl) (fun _ _ _ h => h) (Or.inl ⟨by kernel_rfl, ?_⟩) ?_
      rotate_left
      · intro w
        go_simp
        try with_reducible rfl
      change wpAny _ _ _ _ _ _ (⟨#[_, _, _, _, _, _, _, _, _, _, _, _, _, _, _, _, _, _, _, _, _, _, _, _, _, _, _, _, _, _, _, _, _, _, _, _, _, _, _, _, _, _, _, _, _, _, _, _, _, _, _, _, _, _, _, _, _, _, _, _, _, _, _, _, _, _, _, _, _, _, _, _, _, _, _, _, _, _, _, _, _, _, _, _, _, _], _⟩ : Act) _
      refine wpAny_take (i := 2) (v := ?_) rfl (by kernel_rfl) (by kernel_rfl) (by kernel_rfl) (fun _ _ _ h => h) (Or.inl ⟨by kernel_rfl, ?_⟩) ?_
      rotate_left
      · intro w
        go_simp
        try with_reducible rfl
      change wpAny _ _ _ _ _ _ (⟨#[_, _, _, _, _, _, _, _, _, _, _, _, _, _, _, _, _, _, _, _, _, _, _, _, _, _, _, _, _, _, _, _, _, _, _, _, _, _, _, _, _, _, _, _, _, _, _, _, _, _, _, _, _, _, _, _, _, _, _, _, _, _, _, _, _, _, _, _, _, _, _, _, _, _, _, _, _, _, _, _, _, _, _, _, _, _], _⟩ : Act) _
      refine wpAny_take (i := 4) (v := ?_) rfl (by kernel_rfl) (by kernel_rfl) (by kernel_rfl) (fun _ _ _ h => h) (Or.inl ⟨by kernel_rfl, ?_⟩) ?_
      rotate_left
      · intro w
        go_simp
        try with_reducible rfl
      change wpAny _ _ _ _ _ _ (⟨#[_, _, _, _, _, _, _, _, _, _, _, _, _, _, _, _, _, _, _, _, _, _, _, _, _, _, _, _, _, _, _, _, _, _, _, _, _, _, _, _, _, _, _, _, _, _, _, _, _, _, _, _, _, _, _, _, _, _, _, _, _, _, _, _, _, _, _, _, _, _, _, _, _, _, _, _, _, _, _, _, _, _, _, _, _, _], _⟩ : Act) _
      refine wpAny_take (i := 5) (v := ?_) rfl (by kernel_rfl) (by kernel_rfl) (by kernel_rfl) (fun _ _ _ h => h) (Or.inl ⟨by kernel_rfl, ?_⟩) ?_
      rotate_left
      · intro w
        go_simp
        try with_reducible rfl
      change wpAny _ _ _ _ _ _ (⟨#[_, _, _, _, _, _, _, _, _, _, _, _, _, _, _, _, _, _, _, _, _, _, _, _, _, _, _, _, _, _, _, _, _, _, _, _, _, _, _, _, _, _, _, _, _, _, _, _, _, _, _, _, _, _, _, _, _, _, _, _, _, _, _, _, _, _, _, _, _, _, _, _, _, _, _, _, _, _, _, _, _, _, _, _, _, _], _⟩ : Act) _
      refine wpAny_take (i := 6) (v := ?_) rfl (by kernel_rfl) (by kernel_rfl) (by kernel_rfl) (fun _ _ _ h => h) (Or.inl ⟨by kernel_rfl, ?_⟩) ?_
      rotate_left
      · intro w
        go_simp
        try with_reducible rfl
      change wpAny _ _ _ _ _ _ (⟨#[_, _, _, _, _, _, _, _, _, _, _, _, _, _, _, _, _, _, _, _, _, _, _, _, _, _, _, _, _, _, _, _, _, _, _, _, _, _, _, _, _, _, _, _, _, _, _, _, _, _, _, _, _, _, _, _, _, _, _, _, _, _, _, _, _, _, _, _, _, _, _, _, _, _, _, _, _, _, _, _, _, _, _, _, _, _], _⟩ : Act) _
      refine wpAny_take (i := 7) (v := ?_) rfl (by kernel_rfl) (by kernel_rfl) (by kernel_rfl) (fun _ _ _ h => h) (Or.inl ⟨by kernel_rfl, ?_⟩) ?_
      rotate_left
      · intro w
        go_simp
        try with_reducible rfl
      change wpAny _ _ _ _ _ _ (⟨#[_, _, _, _, _, _, _, _, _, _, _, _, _, _, _, _, _, _, _, _, _, _, _, _, _, _, _, _, _, _, _, _, _, _, _, _, _, _, _, _, _, _, _, _, _, _, _, _, _, _, _, _, _, _, _, _, _, _, _, _, _, _, _, _, _, _, _, _, _, _, _, _, _, _, _, _, _, _, _, _, _, _, _, _, _, _], _⟩ : Act) _
      refine wpAny_ready (rs := [3]) (by kernel_rfl) (by simp) (AllReady.cons rfl (fun K hK => ?_) AllReady.nil)
      go_simp
      with_reducible refine (HF3.out _ HDR.out).mono ?_
      rintro _ w5 ⟨⟨v5, rfl, hown5, -⟩, hb5⟩
      refine hK _ _ ?_
      clear hK K
      change wpAny _ _ _ _ _ _ (⟨#[_, _, _, _, _, _, _, _, _, _, _, _, _, _, _, _, _, _, _, _, _, _, _, _, _, _, _, _, _, _, _, _, _, _, _, _, _, _, _, _, _, _, _, _, _, _, _, _, _, _, _, _, _, _, _, _, _, _, _, _, _, _, _, _, _, _, _, _, _, _, _, _, _, _, _, _, _, _, _, _, _, _, _, _, _, _], _⟩ : Act) _
      refine wpAny_ready (rs := [8]) (by kernel_rfl) (by simp) (AllReady.cons rfl (fun K hK => ?_) AllReady.nil)
      have hln5 : (us.take ni).length = ni := by rw [List.length_take, ← HL.out]; omega
      rw [hln5] at hown5
      have HE5 : Hid (EntsAt w5 g 0 us) := HDR.out.below hb5 (by show g < w4.heap.size; omega)
      have hb5' : Below w4.heap.size w4 w5 := (Below.refl _ w4).drew.trans hb5
      refine step_append_own rfl _ _ 22 rfl w4.heap.size 29 i0 (.agg #[.int .i64 0, .string .empty, .string .empty]) 3 40 Tryd.underlying22 hi hz0 hz1 hz2 rfl (by decide) v5 ni (flatE (us.take ni)) rfl hown5 ⟨g, n1 * 3, none⟩ m1 c1 (flatE (us.drop n1)) rfl ?_ ?_ (flatE_one _) (by unfold maxLen; omega) (by omega) hb5'.size ?_
      · rw [flatE_len, List.length_drop, ← HL.out, s2']
      · intro t u ht
        rw [Addr.add_mid]
        exact drop_cells HE5.out n1 t u ht
      intro v6 w6 hown6 hgrow6
      refine hK _ _ ?_
      clear hK K
      have hb6 : Below w4.heap.size w4 w6 := hb5'.grown hgrow6 hb5'.size (own_ge hown5)
      have HLE : Hid (lessE us ni = us.take ni ++ us.drop n1) := by unfold Hid lessE; rw [HN1.out]
      have hlen6 : (lessE us ni).length = ni + m1 := by rw [HLE.out, List.length_append, hln5, List.length_drop, ← HL.out, s2']
      rw [← flatE_app, ← HLE.out, ← hlen6] at hown6
      have hnn6 : v6 ≠ .slice none 0 0 := fun e => by
        rcases hown6.2 with ⟨_, h0⟩ | ⟨_, _, _, h, _⟩
        · rw [hlen6] at h0; have := HM1.out; have := HN1.out; omega
        · rw [e] at h; cases h
      obtain ⟨g6, cap6, hv6, hg6, hc6, hE6⟩ := few_ret (w := w4) hown6 hnn6
      simp only [Ending.returned.injEq] at hv6
      subst hv6
      clear hown6 hnn6 hgrow6 hown5 hb5 hb5'
      change wpAny _ _ _ _ _ _ (⟨#[_, _, _, _, _, _, _, _, _, _, _, _, _, _, _, _, _, _, _, _, _, _, _, _, _, _, _, _, _, _, _, _, _, _, _, _, _, _, _, _, _, _, _, _, _, _, _, _, _, _, _, _, _, _, _, _, _, _, _, _, _, _, _, _, _, _, _, _, _, _, _, _, _, _, _, _, _, _, _, _, _, _, _, _, _, _], _⟩ : Act) _
      refine wpAny_take (i := 9) (v := ?_) rfl (by kernel_rfl) (by kernel_rfl) (by kernel_rfl) (fun _ _ _ h => h) (Or.inl ⟨by kernel_rfl, ?_⟩) ?_
      rotate_left
      · intro w
        go_simp
        try with_reducible rfl
      change wpAny _ _ _ _ _ _ (⟨#[_, _, _, _, _, _, _, _, _, _, _, _, _, _, _, _, _, _, _, _, _, _, _, _, _, _, _, _, _, _, _, _, _, _, _, _, _, _, _, _, _, _, _, _, _, _, _, _, _, _, _, _, _, _, _, _, _, _, _, _, _, _, _, _, _, _, _, _, _, _, _, _, _, _, _, _, _, _, _, _, _, _, _, _, _, _], _⟩ : Act) _
      refine wpAny_done (by kernel_rfl) ?_ _
      refine NoPanic.normal ?_
      have HW6 := hidM (HW4.out.trans (hb6.mono HW4.out.size))
      have HG6 := hidM (HG.out.below HW6.out)
      have HSI : Hid (EntsIn w6 (some ⟨g2, 0, none⟩) (swapE us ni nj)) := Or.inr ⟨g2, 0, rfl, Nat.lt_of_lt_of_le hg2lt hb6.size, HSW.out.below hb6 hg2lt⟩
      have HSB := hidM (swap_bad HC0.out hij (by rw [← HL.out]; exact hjl))
      have HLB := hidM (less_ok HC0.out (i := ni) (by rw [← HL.out]; omega))
      have HFT : Hid (Calls Tryd.prog 10 #[.slice (some ⟨g2, 0, none⟩) len cap2] w6 fun e w' => e = .returned (.tuple #[.string ⟨#[]⟩, .int .i64 4]) ∧ Below w6.heap.size w6 w') := by
        have := treeFormat_any (some ⟨g2, 0, none⟩) cap2 (swapE us ni nj) w6 HG6.out HSI.out (fun e he => HO.out e (swap_mem hij (by rw [← HL.out]; exact hjl) he))
        have hf : formT (swapE us ni nj) = [] := by unfold formT; rw [HSB.out]; rfl
        rw [hf, HSB.out, HSWl.out] at this
        exact this
      have HFL : Hid (∀ V : World, GT V → EntsIn V (some ⟨g6, 0, none⟩) (lessE us ni) → Calls Tryd.prog 10 #[.slice (some ⟨g6, 0, none⟩) (ni + m1) cap6] V fun e w' => e = .returned (.tuple #[.string ⟨(formT (lessE us ni)).toArray⟩, .int .i64 0]) ∧ Below V.heap.size V w') := fun V hV hEV => by
        have := treeFormat_any (some ⟨g6, 0, none⟩) cap6 (lessE us ni) V hV hEV (fun e he => HO.out e (less_mem he))
        rw [HLB.out, hlen6] at this
        exact this
      have HE6 := hidM hE6
      generalize (⟨(formT (lessE us ni)).toArray⟩ : ByteArray) = FL at *
      clear hE6 hb6 HSW HSI hlen6
      go_simp
      go_wp2_with fail
      refine HFT.out.mono ?_
      rintro _ w7 ⟨rfl, hb7⟩
      have HW7 := hidM (HW6.out.trans (hb7.mono HW6.out.size))
      have HG7 := hidM (HG6.out.below hb7)
      have HE7 := hidM (HE6.out.below hb7)
      clear hb7
      go_wp2_with fail
      refine (HFL.out _ HG7.out HE7.out).mono ?_
      rintro _ w8 ⟨rfl, hb8⟩
      have HW8 := hidM (HW7.out.trans (hb8.mono HW7.out.size))
      have HG8 := hidM (HG7.out.below hb8)
      clear hb8
      go_wp2_with fail
      refine (HAW.out _ HG8.out).mono ?_
      rintro _ w9 ⟨rfl, hb9⟩
      have HW9 := hidM (HW8.out.trans (hb9.mono HW8.out.size))
      go_wp2
      go_ret
      exact ⟨rfl, HW9.out⟩
    · as_aux_lemma =>
      rw [if_pos (by kernel_rfl)]
      refine wp_load_mid 29 (.tmp 50) rfl g2 (ni * 3) rfl XI _ HRI.out Tryd.underlying29 rfl (by rw [HlXI.out]; exact size29) ?_
      refine hK _ _ ?_
      clear hK K
      change wpAny _ _ _ _ _ _ (⟨#[_, _, _, _, _, _, _, _, _, _, _, _, _, _, _, _, _, _, _, _, _, _, _, _, _, _, _, _, _, _, _, _, _, _, _, _, _, _, _, _, _, _, _, _, _, _, _, _, _, _, _, _, _, _, _, _, _, _, _, _, _, _, _, _, _, _, _, _, _, _, _, _, _, _, _, _, _, _, _, _, _, _, _, _, _, _], _⟩ : Act) _
      refine wpAny_ready (rs := [7]) (by kernel_rfl) (by simp) (AllReady.cons rfl (fun K hK => ?_) AllReady.nil)
      rw [if_pos (by kernel_rfl)]
      refine wp_load_mid 29 (.tmp 46) rfl g2 (nj * 3) rfl XJ _ HRJ.out Tryd.underlying29 rfl (by rw [HlXJ.out]; exact size29) ?_
      refine hK _ _ ?_
      clear hK K
      change wpAny _ _ _ _ _ _ (⟨#[_, _, _, _, _, _, _, _, _, _, _, _, _, _, _, _, _, _, _, _, _, _, _, _, _, _, _, _, _, _, _, _, _, _, _, _, _, _, _, _, _, _, _, _, _, _, _, _, _, _, _, _, _, _, _, _, _, _, _, _, _, _, _, _, _, _, _, _, _, _, _, _, _, _, _, _, _, _, _, _, _, _, _, _, _, _], _⟩ : Act) _
      refine wpAny_take (i := 12) (v := ?_) rfl (by kernel_rfl) (by kernel_rfl) (by kernel_rfl) (fun _ _ _ h => h) (Or.inl ⟨by kernel_rfl, ?_⟩) ?_
      rotate_left
      · intro w
        go_simp
        try with_reducible rfl
      change wpAny _ _ _ _ _ _ (⟨#[_, _, _, _, _, _, _, _, _, _, _, _, _, _, _, _, _, _, _, _, _, _, _, _, _, _, _, _, _, _, _, _, _, _, _, _, _, _, _, _, _, _, _, _, _, _, _, _, _, _, _, _, _, _, _, _, _, _, _, _, _, _, _, _, _, _, _, _, _, _, _, _, _, _, _, _, _, _, _, _, _, _, _, _, _, _], _⟩ : Act) _
      refine wpAny_ready (rs := [13]) (by kernel_rfl) (by simp) (AllReady.cons rfl (fun K hK => ?_) AllReady.nil)
      rw [if_pos (by kernel_rfl)]
      refine wp_store_mid 29 (.tmp 52) (.tmp 47) rfl g2 (ni * 3) XJ.toArray rfl rfl (by rw [HaXJ.out]; exact HTI.out) (by rw [HaXJ.out]; exact size29) HoXJ.out ?_
      refine hK _ _ ?_
      clear hK K
      change wpAny _ _ _ _ _ _ (⟨#[_, _, _, _, _, _, _, _, _, _, _, _, _, _, _, _, _, _, _, _, _, _, _, _, _, _, _, _, _, _, _, _, _, _, _, _, _, _, _, _, _, _, _, _, _, _, _, _, _, _, _, _, _, _, _, _, _, _, _, _, _, _, _, _, _, _, _, _, _, _, _, _, _, _, _, _, _, _, _, _, _, _, _, _, _, _], _⟩ : Act) _
      refine wpAny_take (i := 14) (v := ?_) rfl (by kernel_rfl) (by kernel_rfl) (by kernel_rfl) (fun _ _ _ h => h) (Or.inl ⟨by kernel_rfl, ?_⟩) ?_
      rotate_left
      · intro w
        go_simp
        try with_reducible rfl
      change wpAny _ _ _ _ _ _ (⟨#[_, _, _, _, _, _, _, _, _, _, _, _, _, _, _, _, _, _, _, _, _, _, _, _, _, _, _, _, _, _, _, _, _, _, _, _, _, _, _, _, _, _, _, _, _, _, _, _, _, _, _, _, _, _, _, _, _, _, _, _, _, _, _, _, _, _, _, _, _, _, _, _, _, _, _, _, _, _, _, _, _, _, _, _, _, _], _⟩ : Act) _
      refine wpAny_ready (rs := [15]) (by kernel_rfl) (by simp) (AllReady.cons rfl (fun K hK => ?_) AllReady.nil)
      rw [if_pos (by kernel_rfl)]
      refine wp_store_mid 29 (.tmp 53) (.tmp 51) rfl g2 (nj * 3) XI.toArray rfl rfl (by rw [HaXI.out]; exact HTJ.out) (by rw [HaXI.out]; exact size29) HoXI.out ?_
      refine hK _ _ ?_
      clear hK K
      change wpAny _ _ _ _ _ _ (⟨#[_, _, _, _, _, _, _, _, _, _, _, _, _, _, _, _, _, _, _, _, _, _, _, _, _, _, _, _, _, _, _, _, _, _, _, _, _, _, _, _, _, _, _, _, _, _, _, _, _, _, _, _, _, _, _, _, _, _, _, _, _, _, _, _, _, _, _, _, _, _, _, _, _, _, _, _, _, _, _, _, _, _, _, _, _, _], _⟩ : Act) _
      refine wpAny_done (by kernel_rfl) ?_ _
      refine NoPanic.normal ?_
      go_simp
      have HE4 : Hid (EntsAt ((w3.drew.setCells g2 (ni * 3) XJ).setCells g2 (nj * 3) XI) g 0 us) := HEL.out.1.belowB HB4.out hglt
      have hsz4 : w3.heap.size ≤ ((w3.drew.setCells g2 (ni * 3) XJ).setCells g2 (nj * 3) XI).heap.size := HB4.out.size
      have hg2lt : g2 < ((w3.drew.setCells g2 (ni * 3) XJ).setCells g2 (nj * 3) XI).heap.size := by
        have h1 := (HSW.out ni (by unfold swapE; rw [List.length_set, List.length_set, ← HL.out]; omega)).1
        exact World.block_lt_of_cell? _ _ h1
      have HW4 : Hid (Below w.heap.size w ((w3.drew.setCells g2 (ni * 3) XJ).setCells g2 (nj * 3) XI)) := HW3.out.trans (HB4.out.mono HW2.out.size)
      have HSWl : Hid ((swapE us ni nj).length = len) := by unfold Hid swapE; rw [List.length_set, List.length_set, HL.out]
      clear HRI HRJ HTI HTJ HEA2 HTH
      generalize ((w3.drew.setCells g2 (ni * 3) XJ).setCells g2 (nj * 3) XI) = w4 at *
      obtain ⟨n1, hn1⟩ : ∃ n1, n1 = ni + 1 := ⟨_, rfl⟩
      obtain ⟨m1, hm1⟩ : ∃ m1, len = n1 + m1 := ⟨len - n1, by omega⟩
      obtain ⟨c1, hc1⟩ : ∃ c1, cap = n1 + c1 := ⟨cap - n1, by omega⟩
      have s1 : (ni : Int) + 1 = (n1 : Int) := by omega
      have s2 : (len : Int) - (n1 : Int) = (m1 : Int) := by omega
      have s3 : (cap : Int) - (n1 : Int) = (c1 : Int) := by omega
      have s2' : len - n1 = m1 := by omega
      have s3' : cap - n1 = c1 := by omega
      have s4 : (n1 : Int) ≤ (len : Int) := by omega
      have s4' : n1 ≤ len := by omega
      have s5 : (len : Int) ≤ (cap : Int) := by omega
      have s6 : (ni : Int) ≤ (cap : Int) := by omega
      have s6' : ni ≤ cap := by omega
      have s7 : ¬ cap = n1 := by omega
      have s7' : ¬ (cap : Int) = (n1 : Int) := by omega
      have s7'' : n1 < cap := by omega
      have s8 : n1 ≤ 600 := by omega
      have s9 : IntKind.i64.wrap (n1 : Int) = (n1 : Int) := by rw [IntKind.wrap_i64]; omega
      have s10 : (0 : Int) ≤ (ni : Int) := by omega
      have s11 : (0 : Int) ≤ (n1 : Int) := by omega
      have s12 : (n1 : Int) ≤ (cap : Int) := by omega
      have HN1 := hidM hn1
      have HM1 := hidM hm1
      clear hn1 hm1 hc1
      have HF3 : Hid (∀ V : World, EntsAt V g 0 us → Calls Tryd.prog 9 #[.slice (some ⟨g, 0, none⟩) ni cap] V fun e w' => FewO V (us.take ni) e w' ∧ Below V.heap.size V w') := fun V hV => by
        have hln : (us.take ni).length = ni := by rw [List.length_take, ← HL.out]; omega
        have := fewO_at g 0 cap (us.take ni) V (hV.take ni) (by rw [hln]; exact s6')
        rw [List.take_take, show min 600 ni = ni by omega, hln] at this
        exact this
      have HDR : Hid (EntsAt w4.drew g 0 us) := HE4.out
      obtain ⟨i0, hi, hz0, hz1, hz2⟩ := info_parts info29
      go_upto_region 8 with fail
      refine wp_region_noPanic ?_
      refine wp_region_any (by kernel_rfl) ?_
      change wpAny _ _ _ _ _ _ _ (World.drew _)
      refine wpAny_take (i := 0) (v := ?_) rfl (by kernel_rfl) (by kernel_rfl) (by kernel_rfl) (fun _ _ _ h => h) (Or.inl ⟨by kernel_rfl, ?_⟩) ?_
      rotate_left
      · intro w
        go_simp
        try with_reducible rfl
      change wpAny _ _ _ _ _ _ (⟨#[_, _, _, _, _, _, _, _, _, _, _, _, _, _, _, _, _, _, _, _, _, _, _, _, _, _, _, _, _, _, _, _, _, _, _, _, _, _, _, _, _, _, _, _, _, _, _, _, _, _, _, _, _, _, _, _, _, _, _, _, _, _, _, _, _, _, _, _, _, _, _, _, _, _, _, _, _, _, _, _, _, _, _, _, _, _], _⟩ : Act) _
      refine wpAny_take (i := 1) (v := ?_) rfl (by kernel_rfl) (by kernel_rfl) (by kernel_rfl) (fun _ _ _ h => h) (Or.inl ⟨by kernel_rfl, ?_⟩) ?_
      rotate_left
      · intro w
        go_simp
        try with_reducible rfl
      change wpAny _ _ _ _ _ _ (⟨#[_, _, _, _, _, _, _, _, _, _, _, _, _, _, _, _, _, _, _, _, _, _, _, _, _, _, _, _, _, _, _, _, _, _, _, _, _, _, _, _, _, _, _, _, _, _, _, _, _, _, _, _, _, _, _, _, _, _, _, _, _, _, _, _, _, _, _, _, _, _, _, _, _, _, _, _, _, _, _, _, _, _, _, _, _, _], _⟩ : Act) _
      refine wpAny_take (i := 2) (v := ?_) rfl (by kernel_rfl) (by kernel_rfl) (by kernel_rfl) (fun _ _ _ h => h) (Or.inl ⟨by kernel_rfl, ?_⟩) ?_
      rotate_left
      · intro w
        go_simp
        try with_reducible rfl
      change wpAny _ _ _ _ _ _ (⟨#[_, _, _, _, _, _, _, _, _, _, _, _, _, _, _, _, _, _, _, _, _, _, _, _, _, _, _, _, _, _, _, _, _, _, _, _, _, _, _, _, _, _, _, _, _, _, _, _, _, _, _, _, _, _, _, _, _, _, _, _, _, _, _, _, _, _, _, _, _, _, _, _, _, _, _, _, _, _, _, _, _, _, _, _, _, _], _⟩ : Act) _
      refine wpAny_take (i := 4) (v := ?_) rfl (by kernel_rfl) (by kernel_rfl) (by kernel_rfl) (fun _ _ _ h => h) (Or.inl ⟨by kernel_rfl, ?_⟩) ?_
      rotate_left
      · intro w
        go_simp
        try with_reducible rfl
      change wpAny _ _ _ _ _ _ (⟨#[_, _, _, _, _, _, _, _, _, _, _, _, _, _, _, _, _, _, _, _, _, _, _, _, _, _, _, _, _, _, _, _, _, _, _, _, _, _, _, _, _, _, _, _, _, _, _, _, _, _, _, _, _, _, _, _, _, _, _, _, _, _, _, _, _, _, _, _, _, _, _, _, _, _, _, _, _, _, _, _, _, _, _, _, _, _], _⟩ : Act) _
      refine wpAny_take (i := 5) (v := ?_) rfl (by kernel_rfl) (by kernel_rfl) (by kernel_rfl) (fun _ _ _ h => h) (Or.inl ⟨by kernel_rfl, ?_⟩) ?_
      rotate_left
      · intro w
        go_simp
        try with_reducible rfl
      change wpAny _ _ _ _ _ _ (⟨#[_, _, _, _, _, _, _, _, _, _, _, _, _, _, _, _, _, _, _, _, _, _, _, _, _, _, _, _, _, _, _, _, _, _, _, _, _, _, _, _, _, _, _, _, _, _, _, _, _, _, _, _, _, _, _, _, _, _, _, _, _, _, _, _, _, _, _, _, _, _, _, _, _, _, _, _, _, _, _, _, _, _, _, _, _, _], _⟩ : Act) _
      refine wpAny_take (i := 6) (v := ?_) rfl (by kernel_rfl) (by kernel_rfl) (by kernel_rfl) (fun _ _ _ h => h) (Or.inl ⟨by kernel_rfl, ?_⟩) ?_
      rotate_left
      · intro w
        go_simp
        try with_reducible rfl
      change wpAny _ _ _ _ _ _ (⟨#[_, _, _, _, _, _, _, _, _, _, _, _, _, _, _, _, _, _, _, _, _, _, _, _, _, _, _, _, _, _, _, _, _, _, _, _, _, _, _, _, _, _, _, _, _, _, _, _, _, _, _, _, _, _, _, _, _, _, _, _, _, _, _, _, _, _, _, _, _, _, _, _, _, _, _, _, _, _, _, _, _, _, _, _, _, _], _⟩ : Act) _
      refine wpAny_take (i := 7) (v := ?_) rfl (by kernel_rfl) (by kernel_rfl) (by kernel_rfl) (fun _ _ _ h => h) (Or.inl ⟨by kernel_rfl, ?_⟩) ?_
      rotate_left
      · intro w
        go_simp
        try with_reducible rfl
      change wpAny _ _ _ _ _ _ (⟨#[_, _, _, _, _, _, _, _, _, _, _, _, _, _, _, _, _, _, _, _, _, _, _, _, _, _, _, _, _, _, _, _, _, _, _, _, _, _, _, _, _, _, _, _, _, _, _, _, _, _, _, _, _, _, _, _, _, _, _, _, _, _, _, _, _, _, _, _, _, _, _, _, _, _, _, _, _, _, _, _, _, _, _, _, _, _], _⟩ : Act) _
      refine wpAny_ready (rs := [3]) (by kernel_rfl) (by simp) (AllReady.cons rfl (fun K hK => ?_) AllReady.nil)
      go_simp
      with_reducible refine (HF3.out _ HDR.out).mono ?_
      rintro _ w5 ⟨⟨v5, rfl, hown5, -⟩, hb5⟩
      refine hK _ _ ?_
      clear hK K
      change wpAny _ _ _ _ _ _ (⟨#[_, _, _, _, _, _, _, _, _, _, _, _, _, _, _, _, _, _, _, _, _, _, _, _, _, _, _, _, _, _, _, _, _, _, _, _, _, _, _, _, _, _, _, _, _, _, _, _, _, _, _, _, _, _, _, _, _, _, _, _, _, _, _, _, _, _, _, _, _, _, _, _, _, _, _, _, _, _, _, _, _, _, _, _, _, _], _⟩ : Act) _
      refine wpAny_ready (rs := [8]) (by kernel_rfl) (by simp) (AllReady.cons rfl (fun K hK => ?_) AllReady.nil)
      have hln5 : (us.take ni).length = ni := by rw [List.length_take, ← HL.out]; omega
      rw [hln5] at hown5
      have HE5 : Hid (EntsAt w5 g 0 us) := HDR.out.below hb5 (by show g < w4.heap.size; omega)
      have hb5' : Below w4.heap.size w4 w5 := (Below.refl _ w4).drew.trans hb5
      refine step_append_own rfl _ _ 22 rfl w4.heap.size 29 i0 (.agg #[.int .i64 0, .string .empty, .string .empty]) 3 40 Tryd.underlying22 hi hz0 hz1 hz2 rfl (by decide) v5 ni (flatE (us.take ni)) rfl hown5 ⟨g, n1 * 3, none⟩ m1 c1 (flatE (us.drop n1)) rfl ?_ ?_ (flatE_one _) (by unfold maxLen; omega) (by omega) hb5'.size ?_
      · rw [flatE_len, List.length_drop, ← HL.out, s2']
      · intro t u ht
        rw [Addr.add_mid]
        exact drop_cells HE5.out n1 t u ht
      intro v6 w6 hown6 hgrow6
      refine hK _ _ ?_
      clear hK K
      have hb6 : Below w4.heap.size w4 w6 := hb5'.grown hgrow6 hb5'.size (own_ge hown5)
      have HLE : Hid (lessE us ni = us.take ni ++ us.drop n1) := by unfold Hid lessE; rw [HN1.out]
      have hlen6 : (lessE us ni).length = ni + m1 := by rw [HLE.out, List.length_append, hln5, List.length_drop, ← HL.out, s2']
      rw [← flatE_app, ← HLE.out, ← hlen6] at hown6
      have hnn6 : v6 ≠ .slice none 0 0 := fun e => by
        rcases hown6.2 with ⟨_, h0⟩ | ⟨_, _, _, h, _⟩
        · rw [hlen6] at h0; have := HM1.out; have := HN1.out; omega
        · rw [e] at h; cases h
      obtain ⟨g6, cap6, hv6, hg6, hc6, hE6⟩ := few_ret (w := w4) hown6 hnn6
      simp only [Ending.returned.injEq] at hv6
      subst hv6
      clear hown6 hnn6 hgrow6 hown5 hb5 hb5'
      change wpAny _ _ _ _ _ _ (⟨#[_, _, _, _, _, _, _, _, _, _, _, _, _, _, _, _, _, _, _, _, _, _, _, _, _, _, _, _, _, _, _, _, _, _, _, _, _, _, _, _, _, _, _, _, _, _, _, _, _, _, _, _, _, _, _, _, _, _, _, _, _, _, _, _, _, _, _, _, _, _, _, _, _, _, _, _, _, _, _, _, _, _, _, _, _, _], _⟩ : Act) _
      refine wpAny_take (i := 9) (v := ?_) rfl (by kernel_rfl) (by kernel_rfl) (by kernel_rfl) (fun _ _ _ h => h) (Or.inl ⟨by kernel_rfl, ?_⟩) ?_
      rotate_left
      · intro w
        go_simp
        try with_reducible rfl
      change wpAny _ _ _ _ _ _ (⟨#[_, _, _, _, _, _, _, _, _, _, _, _, _, _, _, _, _, _, _, _, _, _, _, _, _, _, _, _, _, _, _, _, _, _, _, _, _, _, _, _, _, _, _, _, _, _, _, _, _, _, _, _, _, _, _, _, _, _, _, _, _, _, _, _, _, _, _, _, _, _, _, _, _, _, _, _, _, _, _, _, _, _, _, _, _, _], _⟩ : Act) _
      refine wpAny_done (by kernel_rfl) ?_ _
      refine NoPanic.normal ?_
      have HW6 := hidM (HW4.out.trans (hb6.mono HW4.out.size))
      have HG6 := hidM (HG.out.below HW6.out)
      have HSI : Hid (EntsIn w6 (some ⟨g2, 0, none⟩) (swapE us ni nj)) := Or.inr ⟨g2, 0, rfl, Nat.lt_of_lt_of_le hg2lt hb6.size, HSW.out.below hb6 hg2lt⟩
      have HSB := hidM (swap_bad HC0.out hij (by rw [← HL.out]; exact hjl))
      have HLB := hidM (less_ok HC0.out (i := ni) (by rw [← HL.out]; omega))
      have HFT : Hid (Calls Tryd.prog 10 #[.slice (some ⟨g2, 0, none⟩) len cap2] w6 fun e w' => e = .returned (.tuple #[.string ⟨#[]⟩, .int .i64 4]) ∧ Below w6.heap.size w6 w') := by
        have := treeFormat_any (some ⟨g2, 0, none⟩) cap2 (swapE us ni nj) w6 HG6.out HSI.out (fun e he => HO.out e (swap_mem hij (by rw [← HL.out]; exact hjl) he))
        have hf : formT (swapE us ni nj) = [] := by unfold formT; rw [HSB.out]; rfl
        rw [hf, HSB.out, HSWl.out] at this
        exact this
      have HFL : Hid (∀ V : World, GT V → EntsIn V (some ⟨g6, 0, none⟩) (lessE us ni) → Calls Tryd.prog 10 #[.slice (some ⟨g6, 0, none⟩) (ni + m1) cap6] V fun e w' => e = .returned (.tuple #[.string ⟨(formT (lessE us ni)).toArray⟩, .int .i64 0]) ∧ Below V.heap.size V w') := fun V hV hEV => by
        have := treeFormat_any (some ⟨g6, 0, none⟩) cap6 (lessE us ni) V hV hEV (fun e he => HO.out e (less_mem he))
        rw [HLB.out, hlen6] at this
        exact this
      have HE6 := hidM hE6
      generalize (⟨(formT (lessE us ni)).toArray⟩ : ByteArray) = FL at *
      clear hE6 hb6 HSW HSI hlen6
      go_simp
      go_wp2_with fail
      refine HFT.out.mono ?_
      rintro _ w7 ⟨rfl, hb7⟩
      have HW7 := hidM (HW6.out.trans (hb7.mono HW6.out.size))
      have HG7 := hidM (HG6.out.below hb7)
      have HE7 := hidM (HE6.out.below hb7)
      clear hb7
      go_wp2_with fail
      refine (HFL.out _ HG7.out HE7.out).mono ?_
      rintro _ w8 ⟨rfl, hb8⟩
      have HW8 := hidM (HW7.out.trans (hb8.mono HW7.out.size))
      have HG8 := hidM (HG7.out.below hb8)
      clear hb8
      go_wp2_with fail
      refine (HAW.out _ HG8.out).mono ?_
      rintro _ w9 ⟨rfl, hb9⟩
      have HW9 := hidM (HW8.out.trans (hb9.mono HW8.out.size))
      go_wp2
      go_ret
      exact ⟨rfl, HW9.out⟩
  · as_aux_lemma =>
    have b1 : (checkV us != 0) = true := by simp only [bne_iff_ne, ne_eq]; exact hc
    generalize checkV us = cv at *
    clear hc
    go_wp2_with fail
    refine (HAW.out _ HG2.out).mono ?_
    rintro _ w3 ⟨rfl, hb3⟩
    have HW3 := hidM (HW2.out.trans (hb3.mono HW2.out.size))
    have HE3 := hidM (HE2.out.below hb3)
    clear hb3
    go_wp2_with fail
    refine (HRC.out _ HE3.out).mono ?_
    rintro _ w4 ⟨rfl, hb4⟩
    have HW4 := hidM (HW3.out.trans (hb4.mono HW3.out.size))
    go_wp2
    go_ret
    exact ⟨rfl, HW4.out⟩
end Go.Proofs.YtccohagdfpcplaaDoor
