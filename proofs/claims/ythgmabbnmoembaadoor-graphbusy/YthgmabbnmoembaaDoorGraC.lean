/-
  Rows of a call's own, and what a step leaves as it was; the document's take.
-/
import Derived.Laws.AppendOwnNone
import Derived.Deep.AppendLies
import Derived.Test.YthgmabbnmoembaaDoorGraB
namespace Go.Proofs.YthgmabbnmoembaaDoor
open Go.RowKit

def intsV (l : List Int) : List Value := l.map (Value.int .i64)
theorem intsV_len (l : List Int) : (intsV l).length = l.length := by unfold intsV; simp
theorem intsV_app (l m : List Int) : intsV (l ++ m) = intsV l ++ intsV m := by unfold intsV; rw [List.map_append]
theorem intsV_at (l : List Int) (j : Nat) (h : j < l.length) : (intsV l)[j]? = some (.int .i64 l[j]) := by unfold intsV; simp [h]
theorem intsV_set (l : List Int) (j : Nat) (x : Int) : intsV (l.set j x) = (intsV l).set j (.int .i64 x) := by unfold intsV; rw [List.map_set]
theorem intsV_one (l : List Int) : ∀ u ∈ intsV l, u.oneCell' = true := by
  intro u hu
  unfold intsV at hu
  obtain ⟨x, _, rfl⟩ := List.mem_map.1 hu
  rfl
/-- cells of one each, in a row of the call's own -/
def OwnV (e : TypeId) (w : World) (B : Nat) (v : Value) (vs : List Value) : Prop := w.ownsRow B e 1 v vs.length vs
def OwnI (w : World) (B : Nat) (v : Value) (l : List Int) : Prop := OwnV 3 w B v (intsV l)
theorem OwnV.mono {e : TypeId} {w : World} {B C : Nat} {v : Value} {vs : List Value} (h : OwnV e w B v vs) (hC : C ≤ B) : OwnV e w C v vs := by
  refine ⟨h.1, ?_⟩
  rcases h.2 with hn | ⟨g, cap, cur, hv, hb, rest⟩
  · exact .inl hn
  · exact .inr ⟨g, cap, cur, hv, Nat.le_trans hC hb, rest⟩
theorem OwnV.same {e : TypeId} {w w' : World} {B : Nat} {v : Value} {vs : List Value} (h : OwnV e w B v vs) (hh : ∀ g, v.ownBlock = some g → g < w.heap.size → w'.heap[g]? = w.heap[g]?) : OwnV e w' B v vs := by
  refine ⟨h.1, ?_⟩
  rcases h.2 with hn | ⟨g, cap, cur, hv, hb, hg, rest⟩
  · exact .inl hn
  · subst hv
    exact .inr ⟨g, cap, cur, rfl, hb, (hh g rfl (Array.getElem?_eq_some_iff.1 hg).1).trans hg, rest⟩
theorem OwnV.below {e : TypeId} {w w' : World} {B : Nat} {v : Value} {vs : List Value} (h : OwnV e w B v vs) (hb : Below w.heap.size w w') : OwnV e w' B v vs := h.same fun g _ hg => hb.block g hg
theorem OwnV.lt {e : TypeId} {w : World} {B : Nat} {v : Value} {vs : List Value} (h : OwnV e w B v vs) {k : Nat} (hk : v.ownBlock = some k) : B ≤ k ∧ k < w.heap.size := World.ownsRow.lt h k hk
theorem OwnV.shape {e : TypeId} {w : World} {B : Nat} {v : Value} {vs : List Value} (h : OwnV e w B v vs) : ∃ a c, v = .slice a vs.length c ∧ vs.length ≤ c ∧ (0 < vs.length → ∃ g, a = some ⟨g, 0, none⟩ ∧ v.ownBlock = some g ∧ B ≤ g ∧ g < w.heap.size ∧ ∀ j (hj : j < vs.length), w.cell? ⟨g, j, none⟩ = some vs[j]) := by
  have h' := h
  rcases h.2 with ⟨h0, h1⟩ | ⟨g, cap, cur, hv, hg, hc, hn, _, _, _⟩
  · exact ⟨none, 0, by rw [h0, h1], by omega, fun hp => by omega⟩
  · subst hv
    refine ⟨_, cap, rfl, hn, fun _ => ⟨g, rfl, rfl, hg, (Array.getElem?_eq_some_iff.1 hc).1, fun j hj => ?_⟩⟩
    have := World.ownsRow.cells h' (g := g) rfl j vs[j] (by simp [hj])
    rw [Addr.add_lit, Nat.zero_add] at this
    exact this
theorem OwnI.shape {w : World} {B : Nat} {v : Value} {l : List Int} (h : OwnI w B v l) : ∃ a c, v = .slice a l.length c ∧ l.length ≤ c ∧ (0 < l.length → ∃ g, a = some ⟨g, 0, none⟩ ∧ v.ownBlock = some g ∧ B ≤ g ∧ g < w.heap.size ∧ IntsAt w g 0 l) := by
  obtain ⟨a, c, hv, hc, hs⟩ := OwnV.shape h
  rw [intsV_len] at hv hc
  refine ⟨a, c, hv, hc, fun hp => ?_⟩
  obtain ⟨g, h1, h2, h3, h4, h5⟩ := hs (by rw [intsV_len]; exact hp)
  refine ⟨g, h1, h2, h3, h4, fun j hj => ?_⟩
  have := h5 j (by rw [intsV_len]; exact hj)
  rw [Nat.zero_add, this]
  have h6 := intsV_at l j hj
  rw [List.getElem?_eq_getElem (by rw [intsV_len]; exact hj)] at h6
  exact h6
theorem OwnI.ints {w : World} {B : Nat} {v : Value} {l : List Int} (h : OwnI w B v l) : IntsV w v l := by
  obtain ⟨a, c, hv, hc, hs⟩ := h.shape
  refine ⟨a, c, hv, hc, fun ha => ?_, fun hne => ?_⟩
  · subst ha
    rcases h.2 with ⟨h0, _⟩ | ⟨g, cap, cur, h0, _⟩
    · rw [h0] at hv; simp at hv; omega
    · rw [h0] at hv; simp at hv
  obtain ⟨g, h1, _, _, h4, h5⟩ := hs (List.length_pos_iff.2 hne)
  exact ⟨g, 0, h1, h4, h5⟩
theorem OwnI.frozen {w : World} {B g n c : Nat} {l : List Int} (h : OwnI w B (.slice (some ⟨g, 0, none⟩) n c) l) (j : Nat) : w.frozen? ⟨g, j, none⟩ = false := by
  have hn : n = (intsV l).length := by
    obtain ⟨a, c', hv, _⟩ := OwnV.shape h
    cases hv; rfl
  subst hn
  exact World.ownsRow.frozenAt h j
theorem OwnI.stored {w : World} {B g n c : Nat} {l : List Int} (h : OwnI w B (.slice (some ⟨g, 0, none⟩) n c) l) (j : Nat) (x : Int) : OwnI (w.setCell ⟨g, j, none⟩ (.int .i64 x)) B (.slice (some ⟨g, 0, none⟩) n c) (l.set j x) := by
  have hn : n = (intsV l).length := by
    obtain ⟨a, c', hv, _⟩ := OwnV.shape h
    cases hv; rfl
  subst hn
  have := (World.ownsRow.stored h j (.int .i64 x)).1
  unfold OwnI OwnV
  rw [intsV_set, List.length_set]
  exact this

/-- all is as it was, but what stands in the blocks of X -/
structure But (X : Nat → Prop) (w w' : World) : Prop where
  os : w'.os = w.os
  tape : w'.tape = w.tape
  output : w'.output = w.output
  size : w.heap.size ≤ w'.heap.size
  block : ∀ k, k < w.heap.size → ¬ X k → w'.heap[k]? = w.heap[k]?
theorem But.refl (X : Nat → Prop) (w : World) : But X w w := ⟨rfl, rfl, rfl, Nat.le_refl _, fun _ _ _ => rfl⟩
theorem But.of_below {X : Nat → Prop} {w w' : World} (h : Below w.heap.size w w') : But X w w' := ⟨h.os, h.tape, h.output, h.size, fun k hk _ => h.block k hk⟩
theorem But.trans {X Y : Nat → Prop} {w w1 w2 : World} (h : But X w w1) (k : But Y w1 w2) (hx : ∀ j, j < w.heap.size → Y j → X j) : But X w w2 :=
  ⟨k.os.trans h.os, k.tape.trans h.tape, k.output.trans h.output, Nat.le_trans h.size k.size, fun j hj hn => (k.block j (Nat.lt_of_lt_of_le hj h.size) (fun hy => hn (hx j hj hy))).trans (h.block j hj hn)⟩
theorem But.mono {X Y : Nat → Prop} {w w1 : World} (h : But X w w1) (hx : ∀ j, j < w.heap.size → X j → Y j) : But Y w w1 :=
  ⟨h.os, h.tape, h.output, h.size, fun j hj hn => h.block j hj (fun hy => hn (hx j hj hy))⟩
theorem But.below {X : Nat → Prop} {w w' : World} {B : Nat} (h : But X w w') (hB : B ≤ w.heap.size) (hx : ∀ k, X k → B ≤ k) : Below B w w' :=
  ⟨h.os, h.tape, h.output, h.size, fun k hk => h.block k (by omega) (fun hx2 => by have := hx k hx2; omega)⟩
theorem But.grown {w w' : World} {row : Option Nat} (h : w.grownBy w' row) : But (fun k => row = some k) w w' := ⟨h.os, h.tape, h.output, h.size, fun k hk hn => h.block k hk (fun e => hn e.symm)⟩
theorem But.set (w : World) (g j : Nat) (u : Value) : But (fun k => k = g) w (w.setCell ⟨g, j, none⟩ u) := ⟨rfl, rfl, rfl, by simp, fun k _ hk => heap_setCell_other w ⟨g, j, none⟩ k u (fun e => hk (by simp [e]))⟩
theorem OwnV.but {X : Nat → Prop} {e : TypeId} {w w' : World} {B : Nat} {v : Value} {vs : List Value} (h : OwnV e w B v vs) (hb : But X w w') (hx : ∀ k, v.ownBlock = some k → ¬ X k) : OwnV e w' B v vs := h.same fun g hg hlt => hb.block g hlt (hx g hg)
theorem OwnI.but {X : Nat → Prop} {w w' : World} {B : Nat} {v : Value} {l : List Int} (h : OwnI w B v l) (hb : But X w w') (hx : ∀ k, v.ownBlock = some k → ¬ X k) : OwnI w' B v l := OwnV.but h hb hx
theorem IntsV.news {w : World} {ad : Addr} {n c : Nat} {l : List Int} (h : IntsV w (.slice (some ad) n c) l) : n = l.length ∧ ∀ j u, (intsV l)[j]? = some u → w.cell? (ad.add j) = some u := by
  obtain ⟨a, c', hv, _, _, hs⟩ := h
  cases hv
  refine ⟨rfl, fun j u hj => ?_⟩
  have hlt : j < l.length := by
    have := (List.getElem?_eq_some_iff.1 hj).1
    rwa [intsV_len] at this
  obtain ⟨g, o, h1, _, h3⟩ := hs (fun e => by rw [e] at hlt; simp at hlt)
  cases h1
  rw [Addr.add_lit, h3 j hlt]
  rw [intsV_at l j hlt] at hj
  exact hj
theorem info3 : (Tryd.prog.info? 3).map (fun i => (i.zero, i.size, i.bytes)) = some (some (.int .i64 0), 1, 8) := by kernel_rfl
theorem info28 : (Tryd.prog.info? 28).map (fun i => (i.zero, i.size, i.bytes)) = some (some (.slice none 0 0), 1, 24) := by kernel_rfl
theorem info40 : (Tryd.prog.info? 40).map (fun i => (i.zero, i.size, i.bytes)) = some (some (.complex .f64 0 0), 1, 16) := by kernel_rfl
theorem info9 : (Tryd.prog.info? 9).map (fun i => (i.zero, i.size, i.bytes)) = some (some (.string .empty), 1, 16) := by kernel_rfl
noncomputable def I3 : TypeInfo := Classical.choose (info_parts info3)
theorem I3a : Tryd.prog.info? 3 = some I3 := (Classical.choose_spec (info_parts info3)).1
theorem I3b : I3.zero = some (.int .i64 0) := (Classical.choose_spec (info_parts info3)).2.1
theorem I3c : I3.size = 1 := (Classical.choose_spec (info_parts info3)).2.2.1
theorem I3d : I3.bytes = 8 := (Classical.choose_spec (info_parts info3)).2.2.2
noncomputable def I28 : TypeInfo := Classical.choose (info_parts info28)
theorem I28a : Tryd.prog.info? 28 = some I28 := (Classical.choose_spec (info_parts info28)).1
theorem I28b : I28.zero = some (.slice none 0 0) := (Classical.choose_spec (info_parts info28)).2.1
theorem I28c : I28.size = 1 := (Classical.choose_spec (info_parts info28)).2.2.1
theorem I28d : I28.bytes = 24 := (Classical.choose_spec (info_parts info28)).2.2.2
noncomputable def I40 : TypeInfo := Classical.choose (info_parts info40)
theorem I40a : Tryd.prog.info? 40 = some I40 := (Classical.choose_spec (info_parts info40)).1
theorem I40b : I40.zero = some (.complex .f64 0 0) := (Classical.choose_spec (info_parts info40)).2.1
theorem I40c : I40.size = 1 := (Classical.choose_spec (info_parts info40)).2.2.1
theorem I40d : I40.bytes = 16 := (Classical.choose_spec (info_parts info40)).2.2.2
noncomputable def I9 : TypeInfo := Classical.choose (info_parts info9)
theorem I9a : Tryd.prog.info? 9 = some I9 := (Classical.choose_spec (info_parts info9)).1
theorem I9b : I9.zero = some (.string .empty) := (Classical.choose_spec (info_parts info9)).2.1
theorem I9c : I9.size = 1 := (Classical.choose_spec (info_parts info9)).2.2.1
theorem I9d : I9.bytes = 16 := (Classical.choose_spec (info_parts info9)).2.2.2
theorem own_made (e : TypeId) (w : World) (B : Nat) (hB : B ≤ w.heap.size) : (w.alloc (.cells #[] e)).ownsRow B e 1 (.slice (some ⟨w.heap.size, 0, none⟩) 0 0) 0 [] :=
  World.ownsRow_made w #[] 0 hB (Nat.zero_le _) (by simp)
/-- what an append to a new empty row leaves -/
theorem grown_made {w w1 : World} {e : TypeId} (h : (w.alloc (.cells #[] e)).grownBy w1 (Value.slice (some ⟨w.heap.size, 0, none⟩) 0 0).ownBlock) : Below w.heap.size w w1 :=
  ((Below.refl _ w).alloc (Nat.le_refl _) _).grown h (by simp) (by intro k hk; simp [Value.ownBlock] at hk; omega)

/-- the document's take: lane k, and the lanes -/
theorem putL_posZ (l : List Int) (c : Int) (h : 0 ≤ posZ c l) : putL l c = l.set (pos c l) c ∧ takeK l c = pos c l ∧ pos c l < l.length ∧ posZ c l = (pos c l : Int) := by
  unfold posZ at h
  split at h
  · rename_i h1
    have hk : takeK l c = pos c l := by unfold takeK; rw [if_pos h1]
    refine ⟨?_, hk, h1, ?_⟩
    · unfold putL setL; rw [hk, if_pos h1]
    · unfold posZ; rw [if_pos h1]
  · omega
theorem putL_free (l : List Int) (c : Int) (h : posZ c l < 0) (h2 : 0 ≤ posZ (-1) l) : putL l c = l.set (pos (-1) l) c ∧ takeK l c = pos (-1) l ∧ pos (-1) l < l.length ∧ posZ (-1) l = (pos (-1) l : Int) := by
  have hn : ¬ pos c l < l.length := fun h1 => by unfold posZ at h; rw [if_pos h1] at h; omega
  unfold posZ at h2
  split at h2
  · rename_i h1
    have hk : takeK l c = pos (-1) l := by unfold takeK; rw [if_neg hn]
    refine ⟨?_, hk, h1, ?_⟩
    · unfold putL setL; rw [hk, if_pos h1]
    · unfold posZ; rw [if_pos h1]
  · omega
theorem putL_new (l : List Int) (c : Int) (h : posZ c l < 0) (h2 : posZ (-1) l < 0) : putL l c = l ++ [c] ∧ takeK l c = l.length := by
  have hn : ¬ pos c l < l.length := fun h1 => by unfold posZ at h; rw [if_pos h1] at h; omega
  have hn2 : ¬ pos (-1) l < l.length := fun h1 => by unfold posZ at h2; rw [if_pos h1] at h2; omega
  have hk : takeK l c = l.length := by unfold takeK; rw [if_neg hn]; have := pos_le (-1) l; omega
  refine ⟨?_, hk⟩
  unfold putL setL; rw [hk, if_neg (by omega)]
set_option maxHeartbeats 2000000 in
theorem rtake_yes (ad : Addr) (n cp : Nat) (l : List Int) (c : Int) (w : World) (hv : IntsV w (.slice (some ad) n cp) l) (hl : l.length ≤ 1000000) (h0 : 0 ≤ posZ c l) :
    Calls Tryd.prog 19 #[.slice (some ad) n cp, .int .i64 c] w fun e w' => ∃ v', e = .returned (.tuple #[v', .int .i64 (takeK l c : Nat)]) ∧ OwnI w' w.heap.size v' (putL l c) ∧ Below w.heap.size w w' := by
  have HF := hidM (fun c => find_any _ l c w hv hl)
  have HNL : Hid (n = l.length) := hv.news.1
  have HNW : Hid ((intsV l).length = n * 1 ∧ ∀ j u, (intsV l)[j]? = some u → (w.alloc (.cells #[] 3)).cell? (ad.add j) = some u) := ⟨by rw [intsV_len]; have := HNL.out; omega, fun j u hj => Lib.cell?_alloc_some _ (hv.news.2 j u hj)⟩
  have hn6 : n ≤ 1000000 := by have := HNL.out; omega
  clear hv
  obtain ⟨hp, hk, hlt, hz⟩ := putL_posZ l c h0
  obtain ⟨q, hq⟩ : ∃ q, pos c l = q := ⟨_, rfl⟩
  rw [hq] at hp hk hlt hz
  rw [hp, hk]
  have HFC : Hid (∀ V, V = w → Calls Tryd.prog 20 #[.slice (some ad) n cp, .int .i64 c] V fun e w' => e = .returned (.int .i64 (q : Int)) ∧ w' = V) := fun V hV => by subst hV; rw [← hz]; exact HF.out c
  have hqn : q < n := by have := HNL.out; omega
  clear hp hk hlt hz hq HF h0
  have q0 : decide ((q : Int) < 0) = false := by simp
  have q1 : (q : Int) < (n : Int) := by omega
  go_enter Tryd.func19, Tryd.ntmps19
  go_wp2_with fail
  refine (HFC.out _ rfl).mono ?_
  rintro _ wq ⟨rfl, hq⟩
  rw [hq]
  clear hq
  go_wp2_with ((at_builtin; refine wpList_append_own _ rfl _ _ 28 rfl w.heap.size 3 I3 (.int .i64 0) 1 8 Tryd.underlying28 I3a I3b I3c I3d rfl (by decide) _ _ _ rfl (own_made 3 w _ (Nat.le_refl _)) ad n cp (intsV l) rfl ?qc1 ?qc2 ?qc3 ?qc4 ?qc5 ?qc6 ?_))
  case qc1 => exact HNW.out.1
  case qc2 => exact HNW.out.2
  case qc3 => exact intsV_one l
  case qc4 => unfold maxLen; omega
  case qc5 => omega
  case qc6 => simp
  intro v1 w1 hown hgrow hnil
  have HB1 : Hid (Below w.heap.size w w1) := grown_made hgrow
  have HO1 : Hid (OwnI w1 w.heap.size v1 l) := by
    unfold Hid OwnI OwnV
    rw [intsV_len, ← HNL.out]
    simpa using hown
  clear hown hgrow hnil
  obtain ⟨a1, c1, rfl, hc1, hs1⟩ := HO1.out.shape
  obtain ⟨g, rfl, -, hBg, hg, hat⟩ := hs1 (by have := HNL.out; omega)
  have HNL2 := hidM HNL.out.symm
  rw [HNL2.out] at HO1 hc1
  have hql : q < l.length := by have := HNL.out; omega
  have fq : w1.frozen? ⟨g, q, none⟩ = false := HO1.out.frozen q
  have cq := hat q hql
  rw [Nat.zero_add] at cq
  rw [HNL2.out]
  generalize l[q] = x at *
  have HB2 : Hid (Below w.heap.size w (w1.setCell ⟨g, q, none⟩ (.int .i64 c))) := HB1.out.setCell hBg _
  have HO2 : Hid (OwnI (w1.setCell ⟨g, q, none⟩ (.int .i64 c)) w.heap.size (.slice (some ⟨g, 0, none⟩) n c1) (l.set q c)) := HO1.out.stored q c
  clear hat hs1 HB1 HO1 HNL HNL2 HNW
  go_wp2
  go_ret2
  exact ⟨_, rfl, HO2.out, HB2.out⟩
set_option maxHeartbeats 2000000 in
theorem rtake_free (ad : Addr) (n cp : Nat) (l : List Int) (c : Int) (w : World) (hv : IntsV w (.slice (some ad) n cp) l) (hl : l.length ≤ 1000000) (h0 : posZ c l < 0) (h1 : 0 ≤ posZ (-1) l) :
    Calls Tryd.prog 19 #[.slice (some ad) n cp, .int .i64 c] w fun e w' => ∃ v', e = .returned (.tuple #[v', .int .i64 (takeK l c : Nat)]) ∧ OwnI w' w.heap.size v' (putL l c) ∧ Below w.heap.size w w' := by
  have HF := hidM (fun c => find_any _ l c w hv hl)
  have HNL : Hid (n = l.length) := hv.news.1
  have HNW : Hid ((intsV l).length = n * 1 ∧ ∀ j u, (intsV l)[j]? = some u → (w.alloc (.cells #[] 3)).cell? (ad.add j) = some u) := ⟨by rw [intsV_len]; have := HNL.out; omega, fun j u hj => Lib.cell?_alloc_some _ (hv.news.2 j u hj)⟩
  have hn6 : n ≤ 1000000 := by have := HNL.out; omega
  clear hv
  obtain ⟨hp, hk, hlt, hz⟩ := putL_free l c h0 h1
  obtain ⟨q, hq⟩ : ∃ q, pos (-1) l = q := ⟨_, rfl⟩
  rw [hq] at hp hk hlt hz
  rw [hp, hk]
  have HFC : Hid (∀ V, V = w → Calls Tryd.prog 20 #[.slice (some ad) n cp, .int .i64 (-1)] V fun e w' => e = .returned (.int .i64 (q : Int)) ∧ w' = V) := fun V hV => by subst hV; rw [← hz]; exact HF.out (-1)
  obtain ⟨y, hy⟩ : ∃ y, posZ c l = y := ⟨_, rfl⟩
  have HFY : Hid (∀ V, V = w → Calls Tryd.prog 20 #[.slice (some ad) n cp, .int .i64 c] V fun e w' => e = .returned (.int .i64 y) ∧ w' = V) := fun V hV => by subst hV; rw [← hy]; exact HF.out c
  rw [hy] at h0
  clear hy
  have hqn : q < n := by have := HNL.out; omega
  clear hp hk hlt hz hq HF h1
  have q0 : decide ((q : Int) < 0) = false := by simp
  have q1 : (q : Int) < (n : Int) := by omega
  go_enter Tryd.func19, Tryd.ntmps19
  go_wp2_with fail
  refine (HFY.out _ rfl).mono ?_
  rintro _ wq ⟨rfl, hq⟩
  rw [hq]
  clear hq
  go_wp2_with fail
  refine (HFC.out _ rfl).mono ?_
  rintro _ wq ⟨rfl, hq⟩
  rw [hq]
  clear hq
  go_wp2_with ((at_builtin; refine wpList_append_own _ rfl _ _ 28 rfl w.heap.size 3 I3 (.int .i64 0) 1 8 Tryd.underlying28 I3a I3b I3c I3d rfl (by decide) _ _ _ rfl (own_made 3 w _ (Nat.le_refl _)) ad n cp (intsV l) rfl ?qc1 ?qc2 ?qc3 ?qc4 ?qc5 ?qc6 ?_))
  case qc1 => exact HNW.out.1
  case qc2 => exact HNW.out.2
  case qc3 => exact intsV_one l
  case qc4 => unfold maxLen; omega
  case qc5 => omega
  case qc6 => simp
  intro v1 w1 hown hgrow hnil
  have HB1 : Hid (Below w.heap.size w w1) := grown_made hgrow
  have HO1 : Hid (OwnI w1 w.heap.size v1 l) := by
    unfold Hid OwnI OwnV
    rw [intsV_len, ← HNL.out]
    simpa using hown
  clear hown hgrow hnil
  obtain ⟨a1, c1, rfl, hc1, hs1⟩ := HO1.out.shape
  obtain ⟨g, rfl, -, hBg, hg, hat⟩ := hs1 (by have := HNL.out; omega)
  have HNL2 := hidM HNL.out.symm
  rw [HNL2.out] at HO1 hc1
  have hql : q < l.length := by have := HNL.out; omega
  have fq : w1.frozen? ⟨g, q, none⟩ = false := HO1.out.frozen q
  have cq := hat q hql
  rw [Nat.zero_add] at cq
  rw [HNL2.out]
  generalize l[q] = x at *
  have HB2 : Hid (Below w.heap.size w (w1.setCell ⟨g, q, none⟩ (.int .i64 c))) := HB1.out.setCell hBg _
  have HO2 : Hid (OwnI (w1.setCell ⟨g, q, none⟩ (.int .i64 c)) w.heap.size (.slice (some ⟨g, 0, none⟩) n c1) (l.set q c)) := HO1.out.stored q c
  clear hat hs1 HB1 HO1 HNL HNL2 HNW
  go_wp2
  go_ret2
  exact ⟨_, rfl, HO2.out, HB2.out⟩
set_option maxHeartbeats 2000000 in
theorem rtake_new (ad : Addr) (n cp : Nat) (l : List Int) (c : Int) (w : World) (hv : IntsV w (.slice (some ad) n cp) l) (hl : l.length ≤ 1000000) (h0 : posZ c l < 0) (h1 : posZ (-1) l < 0) :
    Calls Tryd.prog 19 #[.slice (some ad) n cp, .int .i64 c] w fun e w' => ∃ v', e = .returned (.tuple #[v', .int .i64 (takeK l c : Nat)]) ∧ OwnI w' w.heap.size v' (putL l c) ∧ Below w.heap.size w w' := by
  have HF := hidM (fun c => find_any _ l c w hv hl)
  have HNL : Hid (n = l.length) := hv.news.1
  have HNW : Hid ((intsV l).length = n * 1 ∧ ∀ j u, (intsV l)[j]? = some u → (w.alloc (.cells #[] 3)).cell? (ad.add j) = some u) := ⟨by rw [intsV_len]; have := HNL.out; omega, fun j u hj => Lib.cell?_alloc_some _ (hv.news.2 j u hj)⟩
  have hn6 : n ≤ 1000000 := by have := HNL.out; omega
  clear hv
  obtain ⟨hp, hk⟩ := putL_new l c h0 h1
  rw [hp, hk]
  obtain ⟨y, hy⟩ : ∃ y, posZ c l = y := ⟨_, rfl⟩
  obtain ⟨z, hz⟩ : ∃ z, posZ (-1) l = z := ⟨_, rfl⟩
  have HFY : Hid (∀ V, V = w → Calls Tryd.prog 20 #[.slice (some ad) n cp, .int .i64 c] V fun e w' => e = .returned (.int .i64 y) ∧ w' = V) := fun V hV => by subst hV; rw [← hy]; exact HF.out c
  have HFC : Hid (∀ V, V = w → Calls Tryd.prog 20 #[.slice (some ad) n cp, .int .i64 (-1)] V fun e w' => e = .returned (.int .i64 z) ∧ w' = V) := fun V hV => by subst hV; rw [← hz]; exact HF.out (-1)
  rw [hy] at h0
  rw [hz] at h1
  clear hy hz hp hk HF
  go_enter Tryd.func19, Tryd.ntmps19
  go_wp2_with fail
  refine (HFY.out _ rfl).mono ?_
  rintro _ wq ⟨rfl, hq⟩
  rw [hq]
  clear hq
  go_wp2_with fail
  refine (HFC.out _ rfl).mono ?_
  rintro _ wq ⟨rfl, hq⟩
  rw [hq]
  clear hq
  go_wp2_with ((at_builtin; refine wpList_append_own _ rfl _ _ 28 rfl w.heap.size 3 I3 (.int .i64 0) 1 8 Tryd.underlying28 I3a I3b I3c I3d rfl (by decide) _ _ _ rfl (own_made 3 w _ (Nat.le_refl _)) ad n cp (intsV l) rfl ?qc1 ?qc2 ?qc3 ?qc4 ?qc5 ?qc6 ?_))
  case qc1 => exact HNW.out.1
  case qc2 => exact HNW.out.2
  case qc3 => exact intsV_one l
  case qc4 => unfold maxLen; omega
  case qc5 => omega
  case qc6 => simp
  intro v1 w1 hown hgrow hnil
  have HB1 : Hid (Below w.heap.size w w1) := grown_made hgrow
  have HO1 : Hid (OwnI w1 w.heap.size v1 l) := by
    unfold Hid OwnI OwnV
    rw [intsV_len, ← HNL.out]
    simpa using hown
  clear hown hgrow hnil
  obtain ⟨a1, c1, rfl, hc1, -⟩ := HO1.out.shape
  have HNL2 := hidM HNL.out.symm
  rw [HNL2.out] at HO1 hc1
  rw [HNL2.out]
  have hsz := HB1.out.size
  go_wp2_with (at_builtin; refine wpList_append_own _ rfl _ _ 28 rfl w.heap.size 3 I3 (.int .i64 0) 1 8 Tryd.underlying28 I3a I3b I3c I3d rfl (by decide) (.slice a1 n c1) n (intsV l) rfl ?rc0 ⟨w1.heap.size, 0, none⟩ 1 1 [.int .i64 c] ?rd ?rc1 ?rc2 ?rc3 ?rc4 ?rc5 ?rc6 ?_)
  case rc0 =>
    have := HO1.out
    unfold OwnI OwnV at this
    rw [intsV_len, HNL2.out] at this
    exact World.ownsRow.alloc this _
  try (case rd => rfl)
  case rc1 => rfl
  case rc2 => exact World.news_of_block (heap_alloc_new _ _)
  case rc3 => intro u hu; simp at hu; subst hu; rfl
  case rc4 => unfold maxLen; omega
  case rc5 => omega
  case rc6 => simp; omega
  intro v2 w2 hown hgrow hnil
  have HB2 : Hid (Below w.heap.size w w2) := (HB1.out.alloc hsz _).grown hgrow (by simp; omega) (fun k hk => (OwnV.lt HO1.out hk).1)
  have HO2 : Hid (OwnI w2 w.heap.size v2 (l ++ [c])) := by
    unfold Hid OwnI OwnV
    rw [intsV_app, List.length_append, intsV_len, HNL2.out]
    exact hown
  have HG2 : Hid (∃ g c2, v2 = .slice (some ⟨g, 0, none⟩) (n + 1) c2 ∧ w.heap.size ≤ g ∧ (n + 1) ≤ c2 ∧ w2.cell? ⟨g, n, none⟩ = some (.int .i64 c)) := by
    obtain ⟨a2, c2, rfl, hc2, hs2⟩ := HO2.out.shape
    obtain ⟨g, rfl, -, hBg, hg, hat⟩ := hs2 (by simp)
    have h9 := hat n (by simp; have := HNL2.out; omega)
    rw [Nat.zero_add] at h9
    have h10 : (l ++ [c])[n]'(by simp; have := HNL2.out; omega) = c := by
      have := HNL2.out
      simp [this]
    rw [h10] at h9
    exact ⟨g, c2, by simp [HNL2.out], hBg, by simpa [HNL2.out] using hc2, h9⟩
  obtain ⟨g, c2, rfl, hBg, hc2, cq⟩ := HG2.out
  have fq : w2.frozen? ⟨g, n, none⟩ = false := HO2.out.frozen n
  have HB3 : Hid (Below w.heap.size w (w2.setCell ⟨g, n, none⟩ (.int .i64 c))) := HB2.out.setCell hBg _
  have HO3 : Hid (OwnI (w2.setCell ⟨g, n, none⟩ (.int .i64 c)) w.heap.size (.slice (some ⟨g, 0, none⟩) (n + 1) c2) (l ++ [c])) := by
    have := HO2.out.stored n c
    rwa [show (l ++ [c]).set n c = l ++ [c] by rw [List.set_append_right _ _ (by have := HNL2.out; omega)]; have := HNL2.out; simp [this]] at this
  clear hown hgrow hnil HB1 HO1 HB2 HO2 HNL HNW HG2 hsz
  go_wp2
  go_ret2
  exact ⟨.slice (some ⟨g, 0, none⟩) (n + 1) c2, by rw [HNL2.out]; rfl, HO3.out, HB3.out⟩
theorem rtake_any (ad : Addr) (n cp : Nat) (l : List Int) (c : Int) (w : World) (hv : IntsV w (.slice (some ad) n cp) l) (hl : l.length ≤ 1000000) :
    Calls Tryd.prog 19 #[.slice (some ad) n cp, .int .i64 c] w fun e w' => ∃ v', e = .returned (.tuple #[v', .int .i64 (takeK l c : Nat)]) ∧ OwnI w' w.heap.size v' (putL l c) ∧ Below w.heap.size w w' := by
  by_cases h0 : 0 ≤ posZ c l
  · exact rtake_yes ad n cp l c w hv hl h0
  · by_cases h1 : 0 ≤ posZ (-1) l
    · exact rtake_free ad n cp l c w hv hl (by omega) h1
    · exact rtake_new ad n cp l c w hv hl (by omega) (by omega)
end Go.Proofs.YthgmabbnmoembaaDoor
