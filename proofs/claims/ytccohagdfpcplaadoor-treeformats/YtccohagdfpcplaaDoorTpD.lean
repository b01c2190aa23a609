/-
  Walks of tree: Parse.
-/
import Derived.Test.YtccohagdfpcplaaDoorTpC
import Derived.Test.YtccohagdfpcplaaDoorTrW
namespace Go.Proofs.YtccohagdfpcplaaDoor
open Go.RowKit

def strSize : Value → Nat
  | .string b => b.size
  | _ => 0
theorem own_shape {w : World} {B : Nat} {v : Value} {es : List EntB} (h : w.ownsRow B 29 3 v es.length (flatE es)) : ∃ a cap, v = .slice a es.length cap ∧ es.length ≤ cap ∧ EntsIn w a es := by
  rcases h.2 with ⟨hn, h2⟩ | ⟨g, cap, cur, rfl, hbase, hbk, h1, h2, h3, h4⟩
  · have : es = [] := List.length_eq_zero_iff.1 h2
    subst this
    exact ⟨none, 0, hn, Nat.le_refl _, .inl rfl⟩
  · refine ⟨some ⟨g, 0, none⟩, cap, rfl, h1, .inr ⟨g, 0, rfl, (Array.getElem?_eq_some_iff.1 hbk).1, fun i hi => ?_⟩⟩
    obtain ⟨f0, f1, f2⟩ := flatE_at es i hi
    have hc : ∀ j u, (flatE es)[j]? = some u → w.cell? ⟨g, 0 + j, none⟩ = some u := fun j u hj => by
      have := World.ownsRow.cells h (g := g) rfl j u hj
      rw [Addr.add_lit] at this
      exact this
    exact ⟨hc _ _ f0, by rw [Nat.add_assoc]; exact hc _ _ f1, by rw [Nat.add_assoc]; exact hc _ _ f2⟩
/-- what Parse answers -/
def ParPost (w : World) (es : List EntB) (er : Int) (e : Ending) (W : World) : Prop := ∃ v, e = .returned (.tuple #[v, .int .i64 er]) ∧ W.ownsRow w.heap.size 29 3 v es.length (flatE es)
theorem own_below {w W : World} {B : Nat} {v : Value} {es : List EntB} (h : w.ownsRow B 29 3 v es.length (flatE es)) (hb : Below w.heap.size w W) : W.ownsRow B 29 3 v es.length (flatE es) :=
  h.kept (row := none) ⟨hb.os, hb.tape, hb.output, hb.size, fun k hk _ => hb.block k hk⟩ (by
    cases v.ownBlock with
    | none => exact .inl rfl
    | some k => exact .inr (by simp))
theorem own_more {W : World} {B : Nat} {v : Value} {es : List EntB} {e : EntB} (h : W.ownsRow B 29 3 v (es.length + 1) (flatE es ++ [.int .i64 e.1, .string e.2.1, .string e.2.2])) : W.ownsRow B 29 3 v (es ++ [e]).length (flatE (es ++ [e])) := by
  rw [flatE_app, List.length_append]
  exact h
theorem cell_new3 {W : World} {B : Nat} (hB : W.heap.size = B) (u v x : Value) : ∀ j y, [u, v, x][j]? = some y → (W.alloc (.cells #[u, v, x] 29)).cell? ((⟨B, 0, none⟩ : Addr).add j) = some y := by
  subst hB
  intro j y hj
  rcases j with _ | _ | _ | j
  · simp at hj; subst hj; rw [Addr.add_lit]; simp
  · simp at hj; subst hj; rw [Addr.add_lit]; simp
  · simp at hj; subst hj; rw [Addr.add_lit]; simp
  · simp at hj
set_option maxHeartbeats 4000000 in
set_option maxRecDepth 100000 in
theorem tparse_any (s : ByteArray) (w : World) (hG : GT w) (hs : s.size ≤ 140737488355328) :
    Calls Tryd.prog 18 #[.string s] w fun e w' => ParPost w (parseF s.data.toList []).2 (parseF s.data.toList []).1 e w' ∧ Below w.heap.size w w' := by
  obtain ⟨i0, hi, hz0, hz1, hz2⟩ := info_parts info29
  have HG := hidM hG
  clear hG
  generalize hPP : parseF s.data.toList [] = PP
  have HP0 := hidM hPP
  clear hPP
  go_enter Tryd.func18, Tryd.ntmps18
  go_wp2
  go_loopw [0, 4, 5, 6, 7] (fun sv lv _ _ _ wr => ∃ (r : ByteArray) (acc : List EntB), sv = .string r ∧ r.size ≤ s.size ∧ wr.ownsRow w.heap.size 29 3 lv acc.length (flatE acc) ∧ acc.length ≤ 500 ∧ (∀ e ∈ acc, OkE e) ∧ parseF r.data.toList acc = PP ∧ Below w.heap.size w wr) (fun sv _ _ _ _ _ => strSize sv)
  case atStart => exact ⟨s, [], rfl, Nat.le_refl _, World.ownsRow_nil _ _ _ _, Nat.zero_le _, (fun e he => by cases he), HP0.out, Below.refl _ _⟩
  case round =>
    obtain ⟨r, acc, rfl, hrs, hown, h5, hok, hp, hbel⟩ := hrel
    have HO := hidM hown
    have HOK := hidM hok
    have HP := hidM hp
    have HW := hidM hbel
    have HGr := hidM (HG.out.below hbel)
    clear hown hok hp hbel HP0
    by_cases h0 : r = ⟨#[]⟩
    · have b0 : r.toList.isEmpty = true := by rw [h0]; decide +kernel
      have HR : Hid (PP = (checkV acc, if checkV acc = 0 then acc else [])) := by
        unfold Hid
        rw [← HP.out, h0]
        exact parse_nil acc
      obtain ⟨a, cap, rfl, hc, hE⟩ := own_shape HO.out
      have HCK := hidM (check_any a cap acc wr HGr.out hE HOK.out)
      clear h0 hE HP
      generalize hL : acc.length = len at *
      have HLL := hidM hL
      clear hL
      go_wp2_with fail
      refine HCK.out.mono ?_
      rintro _ w1 ⟨rfl, hb1⟩
      have HB1 := hidM (HW.out.trans (hb1.mono HW.out.size))
      have HO1 : Hid (w1.ownsRow w.heap.size 29 3 (.slice a len cap) len (flatE acc)) := by
        have h := own_below (es := acc) (by rw [HLL.out]; exact HO.out) hb1
        rw [HLL.out] at h
        exact h
      clear hb1 HCK HO
      by_cases hc0 : checkV acc = 0
      · have b1 : (checkV acc == 0) = true := by rw [hc0]; rfl
        have HR2 : Hid (PP = (0, acc)) := by unfold Hid; rw [HR.out, if_pos hc0, hc0]
        rw [hc0]
        clear hc0 HR b1
        go_wp2
        go_ret2
        refine ⟨⟨_, by rw [HR2.out]; rfl, ?_⟩, HB1.out⟩
        rw [HR2.out]
        rw [← HLL.out] at HO1
        simp only
        rw [HLL.out] at HO1 ⊢
        exact HO1.out
      · have b1 : (checkV acc == 0) = false := by simp; exact hc0
        have HR2 : Hid (PP = (checkV acc, [])) := by unfold Hid; rw [HR.out, if_neg hc0]
        generalize checkV acc = cv at *
        clear hc0 HR
        go_wp2
        go_ret2
        refine ⟨⟨_, by rw [HR2.out]; rfl, ?_⟩, HB1.out⟩
        rw [HR2.out]
        exact World.ownsRow_nil _ _ _ _
    · have hl0 : r.data.toList ≠ [] := fun e => h0 (bytes_ext e)
      have b0 : r.toList.isEmpty = false := by
        rw [ByteArray.toList_eq]
        simpa using hl0
      have HFA := hidM (first_any r wr HGr.out (by omega))
      have HFO := hidM (first_ok (l := r.data.toList) (by rw [len_size]; omega))
      have HBAD := hidM (fun h => parse_bad (acc := acc) hl0 h)
      have HFULL := hidM (fun h h5 => parse_full (acc := acc) hl0 h h5)
      have HMORE := hidM (fun h h5 => parse_more (acc := acc) hl0 h h5)
      have HLESS := hidM (fun h => first_less (l := r.data.toList) h)
      rw [len_size] at HLESS
      rw [HP.out] at HBAD HFULL HMORE
      clear h0 hl0 HP
      generalize hx : firstR r.data.toList = x at *
      clear hx
      obtain ⟨er, ⟨m, nm, id⟩, rest⟩ := x
      simp only at HBAD HFULL HMORE HLESS HFO
      unfold firstV at HFA
      simp only at HFA
      obtain ⟨RB, hRB⟩ : ∃ RB : ByteArray, RB = ⟨rest.toArray⟩ := ⟨_, rfl⟩
      have HRBl : Hid (RB.data.toList = rest) := by unfold Hid; rw [hRB]
      have hRz : RB.size = rest.length := by rw [← HRBl.out]; exact (len_size RB).symm
      rw [← hRB] at HFA
      clear hRB
      go_wp2_with fail
      refine HFA.out.mono ?_
      rintro _ w1 ⟨rfl, hb1⟩
      have HB1 := hidM (HW.out.trans (hb1.mono HW.out.size))
      have HO1 := hidM (own_below HO.out hb1)
      have HEB : Hid (EBox (w1.alloc (.cells #[.int .i64 m, .string nm, .string id] 29)) w1.heap.size m nm id) := heap_alloc_new w1 _
      have HB2 : Hid (Below w.heap.size w (w1.alloc (.cells #[.int .i64 m, .string nm, .string id] 29))) := HB1.out.alloc HB1.out.size _
      have HO2 : Hid ((w1.alloc (.cells #[.int .i64 m, .string nm, .string id] 29)).ownsRow w.heap.size 29 3 u4 acc.length (flatE acc)) := HO1.out.alloc _
      clear hb1 HFA HO HW HB1 HO1 HGr
      have c0 := HEB.out.c0
      have c1 := HEB.out.c1
      have c2 := HEB.out.c2
      by_cases he : er = 0
      · subst he
        clear HBAD
        have HLS := hidM (HLESS.out rfl)
        obtain ⟨a, cap, rfl, hc, -⟩ := own_shape HO2.out
        by_cases hf : acc.length = 500
        · have HR := hidM (HFULL.out rfl hf)
          have b1 : ((acc.length : Int) == 500) = true := by rw [hf]; rfl
          generalize acc.length = len at *
          go_wp2
          go_ret2
          refine ⟨⟨_, by rw [HR.out]; rfl, ?_⟩, HB2.out⟩
          rw [HR.out]
          exact World.ownsRow_nil _ _ _ _
        · have HR := hidM (HMORE.out rfl hf)
          have b1 : ((acc.length : Int) == 500) = false := by simp only [beq_eq_false_iff_ne, ne_eq]; omega
          have h4 : acc.length ≤ 499 := by omega
          have HMK := hidM (fun (W : World) (v : Value) (h : W.ownsRow w.heap.size 29 3 v (acc.length + 1) (flatE acc ++ [.int .i64 m, .string nm, .string id])) => own_more (e := (m, nm, id)) h)
          have HAL : Hid ((acc ++ [((m, nm, id) : EntB)]).length = acc.length + 1) := by unfold Hid; simp
          have HOK2 : Hid (∀ e ∈ acc ++ [((m, nm, id) : EntB)], OkE e) := fun e he => by
            rcases List.mem_append.1 he with he | he
            · exact HOK.out e he
            · rw [List.mem_singleton.1 he]; exact HFO.out
          clear HFULL HMORE HLESS hf HOK
          generalize acc ++ [((m, nm, id) : EntB)] = acc2 at *
          generalize flatE acc = fl at *
          generalize acc.length = len at *
          go_wp2_with (at_builtin; refine wpList_append_own _ rfl _ _ 22 rfl w.heap.size 29 i0 (.agg #[.int .i64 0, .string .empty, .string .empty]) 3 40 Tryd.underlying22 hi hz0 hz1 hz2 rfl (by decide) _ _ _ rfl (World.ownsRow.alloc HO2.out _) ⟨_, 0, none⟩ 1 1 [.int .i64 m, .string nm, .string id] rfl rfl ?qc2 ?qc3 ?qc4 ?qc5 ?qc6 ?_)
          case qc2 => exact cell_new3 (by simp) _ _ _
          case qc3 => intro u hu; simp at hu; rcases hu with rfl | rfl | rfl <;> rfl
          case qc4 => unfold maxLen; omega
          case qc5 => omega
          case qc6 => have := HB2.out.size; simp at this ⊢; omega
          intro v' w3 hown' hgrow hnil
          have HO3 := hidM (HMK.out _ _ hown')
          have HB3 : Hid (Below w.heap.size w w3) := (HB2.out.alloc HB2.out.size _).grown hgrow (by have := HB2.out.size; simp at this ⊢; omega) (fun k hk => (HO2.out.lt k hk).1)
          clear hown' hgrow hnil HMK HO2
          go_wp2
          go_roundw
          case rel => exact ⟨RB, acc2, rfl, by have := HLS.out; omega, HO3.out, by rw [HAL.out]; omega, HOK2.out, by rw [HR.out, HRBl.out], HB3.out⟩
          case measure => show RB.size < r.size; have := HLS.out; omega
      · have b1 : (er == 0) = false := by simp; exact he
        have HR := hidM (HBAD.out he)
        clear HFULL HMORE HLESS HBAD he
        go_wp2
        go_ret2
        refine ⟨⟨_, by rw [HR.out]; rfl, ?_⟩, HB2.out⟩
        rw [HR.out]
        exact World.ownsRow_nil _ _ _ _
end Go.Proofs.YtccohagdfpcplaaDoor
