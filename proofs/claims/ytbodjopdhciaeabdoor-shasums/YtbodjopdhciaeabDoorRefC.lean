/-
  Walks of the document's SHA-1: Sum1.
-/
import Derived.Test.YtbodjopdhciaeabDoorRefB
import Derived.BigQuiet
namespace Go.Proofs.YtbodjopdhciaeabDoor
open Go.RowKit

theorem quiet_ex {P : Program} {f : FuncId} {args : Array Value} {w : World} {n x : Nat} {v : Value}
    (h : Calls P f args (w.drewN (n + x)) fun e w' => e = .returned v ∧ ∃ m, w' = (w.drewN (n + x)).drewN m) : Calls P f args (w.drewN (n + x)) fun e w'' => e = .returned v ∧ ∃ m, w'' = w.drewN (n + m) :=
  h.mono fun _ _ ⟨he, m, hm⟩ => ⟨he, x + m, by rw [hm, World.drewN_drewN, Nat.add_assoc]⟩
/-- append onto words of the call's own: the cells that were there stay. -/
theorem run_append_W (w : World) (ty : TypeId) (i : TypeInfo) (hi : Tryd.prog.info? 30 = some i) (hz0 : i.zero = some (.int .u32 0)) (hz1 : i.size = 1) (hz2 : i.bytes = 4) (B g cap : Nat) (l : List Nat) (x : Nat) (hown : OwnW w B (.slice (some ⟨g, 0, none⟩) l.length cap) l) (ad : Addr) (c : Nat) (hnews : w.cell? ad = some (.int .u32 (x : Int)))
    (h63 : l.length ≤ 1000000) (hbase : B ≤ w.heap.size) :
    ∃ g' cap' w', (Builtin.append_ #[26, 26] ty #[.slice (some ⟨g, 0, none⟩) l.length cap, .slice (some ad) 1 c]).run Tryd.prog w = .ok (.slice (some ⟨g', 0, none⟩) (l.length + 1) cap') w' ∧ OwnW w' B (.slice (some ⟨g', 0, none⟩) (l.length + 1) cap') (l ++ [x]) ∧ w.grownBy w' (some g) ∧ ∀ j, j < l.length → w'.cell? ⟨g, j, none⟩ = w.cell? ⟨g, j, none⟩ := by
  have hn : ∀ j u, [Value.int .u32 (x : Int)][j]? = some u → w.cell? (ad.add j) = some u := by
    intro j u hj
    match j, hj with
    | 0, hj => simp at hj; subst hj; simpa [Addr.add] using hnews
  have hcells := fun j u => World.ownsRow.cells (g := g) hown rfl j u
  have hkeep : ∀ (w' : World) (g' cap' : Nat), OwnW w' B (.slice (some ⟨g', 0, none⟩) (l.length + 1) cap') (l ++ [x]) → g' = g → ∀ j, j < l.length → w'.cell? ⟨g, j, none⟩ = w.cell? ⟨g, j, none⟩ := by
    intro w' g' cap' ho hg j hj
    subst hg
    have h1 := ho.at j (by rw [List.length_append]; omega)
    have h2 := hown.at j hj
    rw [h1, h2, List.getD_eq_getElem?_getD, List.getD_eq_getElem?_getD, List.getElem?_append_left hj]
  rcases hown.2 with ⟨h0, _⟩ | ⟨g2, cap2, cur, hv, hbg, hg, hnc, hcm, hcs, htake⟩
  · simp at h0
  · simp only [Value.slice.injEq, Option.some.injEq, Addr.mk.injEq, and_true, true_and] at hv
    obtain ⟨rfl, rfl⟩ := hv
    by_cases hroom : l.length + 1 ≤ cap
    · have hr := run_append_room (P := Tryd.prog) w 26 ty 30 i Tryd.underlying26 hi g l.length cap cur hg ad 1 c [.int .u32 (x : Int)] (by rw [hz1]; rfl) hn (one_word x) hroom (by rw [hz1]; simp; omega)
      have ho : OwnW (w.setRow g (cur.toList.take (l.length * i.size) ++ [Value.int .u32 (x : Int)] ++ cur.toList.drop (l.length * i.size + [Value.int .u32 (x : Int)].length)).toArray) B (.slice (some ⟨g, 0, none⟩) (l.length + 1) cap) (l ++ [x]) := by
        refine ⟨by simp [wordsV_len], .inr ⟨g, cap, _, by rw [List.length_append]; rfl, hbg, setRow_heap w g cur _ 30 _ hg, by rw [List.length_append]; exact hroom, hcm, ?_, ?_⟩⟩
        · rw [hz1]; simp; omega
        · rw [hz1, Nat.mul_one, Nat.mul_one, wordsV_app]
          rw [Nat.mul_one] at htake
          rw [htake, show (l ++ [x]).length = (wordsV l ++ [Value.int .u32 (x : Int)]).length by simp [wordsV]]
          exact List.take_left
      exact ⟨g, cap, _, hr, ho, ⟨rfl, rfl, rfl, by simp, fun k _ hk => setRow_other w g k _ (fun e => hk (by rw [e]))⟩, hkeep _ g cap ho rfl⟩
    · have hr := run_append_grow (P := Tryd.prog) w 26 ty 30 i (.int .u32 0) Tryd.underlying26 hi hz0 ⟨g, 0, none⟩ l.length cap (wordsV l) (by rw [wordsV_len, hz1, Nat.mul_one]) hcells ad 1 c [.int .u32 (x : Int)] (by rw [hz1]; rfl) hn (by omega) (by omega) (growslice_fits (by omega) (by rw [hz2]; omega))
      have hge := grownCap_ge w (l.length + 1) cap 30
      have hcm2 : grownCap w (l.length + 1) cap 30 ≤ maxLen := grownCap_le_maxLen w (l.length + 1) cap 30 (by unfold maxLen; omega)
      refine ⟨w.heap.size, _, _, hr, ⟨by simp [wordsV_len], .inr ⟨w.heap.size, _, _, by rw [List.length_append]; rfl, hbase, heap_alloc_new w.drew _, by rw [List.length_append]; exact hge, hcm2, ?_, ?_⟩⟩, ⟨rfl, rfl, rfl, by simp, fun k hk _ => Below.heap_alloc w.drew _ k hk⟩, fun j _ => World.cell?_of_block (a := ⟨g, j, none⟩) (Below.heap_alloc w.drew _ g (Array.getElem?_eq_some_iff.1 hg).1)⟩
      · simp only [Array.size_append, List.size_toArray, size_zeroCells, wordsV_len]
        have : (Value.int .u32 0).cells.size = 1 := rfl
        rw [this]
        simp
        omega
      · simp only [Array.toList_append]
        rw [Nat.mul_one, wordsV_app, show (l ++ [x]).length = (wordsV l ++ [Value.int .u32 (x : Int)]).length by simp [wordsV]]
        exact List.take_left
theorem step_append_W {ops : Array Oper} {o : Oper} {a : Act} {w : World} {K : Act → World → Prop} {Q : Exit → Act → World → Prop} {E : Prop} (hgd : o.guard = none) (s y : Operand)
    (ho : o.op = .call { callee := .builtin .append, args := #[s, y], argTypes := #[26, 26] }) (i : TypeInfo) (hi : Tryd.prog.info? 30 = some i) (hz0 : i.zero = some (.int .u32 0)) (hz1 : i.size = 1) (hz2 : i.bytes = 4) (B g n cap : Nat) (l : List Nat) (x : Nat) (hs : a.eval s = .slice (some ⟨g, 0, none⟩) n cap) (hn : l.length = n) (hown : OwnW w B (.slice (some ⟨g, 0, none⟩) n cap) l)
    (ad : Addr) (c : Nat) (hx : a.eval y = .slice (some ad) 1 c) (hnews : w.cell? ad = some (.int .u32 (x : Int))) (h63 : l.length ≤ 1000000) (hbase : B ≤ w.heap.size)
    (h : ∀ g' cap' w', OwnW w' B (.slice (some ⟨g', 0, none⟩) (n + 1) cap') (l ++ [x]) → w.grownBy w' (some g) → (∀ j, j < n → w'.cell? ⟨g, j, none⟩ = w.cell? ⟨g, j, none⟩) → K (a.put o.dst (.slice (some ⟨g', 0, none⟩) (n + 1) cap')) w') :
    if Region.wanted o (yielded ops a.tmps) = true then Oper.wp Tryd.prog o a w K Q else E := by
  subst hn
  have hw : Region.wanted o (yielded ops a.tmps) = true := by simp [Region.wanted, hgd]
  rw [if_pos hw]
  obtain ⟨g', cap', w', hr, h2, h3, h4⟩ := run_append_W w o.type i hi hz0 hz1 hz2 B g cap l x hown ad c hnews h63 hbase
  unfold Oper.wp
  simp only [execOp, ho, resolve, invoke, builtin, Sem.run_bind, Sem.run_pure, Result.andThen_ok, List.map_toArray, List.map_cons, List.map_nil, hs, hx, hr]
  exact h g' cap' w' h2 h3 h4

/-- The row of eighty words, by the document's loop. -/
theorem keepW4 {w1 w2 : World} {g n a0 a1 a2 a3 : Nat} {v0 v1 v2 v3 : Value} (hk : ∀ j, j < n → w2.cell? ⟨g, j, none⟩ = w1.cell? ⟨g, j, none⟩) (l0 : a0 < n) (l1 : a1 < n) (l2 : a2 < n) (l3 : a3 < n)
    (h : w1.cell? ⟨g, a0, none⟩ = some v0 ∧ w1.cell? ⟨g, a1, none⟩ = some v1 ∧ w1.cell? ⟨g, a2, none⟩ = some v2 ∧ w1.cell? ⟨g, a3, none⟩ = some v3) :
    w2.cell? ⟨g, a0, none⟩ = some v0 ∧ w2.cell? ⟨g, a1, none⟩ = some v1 ∧ w2.cell? ⟨g, a2, none⟩ = some v2 ∧ w2.cell? ⟨g, a3, none⟩ = some v3 :=
  ⟨(hk a0 l0).trans h.1, (hk a1 l1).trans h.2.1, (hk a2 l2).trans h.2.2.1, (hk a3 l3).trans h.2.2.2⟩
end Go.Proofs.YtbodjopdhciaeabDoor
