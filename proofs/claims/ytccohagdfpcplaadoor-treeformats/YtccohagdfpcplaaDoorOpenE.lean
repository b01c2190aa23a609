/-
  A slice of entries that was handed in, opened.
-/
import Derived.Test.YtccohagdfpcplaaDoorTreK
import Derived.Deep.SlicePairs
import Derived.Deep.Strs
import Derived.SizedLaws
import Derived.ShutString
namespace Go.Proofs.YtccohagdfpcplaaDoor
open Go.ChangeShapes Go.WideShapes Go.RowKit

theorem cells29 : Tryd.prog.cellsOf 29 = 3 := by kernel_rfl
theorem cells9' : Tryd.prog.cellsOf 9 = 1 := by kernel_rfl
theorem cells3' : Tryd.prog.cellsOf 3 = 1 := by kernel_rfl
theorem weightsAll_mem {H : Type} {P : Program} {e : TypeId} {l : List (DataW H)} {d : DataW H} (h : d ∈ l) {n : Nat} (hn : n ∈ d.weights P e) : n ∈ DataW.weightsAll P e l := by
  induction l with
  | nil => cases h
  | cons x l ih =>
    rw [DataW.weightsAll, List.mem_append]
    rcases List.mem_cons.1 h with rfl | h
    · exact .inl hn
    · exact .inr (ih h)
theorem three_of {cs : List Value} (h : cs.length = 3) : ∃ a b c, cs = [a, b, c] := by
  match cs, h with
  | [a, b, c], _ => exact ⟨a, b, c, rfl⟩
theorem open_ent {H : Type} {enc : TypeId × Value → H} {W : World} {n i : Nat} {a : Addr} {y : DataW H × List MemPlace}
    (h : (W.cells? 0 (a.add (i * Tryd.prog.cellsOf 29)) (Tryd.prog.cellsOf 29)).bind (DataW.trod enc Tryd.prog W 0 (fun _ => true) true n 29) = some y) :
    ∃ e : EntB, (-9223372036854775808 ≤ e.1 ∧ e.1 ≤ 9223372036854775807) ∧ (∃ D, y.1 = .agg [D, .lit (.string e.2.1.data.toList), .lit (.string e.2.2.data.toList)]) ∧ W.cell? ((a.add (i * 3)).add 0) = some (.int .i64 e.1) ∧ W.cell? ((a.add (i * 3)).add 1) = some (.string e.2.1) ∧ W.cell? ((a.add (i * 3)).add 2) = some (.string e.2.2) := by
  rw [cells29, Option.bind_eq_some_iff] at h
  obtain ⟨cs, hcs, hy⟩ := h
  obtain ⟨_, hlen, hcell⟩ := World.cells?_some hcs
  obtain ⟨a0, a1, a2, rfl⟩ := three_of hlen
  obtain ⟨y0, y1, y2, m, rfl, _, h0, h1, h2⟩ := Deep.trod_struct3 Tryd.underlying29 hy
  simp only [cells3', cells9', List.drop_zero, List.take_succ_cons, List.take_zero, List.drop_succ_cons] at h0 h1 h2
  obtain ⟨n0, e0, _, w0⟩ := DataW.trod_int Tryd.underlying3 h0
  obtain ⟨s1, e1, g1, _⟩ := DataW.trod_string Tryd.underlying9 h1
  obtain ⟨s2, e2, g2, _⟩ := DataW.trod_string Tryd.underlying9 h2
  simp only [List.cons.injEq, and_true] at e0 e1 e2
  subst e0 e1 e2
  have c0 := hcell 0 (by decide)
  have c1 := hcell 1 (by decide)
  have c2 := hcell 2 (by decide)
  have hb : -9223372036854775808 ≤ n0 ∧ n0 ≤ 9223372036854775807 := bounds_i64 w0
  refine ⟨(n0, s1, s2), hb, ⟨y0.1, ?_⟩, c0, c1, c2⟩
  rw [g1, g2]
theorem cell_lt {W : World} {b o : Nat} {v : Value} (h : W.cell? ⟨b, o, none⟩ = some v) : b < W.heap.size := by
  rcases Nat.lt_or_ge b W.heap.size with hl | hl
  · exact hl
  · have hn : W.heap[b]? = none := Array.getElem?_eq_none hl
    simp [World.cell?, hn] at h
set_option maxRecDepth 100000 in
theorem open_ents {H : Type} {enc : TypeId × Value → H} {W : World} {v : Value} {d : DataW H} {p : List MemPlace} {ts : List TypeId} {ds : List (DataW H)} {j : Nat} (hv1 : v.cells.toList = [v])
    (hw : (DataW.weightsEach Tryd.prog ts ds).all (· ≤ reachBytes) = true) (htj : ts[j]? = some 22) (hdj : ds[j]? = some d)
    (h : DataW.Trod enc Tryd.prog W 0 (fun _ => true) true 22 v d p) :
    ∃ es, EntsV W v es ∧ ∀ e ∈ es, OkE e := by
  obtain ⟨fuel, hf⟩ := h
  rcases DataW.trod_slice Tryd.underlying22 hf with ⟨h0, _⟩ | ⟨a, len, cap, elems, rest, n, _, h0, hx, _, hlc, hm, hlen, hel, _, _⟩
  · rw [hv1] at h0
    exact ⟨[], .inl ⟨by simpa using h0, rfl⟩, fun e he => by cases he⟩
  · rw [hv1] at h0
    have hv : v = .slice (some a) len cap := by simpa using h0
    by_cases hl : len = 0
    · subst hl
      exact ⟨[], .inr (.inl ⟨a, cap, hv, rfl⟩), fun e he => by cases he⟩
    · have each : ∀ i, i < len → ∃ e : EntB, OkE e ∧ W.cell? ((a.add (i * 3)).add 0) = some (.int .i64 e.1) ∧ W.cell? ((a.add (i * 3)).add 1) = some (.string e.2.1) ∧ W.cell? ((a.add (i * 3)).add 2) = some (.string e.2.2) := by
        intro i hi
        have hi2 : i < elems.length := by omega
        have h1 := hel i hi
        rw [List.getElem?_eq_getElem hi2] at h1
        obtain ⟨e, hb, ⟨D, hD⟩, c0, c1, c2⟩ := open_ent h1
        have hmem : ∀ k, k ∈ (elems[i].1).weights Tryd.prog 29 → k ≤ reachBytes := fun k hk => by
          have h1 : k ∈ d.weights Tryd.prog 22 := by
            rw [show d = _ from congrArg Prod.fst hx]
            simp only [DataW.weights, Tryd.underlying22]
            refine List.mem_cons_of_mem _ (List.mem_append.2 (.inl (weightsAll_mem (d := elems[i].1) (List.mem_map.2 ⟨elems[i], List.getElem_mem hi2, rfl⟩) hk)))
          simpa using List.all_eq_true.1 hw _ (DataW.weights_mem_each htj hdj k h1)
        rw [hD] at hmem
        have s1 := hmem e.2.1.size (by rw [Lib.size_eq]; simp [DataW.weights, DataW.weightsEach, Tryd.underlying29])
        have s2 := hmem e.2.2.size (by rw [Lib.size_eq]; simp [DataW.weights, DataW.weightsEach, Tryd.underlying29])
        unfold reachBytes at s1 s2
        exact ⟨e, ⟨hb.1, hb.2, by omega, by omega⟩, c0, c1, c2⟩
      obtain ⟨F, hF⟩ := Deep.choose_lt each
      obtain ⟨b, off, spot⟩ := a
      have hspot : spot = none := by
        obtain ⟨_, c0, _⟩ := hF 0 (by omega)
        simpa [Addr.add] using World.cell?_spot c0
      subst hspot
      have hln : ((List.range len).map F).length = len := by simp
      have hg : ∀ i, i < len → ((List.range len).map F).getD i noE = F i := fun i hi => by
        rw [List.getD_eq_getElem?_getD, List.getElem?_eq_getElem (by simpa using hi)]
        simp
      refine ⟨(List.range len).map F, .inr (.inr ⟨b, off, cap, by rw [hln]; exact hv, ?_, ?_, by rw [hln]; exact hlc⟩), ?_⟩
      · obtain ⟨_, c0, _⟩ := hF 0 (by omega)
        rw [Addr.add_lit, Addr.add_lit] at c0
        exact cell_lt c0
      · intro i hi
        rw [hln] at hi
        obtain ⟨_, c0, c1, c2⟩ := hF i hi
        rw [hg i hi]
        rw [Addr.add_lit, Addr.add_lit] at c0 c1 c2
        exact ⟨c0, c1, c2⟩
      · intro e he
        obtain ⟨i, hi, rfl⟩ := List.mem_map.1 he
        exact (hF i (List.mem_range.1 hi)).1
end Go.Proofs.YtccohagdfpcplaaDoor
