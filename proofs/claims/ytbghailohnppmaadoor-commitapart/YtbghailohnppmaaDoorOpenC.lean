/-
  A commit that was handed in, opened.
-/
import Derived.Test.YtbghailohnppmaaDoorLaid
import Derived.Test.YtbghailohnppmaaDoorJComL
import Derived.Deep.Strs
import Derived.SizedLaws
namespace Go.Proofs.YtbghailohnppmaaDoor
open Go.ChangeShapes Go.WideShapes Go.ChangeAt Go.WideMaps Go.WideElems Go.RowKit

theorem cells26 : Tryd.prog.cellsOf 26 = 9 := by kernel_rfl
theorem cells22 : Tryd.prog.cellsOf 22 = 1 := by kernel_rfl
theorem cells3l : Tryd.prog.cellsOf 3 = 1 := by kernel_rfl
theorem array9 {α : Type} {cs : Array α} (h : cs.size = 9) : ∃ a b c d e f g i j, cs = #[a, b, c, d, e, f, g, i, j] := by
  obtain ⟨l⟩ := cs
  match l, h with
  | [a, b, c, d, e, f, g, i, j], _ => exact ⟨a, b, c, d, e, f, g, i, j, rfl⟩
theorem trod_struct5 {H : Type} {enc : TypeId × Value → H} {P : Program} {w : World} {base : Nat} {spare : Nat → Bool} {held : Bool} {t : TypeId} {f0 f1 f2 f3 f4 : Field} {fuel : Nat} {cs : List Value} {x : DataW H × List MemPlace} (ht : P.underlying t = some (.struct #[f0, f1, f2, f3, f4])) (h : DataW.trod enc P w base spare held fuel t cs = some x) :
    ∃ y0 y1 y2 y3 y4 n, x.1 = .agg [y0.1, y1.1, y2.1, y3.1, y4.1] ∧ DataW.trod enc P w base spare held n f0.type ((cs.drop f0.offset).take (P.cellsOf f0.type)) = some y0 ∧
      DataW.trod enc P w base spare held n f1.type ((cs.drop f1.offset).take (P.cellsOf f1.type)) = some y1 ∧ DataW.trod enc P w base spare held n f2.type ((cs.drop f2.offset).take (P.cellsOf f2.type)) = some y2 ∧
      DataW.trod enc P w base spare held n f3.type ((cs.drop f3.offset).take (P.cellsOf f3.type)) = some y3 ∧ DataW.trod enc P w base spare held n f4.type ((cs.drop f4.offset).take (P.cellsOf f4.type)) = some y4 := by
  obtain ⟨xs, n, _, rfl, hl, hlen, hf⟩ := DataW.trod_struct ht h
  match xs, hlen with
  | [y0, y1, y2, y3, y4], _ => exact ⟨y0, y1, y2, y3, y4, n, by simp, by simpa using hf 0 f0 rfl, by simpa using hf 1 f1 rfl, by simpa using hf 2 f2 rfl, by simpa using hf 3 f3 rfl, by simpa using hf 4 f4 rfl⟩
theorem sign_cells {H : Type} {enc : TypeId × Value → H} {W : World} {n : Nat} {v0 v1 v2 : Value} {y : DataW H × List MemPlace} (h : DataW.trod enc Tryd.prog W 0 (fun _ => true) true n 24 [v0, v1, v2] = some y) :
    ∃ s : Sb, v0 = .string s.who ∧ v1 = .int .i64 s.time ∧ v2 = .int .i64 s.zone ∧ s.who.size ≤ maxLen ∧ (-9223372036854775808 ≤ s.time ∧ s.time ≤ 9223372036854775807) ∧ (-9223372036854775808 ≤ s.zone ∧ s.zone ≤ 9223372036854775807) := by
  obtain ⟨y0, y1, y2, m, _,_, h0, h1, h2⟩ := Deep.trod_struct3 Tryd.underlying24 h
  simp only [cells3l, cells9l, List.drop_zero, List.take_succ_cons, List.take_zero, List.drop_succ_cons] at h0 h1 h2
  obtain ⟨b, hb, _, wb⟩ := DataW.trod_string Tryd.underlying9 h0
  obtain ⟨k, hk, _, wk⟩ := DataW.trod_int Tryd.underlying3 h1
  obtain ⟨z, hz, _, wz⟩ := DataW.trod_int Tryd.underlying3 h2
  simp only [List.cons.injEq, and_true] at hk hb hz
  exact ⟨⟨b, k, z⟩, hb, hk, hz, wb, i64_range wk, i64_range wz⟩
theorem strs_cells {H : Type} {enc : TypeId × Value → H} {W : World} {n : Nat} {v : Value} {y : DataW H × List MemPlace} (h : DataW.trod enc Tryd.prog W 0 (fun _ => true) true n 22 [v] = some y) :
    ∃ l, StrsO W v l ∧ ∀ p ∈ l, p.size ≤ maxLen := by
  rcases Go.Deep.open_strs Tryd.underlying22 Tryd.underlying9 cells9l h with ⟨h0, _⟩ | ⟨a, len, cap, m, S, h0, _, hl, _, hm, _, hc⟩
  · exact ⟨[], .inl ⟨by simpa using h0, rfl⟩, fun _ h => by cases h⟩
  · have hv : v = .slice (some a) len cap := by simpa using h0
    by_cases h00 : len = 0
    · subst h00
      exact ⟨[], .inr (.inl ⟨a, cap, hv, rfl⟩), fun _ h => by cases h⟩
    · have hlm : len ≤ m := by rw [hm]; split <;> omega
      obtain ⟨b, off, spot⟩ := a
      have c0 := (hc 0 (by omega)).1
      have hspot : spot = none := by simpa [Addr.add] using World.cell?_spot c0
      subst hspot
      have hlt : b < W.heap.size := World.block_lt_of_cell? W _ c0
      refine ⟨(List.range len).map S, .inr (.inr ⟨b, off, cap, by simpa using hv, hlt, by simpa using hl, fun j hj => ?_⟩), fun p hp => ?_⟩
      · have hj' : j < len := by simpa using hj
        have := (hc j (by omega)).1
        rw [Addr.add_lit] at this
        simpa using this
      · obtain ⟨i, hi, rfl⟩ := List.mem_map.1 hp
        have := List.mem_range.1 hi
        exact (hc i (by omega)).2
set_option maxRecDepth 100000 in
theorem open_change {H : Type} {enc : TypeId × Value → H} {W : World} {b0 : Nat} {v : Value} {d : DataW H} {p : List MemPlace}
    (hv : Value.okWide Tryd.prog W .any b0 26 v) (h : DataW.Trod enc Tryd.prog W 0 (fun _ => true) true 26 v d p) :
    ∃ (t : ByteArray) (pv : Value) (l : List ByteArray) (a c : Sb) (m : ByteArray), v = .agg (c26 t pv a c m) ∧ StrsO W pv l ∧ t.size ≤ maxLen ∧ (∀ p ∈ l, p.size ≤ maxLen) ∧ a.who.size ≤ maxLen ∧ c.who.size ≤ maxLen ∧
      (-9223372036854775808 ≤ a.time ∧ a.time ≤ 9223372036854775807) ∧ (-9223372036854775808 ≤ c.time ∧ c.time ≤ 9223372036854775807) ∧ ∃ d0 d1 d2 d3, d = .agg [d0, d1, d2, d3, .lit (.string m.data.toList)] := by
  obtain ⟨cs, rfl, hsz⟩ := okWide_struct Tryd.underlying26 hv
  obtain ⟨v0, v1, v2, v3, v4, v5, v6, v7, v8, rfl⟩ := array9 (hsz.trans cells26)
  obtain ⟨fuel, hf⟩ := h
  obtain ⟨y0, y1, y2, y3, y4, n, hx, h0, h1, h2, h3, h4⟩ := trod_struct5 Tryd.underlying26 hf
  simp only [Value.cells, cells9l, cells22, cells24, List.drop_zero, List.take_succ_cons, List.take_zero, List.drop_succ_cons] at h0 h1 h2 h3 h4
  obtain ⟨t, ht, _, wt⟩ := DataW.trod_string Tryd.underlying9 h0
  obtain ⟨l, hl, wl⟩ := strs_cells h1
  obtain ⟨a, rfl, rfl, rfl, a1, a2, _⟩ := sign_cells h2
  obtain ⟨c, rfl, rfl, rfl, c1, c2, _⟩ := sign_cells h3
  obtain ⟨m, hm, gm, _⟩ := DataW.trod_string Tryd.underlying9 h4
  simp only [List.cons.injEq, and_true] at ht hm
  subst ht hm
  refine ⟨t, v1, l, a, c, m, rfl, hl, wt, wl, a1, c1, a2, c2, y0.1, y1.1, y2.1, y3.1, ?_⟩
  rw [show d = _ from hx, gm]
end Go.Proofs.YtbghailohnppmaaDoor
