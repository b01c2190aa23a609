/-
  What the rows' reading of a row of calls gives the walks.
-/
import Derived.Test.YtklocjmhembbfaaOpsDef
import Derived.Test.YtklocjmhembbfaaOpen
import Derived.Lib.SmallJoins
namespace Go.Proofs.Ytklocjmhembbfaa
open Go.ChangeShapes Go.WideShapes Go.ChangeAt Go.WideMaps Go.WideElems Go.RowKit

theorem cells30 : Try.prog.cellsOf 30 = 4 := by kernel_rfl
theorem cells9 : Try.prog.cellsOf 9 = 1 := by kernel_rfl
theorem four_of {cs : List Value} (h : cs.length = 4) : ∃ a b c d, cs = [a, b, c, d] := by
  match cs, h with
  | [a, b, c, d], _ => exact ⟨a, b, c, d, rfl⟩
theorem addr_four (b off i : Nat) (j : Nat) : ((⟨b, off, none⟩ : Addr).add (i * 4)).add j = ⟨b, off + i * 4 + j, none⟩ := by
  rw [Addr.add_lit, Addr.add_lit]
theorem open_op {H : Type} {enc : TypeId × Value → H} {W : World} {base n b off i : Nat} {y : DataW H × List MemPlace}
    (h : (W.cells? base ((⟨b, off, none⟩ : Addr).add (i * Try.prog.cellsOf 30)) (Try.prog.cellsOf 30)).bind (DataW.trod enc Try.prog W base (fun _ => true) true n 30) = some y) :
    ∃ o : OpV, ((Lit.int .i64 o.kind).wf = true ∧ (Lit.int .i64 o.n).wf = true ∧ o.x < 4294967296 ∧ o.text.size ≤ maxLen) ∧ W.cell? ⟨b, off + i * 4, none⟩ = some (.int .i64 o.kind) ∧ W.cell? ⟨b, off + i * 4 + 1, none⟩ = some (.int .i64 o.n) ∧
    W.cell? ⟨b, off + i * 4 + 2, none⟩ = some (.int .u32 (o.x : Int)) ∧ W.cell? ⟨b, off + i * 4 + 3, none⟩ = some (.string o.text) := by
  rw [cells30, Option.bind_eq_some_iff] at h
  obtain ⟨cs, hcs, hy⟩ := h
  obtain ⟨_, hlen, hcell⟩ := World.cells?_some hcs
  obtain ⟨a0, a1, a2, a3, rfl⟩ := four_of hlen
  obtain ⟨y0, y1, y2, y3, m, _, _, h0, h1, h2, h3⟩ := Go.Joins.trod_struct4 Try.underlying30 hy
  simp only [cells3, cells28, cells9, List.drop_zero, List.take_succ_cons, List.take_zero, List.drop_succ_cons] at h0 h1 h2 h3
  obtain ⟨n0, e0, _, w0⟩ := DataW.trod_int Try.underlying3 h0
  obtain ⟨n1, e1, _, w1⟩ := DataW.trod_int Try.underlying3 h1
  obtain ⟨n2, e2, _, w2⟩ := DataW.trod_int Try.underlying28 h2
  obtain ⟨s3, e3, _, w3⟩ := DataW.trod_string Try.underlying9 h3
  simp only [List.cons.injEq, and_true] at e0 e1 e2 e3
  subst e0 e1 e2 e3
  have hb := bounds_u32 w2
  have c0 := hcell 0 (by decide)
  have c1 := hcell 1 (by decide)
  have c2 := hcell 2 (by decide)
  have c3 := hcell 3 (by decide)
  rw [addr_four] at c0 c1 c2 c3
  refine ⟨⟨n0, n1, n2.toNat, s3⟩, ⟨w0, w1, by show n2.toNat < _; omega, w3⟩, c0, c1, ?_, c3⟩
  rw [c2]
  show some (Value.int .u32 n2) = some (.int .u32 ((n2.toNat : Nat) : Int))
  rw [show ((n2.toNat : Nat) : Int) = n2 by omega]
theorem open_ops {H : Type} {enc : TypeId × Value → H} {W : World} {fuel base : Nat} {x : DataW H × List MemPlace} {a : Option Addr} {len cap : Nat}
    (h : DataW.trod enc Try.prog W base (fun _ => true) true fuel 22 [.slice a len cap] = some x) : ∃ f, OpsAt W a len f := by
  have hz : ∀ i : Nat, (Lit.int .i64 (0 : Int)).wf = true ∧ (Lit.int .i64 (0 : Int)).wf = true ∧ (0 : Nat) < 4294967296 ∧ (ByteArray.empty).size ≤ maxLen := fun _ => ⟨by decide, by decide, by decide, Nat.zero_le _⟩
  rcases DataW.trod_slice Try.underlying22 h with ⟨hcs, _⟩ | ⟨ad, l, c, elems, rest, n, _, hcs, _, _, hl, hm, hlen, hel, _, _⟩
  · simp only [List.cons.injEq, Value.slice.injEq, and_true] at hcs
    obtain ⟨rfl, rfl, rfl⟩ := hcs
    exact ⟨fun _ => ⟨0, 0, 0, ByteArray.empty⟩, Nat.zero_le _, hz, .inl rfl⟩
  · simp only [List.cons.injEq, Value.slice.injEq, and_true] at hcs
    obtain ⟨rfl, rfl, rfl⟩ := hcs
    by_cases hl0 : len = 0
    · exact ⟨fun _ => ⟨0, 0, 0, ByteArray.empty⟩, by omega, hz, .inl hl0⟩
    · obtain ⟨b, off, spot⟩ := ad
      have hspot : spot = none := by
        have h0 := hel 0 (by omega)
        rw [List.getElem?_eq_getElem (by omega), Option.bind_eq_some_iff] at h0
        obtain ⟨cs, hcs, _⟩ := h0
        have hc := (World.cells?_some hcs).2.2 0 (by rw [cells30]; decide)
        have hlen2 := (World.cells?_some hcs).2.1
        rw [cells30] at hlen2
        rw [List.getElem?_eq_getElem (by omega)] at hc
        simpa [Addr.add] using World.cell?_spot hc
      subst hspot
      have each : ∀ i, i < len → ∃ o : OpV, ((Lit.int .i64 o.kind).wf = true ∧ (Lit.int .i64 o.n).wf = true ∧ o.x < 4294967296 ∧ o.text.size ≤ maxLen) ∧ W.cell? ⟨b, off + i * 4, none⟩ = some (.int .i64 o.kind) ∧ W.cell? ⟨b, off + i * 4 + 1, none⟩ = some (.int .i64 o.n) ∧
          W.cell? ⟨b, off + i * 4 + 2, none⟩ = some (.int .u32 (o.x : Int)) ∧ W.cell? ⟨b, off + i * 4 + 3, none⟩ = some (.string o.text) := by
        intro i hi
        have h0 := hel i hi
        rw [List.getElem?_eq_getElem (by omega)] at h0
        exact open_op h0
      refine ⟨fun i => if hi : i < len then (each i hi).choose else ⟨0, 0, 0, ByteArray.empty⟩, by omega, ?_, .inr ⟨b, off, rfl, ?_⟩⟩
      · intro i
        by_cases hi : i < len
        · simp only [hi, dif_pos]
          exact (each i hi).choose_spec.1
        · simp only [hi, dif_neg, not_false_iff]
          exact hz i
      · intro i hi
        simp only [hi, dif_pos]
        exact (each i hi).choose_spec.2
end Go.Proofs.Ytklocjmhembbfaa
