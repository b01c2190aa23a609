/-
  An object that was handed in, opened.
-/
import Derived.Test.YtolohndbbnbfbaaDoorLaid
import Derived.Lib.SmallJoins
namespace Go.Proofs.YtolohndbbnbfbaaDoor
open Go.ChangeShapes Go.WideShapes Go.ChangeAt Go.WideMaps Go.WideElems Go.RowKit

theorem cells52 : Tryd.prog.cellsOf 52 = 2 := by kernel_rfl
set_option maxRecDepth 100000 in
theorem open_obj {H : Type} {enc : TypeId × Value → H} {W : World} {b0 : Nat} {v : Value} {d : DataW H} {p : List MemPlace}
    (hv : Value.okWide Tryd.prog W .any b0 52 v) (h : DataW.Trod enc Tryd.prog W 0 (fun _ => true) true 52 v d p) :
    ∃ (k : Int) (b : ByteArray), v = .agg #[.int .i64 k, .string b] ∧ b.size ≤ maxLen ∧ (Lit.int .i64 k).wf = true := by
  obtain ⟨v0, v1, y0, y1, n, rfl, _, _, h0, h1⟩ := Go.Joins.open_agg2 Tryd.underlying52 (by kernel_rfl) cells52 hv h
  obtain ⟨k, hk, _, wk⟩ := DataW.trod_int Tryd.underlying3 h0
  obtain ⟨b, hb, _, wb⟩ := DataW.trod_string Tryd.underlying9 h1
  simp only [List.cons.injEq, and_true] at hk hb
  exact ⟨k, b, by rw [hk, hb], wb, wk⟩
end Go.Proofs.YtolohndbbnbfbaaDoor
