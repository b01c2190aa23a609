/-
  A date that was handed in, opened.
-/
import Derived.Test.YtnibcnafbmcdbaaDoorLaid
import Derived.Lib.SmallJoins
namespace Go.Proofs.YtnibcnafbmcdbaaDoor
open Go.ChangeShapes Go.WideShapes Go.ChangeAt Go.WideMaps Go.WideElems Go.RowKit

theorem cells23 : Tryd.prog.cellsOf 23 = 7 := by kernel_rfl
theorem cells3 : Tryd.prog.cellsOf 3 = 1 := by kernel_rfl
theorem array7 {α : Type} {cs : Array α} (h : cs.size = 7) : ∃ c0 c1 c2 c3 c4 c5 c6, cs = #[c0, c1, c2, c3, c4, c5, c6] := by
  obtain ⟨l⟩ := cs
  match l, h with
  | [c0, c1, c2, c3, c4, c5, c6], _ => exact ⟨c0, c1, c2, c3, c4, c5, c6, rfl⟩
theorem int_cell {H : Type} {enc : TypeId × Value → H} {W : World} {n : Nat} {cs : List Value} {y : Option (DataW H × List MemPlace)} {i : Nat} {c : Value} (hc : (cs.drop i).take 1 = [c]) (hy : y.isSome = true)
    (h : DataW.trod enc Tryd.prog W 0 (fun _ => true) true n 3 ((cs.drop i).take (Tryd.prog.cellsOf 3)) = y) : ∃ a : Int, c = .int .i64 a := by
  rw [cells3, hc] at h
  obtain ⟨z, rfl⟩ := Option.isSome_iff_exists.1 hy
  obtain ⟨k, hk, _, _⟩ := DataW.trod_int Tryd.underlying3 h
  simp only [List.cons.injEq, and_true] at hk
  exact ⟨k, hk⟩
set_option maxRecDepth 100000 in
theorem open_date {H : Type} {enc : TypeId × Value → H} {W : World} {b0 : Nat} {v : Value} {d : DataW H} {p : List MemPlace}
    (hv : Value.okWide Tryd.prog W .any b0 23 v) (h : DataW.Trod enc Tryd.prog W 0 (fun _ => true) true 23 v d p) :
    ∃ a0 a1 a2 a3 a4 a5 a6 : Int, v = .agg #[.int .i64 a0, .int .i64 a1, .int .i64 a2, .int .i64 a3, .int .i64 a4, .int .i64 a5, .int .i64 a6] := by
  obtain ⟨cs, rfl, hsz⟩ := okWide_struct Tryd.underlying23 hv
  obtain ⟨c0, c1, c2, c3, c4, c5, c6, rfl⟩ := array7 (hsz.trans cells23)
  obtain ⟨fuel, hf⟩ := h
  obtain ⟨xs, n, _, _, hl, hlen, hfs⟩ := DataW.trod_struct Tryd.underlying23 hf
  have hl7 : xs.length = 7 := hlen
  obtain ⟨a0, rfl⟩ := int_cell (i := 0) (cs := [c0, c1, c2, c3, c4, c5, c6]) (c := c0) rfl (by rw [List.getElem?_eq_getElem (show 0 < xs.length by omega)]; rfl) (hfs 0 _ rfl)
  obtain ⟨a1, rfl⟩ := int_cell (i := 1) (cs := [.int .i64 a0, c1, c2, c3, c4, c5, c6]) (c := c1) rfl (by rw [List.getElem?_eq_getElem (show 1 < xs.length by omega)]; rfl) (hfs 1 _ rfl)
  obtain ⟨a2, rfl⟩ := int_cell (i := 2) (cs := [.int .i64 a0, .int .i64 a1, c2, c3, c4, c5, c6]) (c := c2) rfl (by rw [List.getElem?_eq_getElem (show 2 < xs.length by omega)]; rfl) (hfs 2 _ rfl)
  obtain ⟨a3, rfl⟩ := int_cell (i := 3) (cs := [.int .i64 a0, .int .i64 a1, .int .i64 a2, c3, c4, c5, c6]) (c := c3) rfl (by rw [List.getElem?_eq_getElem (show 3 < xs.length by omega)]; rfl) (hfs 3 _ rfl)
  obtain ⟨a4, rfl⟩ := int_cell (i := 4) (cs := [.int .i64 a0, .int .i64 a1, .int .i64 a2, .int .i64 a3, c4, c5, c6]) (c := c4) rfl (by rw [List.getElem?_eq_getElem (show 4 < xs.length by omega)]; rfl) (hfs 4 _ rfl)
  obtain ⟨a5, rfl⟩ := int_cell (i := 5) (cs := [.int .i64 a0, .int .i64 a1, .int .i64 a2, .int .i64 a3, .int .i64 a4, c5, c6]) (c := c5) rfl (by rw [List.getElem?_eq_getElem (show 5 < xs.length by omega)]; rfl) (hfs 5 _ rfl)
  obtain ⟨a6, rfl⟩ := int_cell (i := 6) (cs := [.int .i64 a0, .int .i64 a1, .int .i64 a2, .int .i64 a3, .int .i64 a4, .int .i64 a5, c6]) (c := c6) rfl (by rw [List.getElem?_eq_getElem (show 6 < xs.length by omega)]; rfl) (hfs 6 _ rfl)
  exact ⟨a0, a1, a2, a3, a4, a5, a6, rfl⟩
end Go.Proofs.YtnibcnafbmcdbaaDoor
