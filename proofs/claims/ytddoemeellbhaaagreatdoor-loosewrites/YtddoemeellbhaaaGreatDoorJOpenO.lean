/-
  The law LooseWrites, walked: an object that is written is read back, whatever files stand beside it.
  An object that was handed in, opened.
-/
import Derived.Test.YtddoemeellbhaaaGreatDoorLwE
import Derived.Test.YtddoemeellbhaaaGreatDoorJZrdA
import Derived.Test.YtddoemeellbhaaaGreatDoorLoL
import Derived.Lib.SmallJoins
namespace Go.Proofs.YtddoemeellbhaaaGreatDoor
open Go.RowKit
theorem lwrites_walk (v : Value) (fs : List FileB) (k : Int) (d : ByteArray) (w : World) (hG : LG w) (hV : FilesV w v fs) :
    Calls Tryz.prog 4 #[.agg #[.int .i64 k, .string d], v] w fun e w' => e = .returned (.bool true) ∧ Below w.heap.size w w' := by
  by_cases hc : checkE k (fewBI d 1000).size = 0
  · exact lwrites_yes v fs k d w hG hV hc (fun s V hs => rzread_any s 0 65536 V hs)
  · exact lwrites_no v k d w hG hc
end Go.Proofs.YtddoemeellbhaaaGreatDoor
namespace Go.Proofs.YtddoemeellbhaaaGreatDoor
open Go.ChangeShapes Go.WideShapes Go.ChangeAt Go.WideMaps Go.WideElems Go.RowKit

theorem cellsOb : Tryz.prog.cellsOf 32 = 2 := by kernel_rfl
set_option maxRecDepth 100000 in
theorem open_obj {H : Type} {enc : TypeId × Value → H} {W : World} {b0 : Nat} {v : Value} {d : DataW H} {p : List MemPlace}
    (hv : Value.okWide Tryz.prog W .any b0 32 v) (h : DataW.Trod enc Tryz.prog W 0 (fun _ => true) true 32 v d p) :
    ∃ (k : Int) (b : ByteArray), v = .agg #[.int .i64 k, .string b] ∧ b.size ≤ maxLen ∧ (Lit.int .i64 k).wf = true := by
  obtain ⟨v0, v1, y0, y1, n, rfl, _,_, h0, h1⟩ := Go.Joins.open_agg2 Tryz.underlying32 (by kernel_rfl) cellsOb hv h
  obtain ⟨k, hk, _, wk⟩ := DataW.trod_int Tryz.underlying3 h0
  obtain ⟨b, hb, _, wb⟩ := DataW.trod_string Tryz.underlying9 h1
  simp only [List.cons.injEq, and_true] at hk hb
  exact ⟨k, b, by rw [hk, hb], wb, wk⟩
end Go.Proofs.YtddoemeellbhaaaGreatDoor
