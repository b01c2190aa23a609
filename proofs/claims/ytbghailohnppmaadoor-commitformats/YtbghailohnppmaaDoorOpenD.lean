/-
  A commit that was handed in: its message is within reach.
-/
import Derived.Test.YtbghailohnppmaaDoorJOpenC
namespace Go.Proofs.YtbghailohnppmaaDoor
open Go.ChangeShapes Go.WideShapes Go.ChangeAt Go.WideMaps Go.WideElems Go.RowKit

theorem change_reach {H : Type} {ts : List TypeId} {ds : List (DataW H)} {j : Nat} {d d0 d1 d2 d3 : DataW H} {m : ByteArray}
    (hw : (DataW.weightsEach Tryd.prog ts ds).all (· ≤ reachBytes) = true) (htj : ts[j]? = some 26) (hdj : ds[j]? = some d) (hd : d = .agg [d0, d1, d2, d3, .lit (.string m.data.toList)]) : m.size ≤ 140737488351232 := by
  have h1 : m.size ∈ d.weights Tryd.prog 26 := by
    rw [hd, Lib.size_eq]
    simp only [DataW.weights, Tryd.underlying26, DataW.weightsEach, List.map_cons, List.map_nil]
    simp
  have := List.all_eq_true.1 hw _ (DataW.weights_mem_each htj hdj _ h1)
  unfold reachBytes at this
  have := of_decide_eq_true this
  omega
end Go.Proofs.YtbghailohnppmaaDoor
