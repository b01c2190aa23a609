/-
  A slice of objects that was handed in, opened; the listed variables of CartularyNames.
-/
import Derived.Test.YtolohndbbnbfbaaDoorNamW
import Derived.Test.YtolohndbbnbfbaaDoorLaid
import Derived.Lay
import Derived.Deep.SlicePairs
import Derived.SizedLaws
import Derived.ShutString
namespace Go.Proofs.YtolohndbbnbfbaaDoor
open Go.ChangeShapes Go.WideShapes Go.ChangeAt Go.WideMaps Go.WideElems Go.RowKit

theorem cells52n : Tryd.prog.cellsOf 52 = 2 := by kernel_rfl
theorem cells3n : Tryd.prog.cellsOf 3 = 1 := by kernel_rfl
theorem cells9n : Tryd.prog.cellsOf 9 = 1 := by kernel_rfl
set_option maxRecDepth 100000 in
theorem open_objs {H : Type} {enc : TypeId × Value → H} {W : World} {v : Value} {d : DataW H} {p : List MemPlace} {ts : List TypeId} {ds : List (DataW H)} {j : Nat} (hv1 : v.cells.toList = [v])
    (_hw : (DataW.weightsEach Tryd.prog ts ds).all (· ≤ reachBytes) = true) (_htj : ts[j]? = some 69) (_hdj : ds[j]? = some d)
    (h : DataW.Trod enc Tryd.prog W 0 (fun _ => true) true 69 v d p) :
    ∃ x : Option Addr × Nat × Nat × (Nat → Int × ByteArray), v = .slice x.1 x.2.1 x.2.2.1 ∧ ObjsAt W x.1 x.2.1 x.2.2.2 := by
  obtain ⟨fuel, hf⟩ := h
  rcases Deep.open_slice_pairs Tryd.underlying69 Tryd.underlying52 cells52n rfl rfl cells3n cells9n hf with ⟨h0, _⟩ | ⟨a, len, cap, m, n, V0, V1, D0, D1, P0, P1, h0, _, hlc, _, hm, hx, hall⟩
  · rw [hv1] at h0
    exact ⟨(none, 0, 0, fun _ => (0, .empty)), by simpa using h0, fun i hi => absurd hi (Nat.not_lt_zero _)⟩
  · rw [hv1] at h0
    have hv : v = .slice (some a) len cap := by simpa using h0
    have hlm : len ≤ m := by rw [hm]; split <;> omega
    have each : ∀ i, i < len → ∃ f : Int × ByteArray, W.cell? (a.add (i * 2)) = some (.int .i64 f.1) ∧ W.cell? (a.add (i * 2 + 1)) = some (.string f.2) := by
      intro i hi
      obtain ⟨c0, c1, t0, t1⟩ := hall i (by omega)
      obtain ⟨b0, e0, _⟩ := DataW.trod_int Tryd.underlying3 t0
      obtain ⟨b1, e1, _⟩ := DataW.trod_string Tryd.underlying9 t1
      simp only [List.cons.injEq, and_true] at e0 e1
      rw [e0] at c0
      rw [e1] at c1
      exact ⟨(b0, b1), c0, c1⟩
    obtain ⟨F, hF⟩ := Deep.choose_lt each
    refine ⟨(some a, len, cap, F), hv, fun i hi => ?_⟩
    have ha : ∃ b off, a = ⟨b, off, none⟩ := by
      obtain ⟨c0, _⟩ := hF 0 (by show 0 < len; have : i < len := hi; omega)
      rcases a with ⟨b, off, x⟩
      cases x with
      | none => exact ⟨b, off, rfl⟩
      | some y =>
        simp [World.cell?, Addr.add] at c0
        split at c0 <;> cases c0
    obtain ⟨b, off, rfl⟩ := ha
    obtain ⟨c0, c1⟩ := hF i hi
    rw [Addr.add_lit] at c0 c1
    exact ⟨b, off, rfl, World.block_lt_of_cell? W _ c0, c0, by rw [← Nat.add_assoc] at c1; exact c1⟩

def laidN : List (String × DataW Unit) := [("math/bits.deBruijn32tab", Rows.laid_math_bits_deBruijn32tab), ("math/bits.deBruijn64tab", Rows.laid_math_bits_deBruijn64tab), ("internal/strconv.uint64pow10", Rows.laid_internal_strconv_uint64pow10), ("unicode/utf8.acceptRanges", Rows.laid_unicode_utf8_acceptRanges), ("cartulary/object.names", Rows.laid_cartulary_object_names), ("unicode/utf8.first", Rows.laid_unicode_utf8_first)]
theorem laidN_met (os : Os) (args : Array Value) : laidMetH Tryd.prog laidN ((World.laidAll Tryd.prog os laidN).forCall (fun _ _ => 0) ⟨#[], args, []⟩).memory := by
  rw [MakeChecks.laidMetH_plain _ _ _ (by kernel_rfl)]; exact laidMet_laidAll _ (by kernel_rfl) (by kernel_rfl)
theorem of_laidN {W : World} (h : laidMetH Tryd.prog laidN W) : LaidAt W := by
  rw [MakeChecks.laidMetH_plain _ _ _ (by kernel_rfl)] at h
  have h2 := laidMet.tail (laidMet.tail h)
  have h3 := laidMet.tail (laidMet.tail h2)
  rw [names_data] at h3
  rw [pow_data] at h2
  have hT := Lib.tabIs_of_head gPow tPow Tryd.underlying146 Tryd.underlying95 cells95 cells146 h2
  exact ⟨names_of h3, World.block_lt_of_cell? W _ (hT.cell gPow 0 (by decide)), hT⟩
end Go.Proofs.YtolohndbbnbfbaaDoor
