/-
  What the rows' condition on the listed variables gives the walks; the heap that the door's own run leaves meets it.
-/
import Derived.Test.YtddoemeellbhaaaGreatDoorLoA
import Derived.Test.YtddoemeellbhaaaGreatDoorRows
import Derived.ProofKit
import Derived.Lay
import Derived.LaidMore
import Derived.OpenShut
import Derived.Stop.Joined
import Derived.Stop.LaidErr
import Derived.Lib.LaidTab
import Derived.Deep.Grids
namespace Go.Proofs.YtddoemeellbhaaaGreatDoor
open Go.ChangeShapes Go.WideShapes Go.ChangeAt Go.WideMaps Go.WideElems Go.RowKit
def laidL : List (String × DataW Unit) := [("math/bits.deBruijn32tab", Rows.laid_math_bits_deBruijn32tab), ("math/bits.deBruijn64tab", Rows.laid_math_bits_deBruijn64tab), ("internal/strconv.uint64pow10", Rows.laid_internal_strconv_uint64pow10), ("unicode/utf8.acceptRanges", Rows.laid_unicode_utf8_acceptRanges), ("cartulary/inflate.firstOrder", Rows.laid_cartulary_inflate_firstOrder), ("cartulary/object.names", Rows.laid_cartulary_object_names), ("unicode/utf8.first", Rows.laid_unicode_utf8_first)]
theorem laidL_met (os : Os) (args : Array Value) : laidMetH Tryz.prog laidL ((World.laidAll Tryz.prog os laidL).forCall (fun _ _ => 0) ⟨#[], args, []⟩).memory := by
  rw [MakeChecks.laidMetH_plain _ _ _ (by kernel_rfl)]; exact laidMet_laidAll _ (by kernel_rfl) (by kernel_rfl)
theorem own : ownKnob Tryz.prog.godebug = none := by kernel_rfl
theorem tPow : (Tryz.prog.globals[5]?).map (·.type) = some 275 := by kernel_rfl
theorem cells95 : Tryz.prog.cellsOf 78 = 1 := by kernel_rfl
theorem cells146 : Tryz.prog.cellsOf 275 = 20 := by kernel_rfl
theorem gNames : Tryz.prog.globalNamed "cartulary/object.names" = some 1 := by kernel_rfl
theorem tNames : (Tryz.prog.globals[1]?).map (·.type) = some 163 := by kernel_rfl
theorem cells9 : Tryz.prog.cellsOf 9 = 1 := by kernel_rfl
theorem cells81 : Tryz.prog.cellsOf 163 = 5 := by kernel_rfl
def strData {H : Type} (ls : List (List UInt8)) : DataW H := .agg (ls.map fun b => .lit (.string b))
theorem cells_of_strs {H : Type} {enc : TypeId × Value → H} {P : Program} {w : World} {base : Nat} {sp : Nat → Bool} {held : Bool} {fuel : Nat} {t e : TypeId} {n : Nat} {cs : List Value} {ls : List (List UInt8)} {p : List MemPlace}
    (ht : P.underlying t = some (.array n e)) (he : P.underlying e = some .string) (hce : P.cellsOf e = 1) (hct : P.cellsOf t = n)
    (h : DataW.trod enc P w base sp held fuel t cs = some (strData ls, p)) : cs = ls.map fun b => Value.string ⟨b.toArray⟩ := by
  cases fuel with
  | zero => simp [DataW.trod] at h
  | succ fuel =>
    simp only [DataW.trod, ht, hce, hct, Nat.mul_one] at h
    split at h
    · rename_i hl
      obtain ⟨xs, hm, hx⟩ := Option.map_eq_some_iff.1 h
      have hxs : xs.map (·.1) = ls.map fun b => (DataW.lit (.string b) : DataW H) := by
        have := congrArg Prod.fst hx
        simpa [strData] using this
      have hxl : xs.length = n := by simpa using Lib.mapM_length hm
      have hzl : ls.length = n := by
        have := congrArg List.length hxs
        simp at this
        omega
      apply List.ext_getElem?
      intro i
      by_cases hi : i < n
      · obtain ⟨b, hb, hf⟩ := Lib.mapM_at hm i i (by simp [hi])
        obtain ⟨z, hc, rfl, _⟩ := DataW.trod_string he hf
        have h1 : cs[i]? = some (.string z) := by
          have := congrArg (·[0]?) hc
          simpa [List.getElem?_take, List.getElem?_drop] using this
        have h2 : (xs.map (·.1))[i]? = some (DataW.lit (.string z.data.toList) : DataW H) := by simp [hb]
        rw [hxs] at h2
        simp only [List.getElem?_map, Option.map_eq_some_iff, DataW.lit.injEq, Lit.string.injEq] at h2
        obtain ⟨z', hz', rfl⟩ := h2
        simp [h1, hz']
      · rw [List.getElem?_eq_none (by omega), List.getElem?_eq_none (by simp; omega)]
    · cases h
theorem pow_data : (Rows.laid_internal_strconv_uint64pow10 : DataW Unit) = Lib.tabData .u64 Lib.pow10Tab := rfl
theorem names_data : (Rows.laid_cartulary_object_names : DataW Unit) = strData ((List.range 5).map nm) := rfl
theorem names_of {W : World} {rest : List (String × DataW Unit)} (h : laidMet Tryz.prog (("cartulary/object.names", strData ((List.range 5).map nm)) :: rest) W) : NamesAt W := by
  obtain ⟨ps, ⟨g', t', cs, fuel, p, q, hg', ht', hvar, hd, _,_⟩, _⟩ := h
  obtain rfl := Option.some.inj (gNames.symm.trans hg')
  obtain rfl := Option.some.inj (tNames.symm.trans ht')
  have hcs := cells_of_strs Tryz.underlying163 Tryz.underlying9 cells9 cells81 hd
  have hc : ∀ i, i < 5 → W.cell? ⟨1, i, none⟩ = some (.string ⟨(nm i).toArray⟩) := by
    intro i hi
    have := World.var?_cell gNames hvar i
    rw [this, ← Array.getElem?_toList, hcs]
    simp [hi]
  exact ⟨World.block_lt_of_cell? W _ (hc 0 (by decide)), hc⟩
theorem gOrder : Tryz.prog.globalNamed "cartulary/inflate.firstOrder" = some 4 := by kernel_rfl
theorem tOrder : (Tryz.prog.globals[4]?).map (·.type) = some 271 := by kernel_rfl
theorem tab_data : (Rows.laid_cartulary_inflate_firstOrder : DataW Unit) = Lib.tabData .i64 (placeOf.map Int.ofNat) := rfl
theorem of_laid {W : World} (h : laidMetH Tryz.prog laidL W) : LG W := by
  rw [MakeChecks.laidMetH_plain _ _ _ (by kernel_rfl)] at h
  have h2 := laidMet.tail (laidMet.tail h)
  have h3 := laidMet.tail (laidMet.tail h2)
  have h4 := laidMet.tail h3
  rw [names_data] at h4
  rw [pow_data] at h2
  rw [tab_data] at h3
  have hT := Lib.tabIs_of_head gPow tPow Tryz.underlying275 Tryz.underlying78 cells95 cells146 h2
  have hO := Lib.tabIs_of_head gOrder tOrder Tryz.underlying271 Tryz.underlying3 (by kernel_rfl) (by kernel_rfl) h3
  have hc : ∀ i, i < 19 → W.cell? ⟨4, i, none⟩ = some (.int .i64 (plK i : Int)) := by
    intro i hi
    have := hO.cell gOrder i (by simpa [placeOf] using hi)
    rw [this]
    unfold plK
    rw [List.getD_eq_getElem?_getD, List.getD_eq_getElem?_getD, List.getElem?_map]
    cases h : placeOf[i]? <;> simp
  exact ⟨⟨World.block_lt_of_cell? W _ (hc 0 (by decide)), hc⟩, names_of h4, World.block_lt_of_cell? W _ (hT.cell gPow 0 (by decide)), hT⟩
end Go.Proofs.YtddoemeellbhaaaGreatDoor
