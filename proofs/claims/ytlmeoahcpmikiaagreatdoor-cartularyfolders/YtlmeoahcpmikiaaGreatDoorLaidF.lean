/-
  What the rows' condition on the listed variables gives the walks; the heap that the door's own run leaves meets it.
-/
import Derived.Test.YtlmeoahcpmikiaaGreatDoorLwA
import Derived.Test.YtlmeoahcpmikiaaGreatDoorJTTreA
import Derived.Test.YtlmeoahcpmikiaaGreatDoorRows
import Derived.ProofKit
import Derived.Lay
import Derived.LaidMore
import Derived.OpenShut
import Derived.Stop.Joined
import Derived.Stop.LaidErr
import Derived.Lib.LaidTab
import Derived.Deep.Grids
namespace Go.Proofs.YtlmeoahcpmikiaaGreatDoor
open Go.ChangeShapes Go.WideShapes Go.ChangeAt Go.WideMaps Go.WideElems Go.RowKit
def laidF : List (String × DataW Unit) := [("cartulary/sums.crcOfNibble", Rows.laid_cartulary_sums_crcOfNibble), ("math/bits.deBruijn32tab", Rows.laid_math_bits_deBruijn32tab), ("math/bits.deBruijn64tab", Rows.laid_math_bits_deBruijn64tab), ("internal/strconv.uint64pow10", Rows.laid_internal_strconv_uint64pow10), ("unicode/utf8.acceptRanges", Rows.laid_unicode_utf8_acceptRanges), ("cartulary/inflate.firstOrder", Rows.laid_cartulary_inflate_firstOrder), ("unicode.asciiFold", Rows.laid_unicode_asciiFold), ("unicode.caseOrbit", Rows.laid_unicode_caseOrbit), ("cartulary/object.names", Rows.laid_cartulary_object_names), ("cartulary/tree.modes", Rows.laid_cartulary_tree_modes), ("unicode.CaseRanges", Rows.laid_unicode_CaseRanges), ("unicode/utf8.first", Rows.laid_unicode_utf8_first)]
theorem laidF_met (os : Os) (args : Array Value) : laidMetH Tryz.prog laidF ((World.laidAll Tryz.prog os laidF).forCall (fun _ _ => 0) ⟨#[], args, []⟩).memory := by
  rw [MakeChecks.laidMetH_plain _ _ _ (by kernel_rfl)]; exact laidMet_laidAll _ (by kernel_rfl) (by kernel_rfl)
theorem own : ownKnob Tryz.prog.godebug = none := by kernel_rfl
theorem laidOut : laidOutB Tryz.prog = true := by kernel_rfl
theorem tPow : (Tryz.prog.globals[3]?).map (·.type) = some 287 := by kernel_rfl
theorem gNames : Tryz.prog.globalNamed "cartulary/object.names" = some 0 := by kernel_rfl
theorem tNames : (Tryz.prog.globals[0]?).map (·.type) = some 169 := by kernel_rfl
theorem cells9 : Tryz.prog.cellsOf 9 = 1 := by kernel_rfl
theorem cells81 : Tryz.prog.cellsOf 169 = 5 := by kernel_rfl
def strData {H : Type} (ls : List (List UInt8)) : DataW H := .agg (ls.map fun b => .lit (.string b))
theorem cells_of_strs {H : Type} {enc : TypeId × Value → H} {P : Program} {w : World} {base : Nat} {sp : Nat → Bool} {held : Bool} {fuel : Nat} {t e : TypeId} {n : Nat} {cs : List Value} {ls : List (List UInt8)} {p : List MemPlace}
    (ht : P.underlying t = some (.array n e)) (he : P.underlying e = some .string) (hce : P.cellsOf e = 1) (hct : P.cellsOf t = n)
    (h : DataW.trod enc P w base sp held fuel t cs = some (strData ls, p)) : cs = ls.map fun b => Value.string ⟨b.toArray⟩ := by
  cases fuel with
  | zero => simp [DataW.trod] at h
  | succ fuel =>
    simp only [DataW.trod, ht, hce, hct, Nat.mul_one] at h
    split at h
    · rename_i hl
      obtain ⟨xs, hm, hx⟩ := Option.map_eq_some_iff.1 h
      have hxs : xs.map (·.1) = ls.map fun b => (DataW.lit (.string b) : DataW H) := by
        have := congrArg Prod.fst hx
        simpa [strData] using this
      have hxl : xs.length = n := by simpa using Lib.mapM_length hm
      have hzl : ls.length = n := by
        have := congrArg List.length hxs
        simp at this
        omega
      apply List.ext_getElem?
      intro i
      by_cases hi : i < n
      · obtain ⟨b, hb, hf⟩ := Lib.mapM_at hm i i (by simp [hi])
        obtain ⟨z, hc, rfl, _⟩ := DataW.trod_string he hf
        have h1 : cs[i]? = some (.string z) := by
          have := congrArg (·[0]?) hc
          simpa [List.getElem?_take, List.getElem?_drop] using this
        have h2 : (xs.map (·.1))[i]? = some (DataW.lit (.string z.data.toList) : DataW H) := by simp [hb]
        rw [hxs] at h2
        simp only [List.getElem?_map, Option.map_eq_some_iff, DataW.lit.injEq, Lit.string.injEq] at h2
        obtain ⟨z', hz', rfl⟩ := h2
        simp [h1, hz']
      · rw [List.getElem?_eq_none (by omega), List.getElem?_eq_none (by simp; omega)]
    · cases h
theorem pow_data : (Rows.laid_internal_strconv_uint64pow10 : DataW Unit) = Lib.tabData .u64 Lib.pow10Tab := rfl
theorem names_data : (Rows.laid_cartulary_object_names : DataW Unit) = strData ((List.range 5).map nm) := rfl
theorem names_of {W : World} {rest : List (String × DataW Unit)} (h : laidMet Tryz.prog (("cartulary/object.names", strData ((List.range 5).map nm)) :: rest) W) : NamesAt W := by
  obtain ⟨ps, ⟨g', t', cs, fuel, p, q, hg', ht', hvar, hd, _,_⟩, _⟩ := h
  obtain rfl := Option.some.inj (gNames.symm.trans hg')
  obtain rfl := Option.some.inj (tNames.symm.trans ht')
  have hcs := cells_of_strs Tryz.underlying169 Tryz.underlying9 cells9 cells81 hd
  have hc : ∀ i, i < 5 → W.cell? ⟨0, i, none⟩ = some (.string ⟨(nm i).toArray⟩) := by
    intro i hi
    have := World.var?_cell gNames hvar i
    rw [this, ← Array.getElem?_toList, hcs]
    simp [hi]
  exact ⟨World.block_lt_of_cell? W _ (hc 0 (by decide)), hc⟩
theorem laid_tail {P : Program} {W : World} {x : String × DataW Unit} {rest : List (String × DataW Unit)} (h : laidMet P (x :: rest) W) : laidMet P rest W := by
  obtain ⟨ps, ⟨g', t', cs, fuel, p, q, hg', ht', hvar, hd, h1, h2⟩, hnd, hfz⟩ := h
  first
    | (subst h1; exact ⟨q, h2, (List.nodup_append.1 hnd).2.1, fun b off hm => hfz b off (List.mem_append_right _ hm)⟩)
    | (subst h2; exact ⟨q, h1, (List.nodup_append.1 hnd).2.1, fun b off hm => hfz b off (List.mem_append_right _ hm)⟩)
def dbZ : List Int := [0, 1, 56, 2, 57, 49, 28, 3, 61, 58, 42, 50, 38, 29, 17, 4, 62, 47, 59, 36, 45, 43, 51, 22, 53, 39, 33, 30, 24, 18, 12, 5, 63, 55, 48, 27, 60, 41, 37, 16, 46, 35, 44, 21, 52, 32, 23, 11, 54, 26, 40, 15, 34, 20, 31, 10, 25, 14, 19, 9, 13, 8, 7, 6]
set_option maxRecDepth 100000 in
def fdZ : List Int := [0, 1, 2, 3, 4, 5, 6, 7, 8, 9, 10, 11, 12, 13, 14, 15, 16, 17, 18, 19, 20, 21, 22, 23, 24, 25, 26, 27, 28, 29, 30, 31, 32, 33, 34, 35, 36, 37, 38, 39, 40, 41, 42, 43, 44, 45, 46, 47, 48, 49, 50, 51, 52, 53, 54, 55, 56, 57, 58, 59, 60, 61, 62, 63, 64, 97, 98, 99, 100, 101, 102, 103, 104, 105, 106, 107, 108, 109, 110, 111, 112, 113, 114, 115, 116, 117, 118, 119, 120, 121, 122, 91, 92, 93, 94, 95, 96, 65, 66, 67, 68, 69, 70, 71, 72, 73, 74, 8490, 76, 77, 78, 79, 80, 81, 82, 383, 84, 85, 86, 87, 88, 89, 90, 123, 124, 125, 126, 127]
set_option maxRecDepth 100000 in
theorem db_data : (Rows.laid_math_bits_deBruijn64tab : DataW Unit) = Lib.tabData .u8 dbZ := rfl
set_option maxRecDepth 100000 in
theorem fd_data : (Rows.laid_unicode_asciiFold : DataW Unit) = Lib.tabData .u16 fdZ := rfl
theorem md_data : (Rows.laid_cartulary_tree_modes : DataW Unit) = Lib.tabData .i64 T.modesL := rfl
theorem gDb : Tryz.prog.globalNamed "math/bits.deBruijn64tab" = some 10 := by kernel_rfl
theorem tDb : (Tryz.prog.globals[10]?).map (·.type) = some 150 := by kernel_rfl
theorem gFd : Tryz.prog.globalNamed "unicode.asciiFold" = some 4 := by kernel_rfl
theorem tFd : (Tryz.prog.globals[4]?).map (·.type) = some 322 := by kernel_rfl
theorem gMd : Tryz.prog.globalNamed "cartulary/tree.modes" = some 2 := by kernel_rfl
theorem tMd : (Tryz.prog.globals[2]?).map (·.type) = some 219 := by kernel_rfl
theorem gOrder : Tryz.prog.globalNamed "cartulary/inflate.firstOrder" = some 13 := by kernel_rfl
theorem tOrder : (Tryz.prog.globals[13]?).map (·.type) = some 394 := by kernel_rfl
theorem tab_data : (Rows.laid_cartulary_inflate_firstOrder : DataW Unit) = Lib.tabData .i64 (placeOf.map Int.ofNat) := rfl
set_option maxRecDepth 100000 in
theorem fd_all : ∀ c ∈ [46, 103, 71, 105, 73, 116, 84], c < fdZ.length ∧ fdZ.getD c 0 = (T.foldC c : Int) := by decide +kernel
theorem md_all : ∀ i : Fin 5, i.val < T.modesL.length ∧ T.modesL.getD i.val 0 = T.modeI i.val := by decide +kernel
set_option maxRecDepth 100000 in
theorem of_laidF {W : World} (h : laidMetH Tryz.prog laidF W) : T.GT W ∧ LG W := by
  rw [MakeChecks.laidMetH_plain _ _ _ (by kernel_rfl)] at h
  unfold laidF at h
  rw [db_data, fd_data, md_data, pow_data, tab_data, names_data] at h
  have h2 := laid_tail (laid_tail h)
  have hT2 := Lib.tabIs_of_head gDb tDb Tryz.underlying150 Tryz.underlying5 (by kernel_rfl) (by kernel_rfl) h2
  have h3 := laid_tail h2
  have hT3 := Lib.tabIs_of_head gPow tPow Tryz.underlying287 Tryz.underlying152 (by kernel_rfl) (by kernel_rfl) h3
  have h5 := laid_tail (laid_tail h3)
  have hT5 := Lib.tabIs_of_head gOrder tOrder Tryz.underlying394 Tryz.underlying3 (by kernel_rfl) (by kernel_rfl) h5
  have h6 := laid_tail h5
  have hT6 := Lib.tabIs_of_head gFd tFd Tryz.underlying322 Tryz.underlying321 (by kernel_rfl) (by kernel_rfl) h6
  have h8 := laid_tail (laid_tail h6)
  have hN := names_of h8
  have h9 := laid_tail h8
  have hT9 := Lib.tabIs_of_head gMd tMd Tryz.underlying219 Tryz.underlying3 (by kernel_rfl) (by kernel_rfl) h9
  have hc : ∀ i, i < 19 → W.cell? ⟨13, i, none⟩ = some (.int .i64 (plK i : Int)) := by
    intro i hi
    have := hT5.cell gOrder i (by simpa [placeOf] using hi)
    rw [this]
    unfold plK
    rw [List.getD_eq_getElem?_getD, List.getD_eq_getElem?_getD, List.getElem?_map]
    cases h : placeOf[i]? <;> simp
  refine ⟨⟨?_, fun i hi => ?_, fun c hc => ?_⟩, ⟨World.block_lt_of_cell? W _ (hc 0 (by decide)), hc⟩, hN, World.block_lt_of_cell? W _ (hT3.cell gPow 0 (by decide)), hT3⟩
  · exact hT2.cell gDb 7 (by decide)
  · have hm := md_all ⟨i, hi⟩
    have := hT9.cell gMd i hm.1
    rw [hm.2] at this
    exact this
  · have hf := fd_all c hc
    have := hT6.cell gFd c hf.1
    rw [hf.2] at this
    exact this
end Go.Proofs.YtlmeoahcpmikiaaGreatDoor
