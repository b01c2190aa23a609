/-
  What the rows' condition on the listed tables gives the walks; a heap into which the tables are laid meets it.
-/
import Derived.Test.YtccohagdfpcplaaDoorTreA
import Derived.Test.YtccohagdfpcplaaDoorRows
import Derived.ProofKit
import Derived.Lay
import Derived.LaidMore
import Derived.OpenShut
import Derived.Stop.Joined
import Derived.Stop.LaidErr
import Derived.Lib.LaidTab
namespace Go.Proofs.YtccohagdfpcplaaDoor
open Go.ChangeShapes Go.WideShapes Go.ChangeAt Go.WideMaps Go.WideElems Go.RowKit

def laidT : List (String × DataW Unit) := [("math/bits.deBruijn32tab", Rows.laid_math_bits_deBruijn32tab), ("math/bits.deBruijn64tab", Rows.laid_math_bits_deBruijn64tab), ("internal/strconv.uint64pow10", Rows.laid_internal_strconv_uint64pow10), ("unicode/utf8.acceptRanges", Rows.laid_unicode_utf8_acceptRanges), ("unicode.asciiFold", Rows.laid_unicode_asciiFold), ("unicode.caseOrbit", Rows.laid_unicode_caseOrbit), ("cartulary/tree.modes", Rows.laid_cartulary_tree_modes), ("unicode.CaseRanges", Rows.laid_unicode_CaseRanges), ("unicode/utf8.first", Rows.laid_unicode_utf8_first)]
theorem own : ownKnob Tryd.prog.godebug = none := by kernel_rfl
theorem laidOut : laidOutB Tryd.prog = true := by kernel_rfl
theorem laidT_met (os : Os) (args : Array Value) : laidMetH Tryd.prog laidT ((World.laidAll Tryd.prog os laidT).forCall (fun _ _ => 0) ⟨#[], args, []⟩).memory := by
  rw [MakeChecks.laidMetH_plain _ _ _ (by kernel_rfl)]; exact laidMet_laidAll _ (by kernel_rfl) (by kernel_rfl)
theorem laid_tail {P : Program} {W : World} {x : String × DataW Unit} {rest : List (String × DataW Unit)} (h : laidMet P (x :: rest) W) : laidMet P rest W := by
  obtain ⟨ps, ⟨g', t', cs, fuel, p, q, hg', ht', hvar, hd, h1, h2⟩, hnd, hfz⟩ := h
  first
    | (subst h1; exact ⟨q, h2, (List.nodup_append.1 hnd).2.1, fun b off hm => hfz b off (List.mem_append_right _ hm)⟩)
    | (subst h2; exact ⟨q, h1, (List.nodup_append.1 hnd).2.1, fun b off hm => hfz b off (List.mem_append_right _ hm)⟩)
def dbZ : List Int := [0, 1, 56, 2, 57, 49, 28, 3, 61, 58, 42, 50, 38, 29, 17, 4, 62, 47, 59, 36, 45, 43, 51, 22, 53, 39, 33, 30, 24, 18, 12, 5, 63, 55, 48, 27, 60, 41, 37, 16, 46, 35, 44, 21, 52, 32, 23, 11, 54, 26, 40, 15, 34, 20, 31, 10, 25, 14, 19, 9, 13, 8, 7, 6]
set_option maxRecDepth 100000 in
def fdZ : List Int := [0, 1, 2, 3, 4, 5, 6, 7, 8, 9, 10, 11, 12, 13, 14, 15, 16, 17, 18, 19, 20, 21, 22, 23, 24, 25, 26, 27, 28, 29, 30, 31, 32, 33, 34, 35, 36, 37, 38, 39, 40, 41, 42, 43, 44, 45, 46, 47, 48, 49, 50, 51, 52, 53, 54, 55, 56, 57, 58, 59, 60, 61, 62, 63, 64, 97, 98, 99, 100, 101, 102, 103, 104, 105, 106, 107, 108, 109, 110, 111, 112, 113, 114, 115, 116, 117, 118, 119, 120, 121, 122, 91, 92, 93, 94, 95, 96, 65, 66, 67, 68, 69, 70, 71, 72, 73, 74, 8490, 76, 77, 78, 79, 80, 81, 82, 383, 84, 85, 86, 87, 88, 89, 90, 123, 124, 125, 126, 127]
set_option maxRecDepth 100000 in
theorem db_data : (Rows.laid_math_bits_deBruijn64tab : DataW Unit) = Lib.tabData .u8 dbZ := rfl
set_option maxRecDepth 100000 in
theorem fd_data : (Rows.laid_unicode_asciiFold : DataW Unit) = Lib.tabData .u16 fdZ := rfl
theorem md_data : (Rows.laid_cartulary_tree_modes : DataW Unit) = Lib.tabData .i64 modesL := rfl
theorem gDb : Tryd.prog.globalNamed "math/bits.deBruijn64tab" = some 9 := by kernel_rfl
theorem tDb : (Tryd.prog.globals[9]?).map (·.type) = some 119 := by kernel_rfl
theorem gFd : Tryd.prog.globalNamed "unicode.asciiFold" = some 1 := by kernel_rfl
theorem tFd : (Tryd.prog.globals[1]?).map (·.type) = some 87 := by kernel_rfl
theorem gMd : Tryd.prog.globalNamed "cartulary/tree.modes" = some 0 := by kernel_rfl
theorem tMd : (Tryd.prog.globals[0]?).map (·.type) = some 85 := by kernel_rfl
set_option maxRecDepth 100000 in
theorem fd_all : ∀ c ∈ [46, 103, 71, 105, 73, 116, 84], c < fdZ.length ∧ fdZ.getD c 0 = (foldC c : Int) := by decide +kernel
theorem md_all : ∀ i : Fin 5, i.val < modesL.length ∧ modesL.getD i.val 0 = modeI i.val := by decide +kernel
set_option maxRecDepth 100000 in
theorem of_laid {W : World} (h : laidMetH Tryd.prog laidT W) : GT W := by
  rw [MakeChecks.laidMetH_plain _ _ _ (by kernel_rfl)] at h
  unfold laidT at h
  rw [db_data, fd_data, md_data] at h
  have h1 := laid_tail h
  have hT1 := Lib.tabIs_of_head gDb tDb Tryd.underlying119 Tryd.underlying5 (by kernel_rfl) (by kernel_rfl) h1
  have h4 := laid_tail (laid_tail (laid_tail h1))
  have hT4 := Lib.tabIs_of_head gFd tFd Tryd.underlying87 Tryd.underlying86 (by kernel_rfl) (by kernel_rfl) h4
  have h6 := laid_tail (laid_tail h4)
  have hT6 := Lib.tabIs_of_head gMd tMd Tryd.underlying85 Tryd.underlying3 (by kernel_rfl) (by kernel_rfl) h6
  refine ⟨?_, fun i hi => ?_, fun c hc => ?_⟩
  · exact hT1.cell gDb 7 (by decide)
  · have hm := md_all ⟨i, hi⟩
    have := hT6.cell gMd i hm.1
    rw [hm.2] at this
    exact this
  · have hf := fd_all c hc
    have := hT4.cell gFd c hf.1
    rw [hf.2] at this
    exact this
end Go.Proofs.YtccohagdfpcplaaDoor
