/-
  What the rows' condition on the listed tables gives the walks; a heap into which the tables are laid meets it.
-/
import Derived.Test.YtmhjdahmmdfbcaaGreatDoorCalA
import Derived.Test.YtmhjdahmmdfbcaaGreatDoorRows
import Derived.ProofKit
import Derived.Lay
import Derived.LaidMore
import Derived.OpenShut
import Derived.Stop.Joined
import Derived.Stop.LaidErr
import Derived.Lib.LaidTab
namespace Go.Proofs.YtmhjdahmmdfbcaaGreatDoor
open Go.ChangeShapes Go.WideShapes Go.ChangeAt Go.WideMaps Go.WideElems Go.RowKit

def laidT : List (String × DataW Unit) := [("math/bits.deBruijn32tab", Rows.laid_math_bits_deBruijn32tab), ("math/bits.deBruijn64tab", Rows.laid_math_bits_deBruijn64tab), ("internal/strconv.uint64pow10", Rows.laid_internal_strconv_uint64pow10), ("unicode/utf8.acceptRanges", Rows.laid_unicode_utf8_acceptRanges), ("cartulary/calendar.monthDays", Rows.laid_cartulary_calendar_monthDays), ("unicode/utf8.first", Rows.laid_unicode_utf8_first)]
theorem own : ownKnob Tryz.prog.godebug = none := by kernel_rfl
theorem laidOut : laidOutB Tryz.prog = true := by kernel_rfl
theorem laidT_met (os : Os) (args : Array Value) : laidMetH Tryz.prog laidT ((World.laidAll Tryz.prog os laidT).forCall (fun _ _ => 0) ⟨#[], args, []⟩).memory := by
  rw [MakeChecks.laidMetH_plain _ _ _ (by kernel_rfl)]; exact laidMet_laidAll _ (by kernel_rfl) (by kernel_rfl)
theorem laid_tail {P : Program} {W : World} {x : String × DataW Unit} {rest : List (String × DataW Unit)} (h : laidMet P (x :: rest) W) : laidMet P rest W := by
  obtain ⟨ps, ⟨g', t', cs, fuel, p, q, hg', ht', hvar, hd, h1, h2⟩, hnd, hfz⟩ := h
  first
    | (subst h1; exact ⟨q, h2, (List.nodup_append.1 hnd).2.1, fun b off hm => hfz b off (List.mem_append_right _ hm)⟩)
    | (subst h2; exact ⟨q, h1, (List.nodup_append.1 hnd).2.1, fun b off hm => hfz b off (List.mem_append_right _ hm)⟩)
def mdZ : List Int := [31, 28, 31, 30, 31, 30, 31, 31, 30, 31, 30, 31]
set_option maxRecDepth 100000 in
theorem pw_data : (Rows.laid_internal_strconv_uint64pow10 : DataW Unit) = Lib.tabData .u64 Lib.pow10Tab := rfl
theorem md_data : (Rows.laid_cartulary_calendar_monthDays : DataW Unit) = Lib.tabData .i64 mdZ := rfl
theorem tPw : (Tryz.prog.globals[4]?).map (·.type) = some 163 := by kernel_rfl
theorem gMd : Tryz.prog.globalNamed "cartulary/calendar.monthDays" = some 1 := by kernel_rfl
theorem tMd : (Tryz.prog.globals[1]?).map (·.type) = some 143 := by kernel_rfl
theorem md_all : ∀ i : Fin 12, i.val < mdZ.length ∧ mdZ.getD i.val 0 = mdI i.val := by decide +kernel
set_option maxRecDepth 100000 in
theorem of_laid {W : World} (h : laidMetH Tryz.prog laidT W) : GT W := by
  rw [MakeChecks.laidMetH_plain _ _ _ (by kernel_rfl)] at h
  unfold laidT at h
  rw [pw_data, md_data] at h
  have h2 := laid_tail (laid_tail h)
  have hT2 := Lib.tabIs_of_head gPow tPw Tryz.underlying163 Tryz.underlying147 (by kernel_rfl) (by kernel_rfl) h2
  have h3 := laid_tail (laid_tail h2)
  have hT3 := Lib.tabIs_of_head gMd tMd Tryz.underlying143 Tryz.underlying3 (by kernel_rfl) (by kernel_rfl) h3
  refine ⟨fun i hi => ?_, ?_, hT2⟩
  · have hm := md_all ⟨i, hi⟩
    have := hT3.cell gMd i hm.1
    rw [hm.2] at this
    exact this
  · have := hT2.cell gPow 0 (by decide)
    exact World.block_lt_of_cell? W _ this
theorem i64_range {a : Int} (w : (Lit.int .i64 a).wf = true) : -9223372036854775808 ≤ a ∧ a ≤ 9223372036854775807 := by
  have hb := bounds_i64 w
  omega
end Go.Proofs.YtmhjdahmmdfbcaaGreatDoor
