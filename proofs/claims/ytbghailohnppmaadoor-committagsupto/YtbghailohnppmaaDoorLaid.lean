/-
  What the rows' condition on the listed tables gives the walks; a heap into which the tables are laid meets it.
-/
import Derived.Test.YtbghailohnppmaaDoorJComB
import Derived.Test.YtbghailohnppmaaDoorRows
import Derived.ProofKit
import Derived.Lay
import Derived.LaidMore
import Derived.OpenShut
import Derived.Stop.Joined
import Derived.Stop.LaidErr
import Derived.Lib.LaidTab
import Derived.Lib.SmallJoins
namespace Go.Proofs.YtbghailohnppmaaDoor
open Go.ChangeShapes Go.WideShapes Go.ChangeAt Go.WideMaps Go.WideElems Go.RowKit

def laidT : List (String × DataW Unit) := [("math/bits.deBruijn32tab", Rows.laid_math_bits_deBruijn32tab), ("math/bits.deBruijn64tab", Rows.laid_math_bits_deBruijn64tab), ("internal/strconv.uint64pow10", Rows.laid_internal_strconv_uint64pow10), ("strconv.ErrRange", Rows.laid_strconv_ErrRange), ("strconv.ErrSyntax", Rows.laid_strconv_ErrSyntax)]
theorem own : ownKnob Tryd.prog.godebug = none := by kernel_rfl
theorem laidOut : laidOutB Tryd.prog = true := by kernel_rfl
set_option maxRecDepth 100000 in
theorem pw_data : (Rows.laid_internal_strconv_uint64pow10 : DataW Unit) = Lib.tabData .u64 Lib.pow10Tab := rfl
theorem tPw : (Tryd.prog.globals[2]?).map (·.type) = some 112 := by kernel_rfl
theorem gES : Tryd.prog.globalNamed "strconv.ErrSyntax" = some 3 := by kernel_rfl
theorem tES : (Tryd.prog.globals[3]?).map (·.type) = some 61 := by kernel_rfl
theorem gER : Tryd.prog.globalNamed "strconv.ErrRange" = some 4 := by kernel_rfl
theorem tER : (Tryd.prog.globals[4]?).map (·.type) = some 61 := by kernel_rfl
theorem star : "*" ++ "errors.errorString" = "*errors.errorString" := by decide
theorem row131 (u : TypeId) (h : Tryd.prog.typeName? 3 u = some "*errors.errorString") : u = 131 :=
  typeName_ptr_named (nm := "errors.errorString") (by rw [star]; kernel_rfl) (by kernel_rfl) (by decide) u (by rw [star]; exact h)
theorem cells133 : Tryd.prog.cellsOf 133 = 1 := by kernel_rfl
theorem cells9l : Tryd.prog.cellsOf 9 = 1 := by kernel_rfl
set_option maxRecDepth 100000 in
/-- the rows' first five tables -/
theorem of_rows {r : List (String × DataW Unit)} {W : World} (h : laidMet Tryd.prog (laidT ++ r) W) : GT W := by
  unfold laidT at h
  simp only [List.cons_append, List.nil_append] at h
  rw [pw_data] at h
  have h2 := h.tail.tail
  have hT2 := Lib.tabIs_of_head gPow tPw Tryd.underlying112 Tryd.underlying102 (by kernel_rfl) (by kernel_rfl) h2
  have h3 := h2.tail
  obtain ⟨a4, s4, hv4, _,_,_⟩ := laid_sentinel h3 gER tER Tryd.underlying61 row131 Tryd.underlying131 Tryd.underlying133 rfl rfl Tryd.underlying9 cells133 cells9l
  obtain ⟨a3, s3, hv3, _,_,_⟩ := laid_sentinel h3.tail gES tES Tryd.underlying61 row131 Tryd.underlying131 Tryd.underlying133 rfl rfl Tryd.underlying9 cells133 cells9l
  have c4 := World.var?_cell gER hv4 0
  have c3 := World.var?_cell gES hv3 0
  refine ⟨⟨?_, hT2⟩, ⟨_,_, c3⟩, ⟨_,_, c4⟩⟩
  have := hT2.cell gPow 0 (by decide)
  exact World.block_lt_of_cell? W _ this
theorem i64_range {a : Int} (w : (Lit.int .i64 a).wf = true) : -9223372036854775808 ≤ a ∧ a ≤ 9223372036854775807 := by
  have hb := bounds_i64 w
  omega
theorem cells24 : Tryd.prog.cellsOf 24 = 3 := by kernel_rfl
end Go.Proofs.YtbghailohnppmaaDoor
