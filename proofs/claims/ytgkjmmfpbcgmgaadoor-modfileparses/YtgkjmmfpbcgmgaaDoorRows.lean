/-
  NARROWER THAN 'FOR EVERY INPUT', by the rows' own cells (each row's printed sentence says how): ModfileParses: laid · ModfilePaths: laid · ModfileBlanks: laid · ModfileJoins: laid · ModfileParents: laid.
  DERIVED. THE GIVEN ROWS OF THIS SEAT. 5 by the template 'for every input the law returns true; each argument reads behind the call as it read before'; 0 by the template 'total and deterministic' (their statements: YtgkjmmfpbcgmgaaDoorTotals.lean).
  GIVEN WITH THE SEED: the statements are not yours to turn. If you find one false, say at which input.
  Laid BY PROGRAM, IN A SANDBOX (cutbox-rows.mjs): the forced cells as the released guide's own fill.sh prints them over the translation 6ccf3ed56d6eabaa… (all of the seat's roots in one cut). By AI agents, Wed Nov 11 2026. No macro, syntax, notation, axiom, sorry.
-/
import Derived.Test.YtgkjmmfpbcgmgaaDoorChecked
import GoSem.PinnedTables
import GoSem.Claim
import GoSem.ClaimJoined
import GoSem.ClaimMapViews
import Derived.JoinedTies
import Derived.KernelRfl
namespace Go.Proofs.YtgkjmmfpbcgmgaaDoor
/- THE CELL 'sum', in the pinned program and in every row, IS THE sha256 OF THE DUMP (.gsa) THAT YtgkjmmfpbcgmgaaDoorProg.lean LOADS. Nothing in Lean hashes anything: it is a label: what it is worth is what the hold of that sum in a sandbox is worth. -/
noncomputable def Tryd.pinned : Pinned := { name := "ytgkjmmfpbcgmgaadoor", sum := "6ccf3ed56d6eabaa9e9c1fa4e6b1277df064bf3cdd7a3e81d9c6812e60bdedee", checked := Tryd.checked }
namespace Rows
def none {H : Type} : Left H := { results := [], args := [] }

/- WHAT THE LISTED PACKAGE-LEVEL VARIABLES READ AS WHEN THE CALL BEGINS. Each datum BY PROGRAM (the guide's laid-datum.mjs) off the statement by which the dump's own 'gosem.cut.vars' lays the variable. In a bare row this is a premise. The card (YtgkjmmfpbcgmgaaDoorCards.lean) ties it to the program's text. -/
def laid_unicode_utf8_acceptRanges {H : Type} : DataW H := .agg [.agg [.lit (.int .u8 128), .lit (.int .u8 191)], .agg [.lit (.int .u8 160), .lit (.int .u8 191)], .agg [.lit (.int .u8 128), .lit (.int .u8 159)], .agg [.lit (.int .u8 144), .lit (.int .u8 191)], .agg [.lit (.int .u8 128), .lit (.int .u8 143)], .agg [.lit (.int .u8 0), .lit (.int .u8 0)], .agg [.lit (.int .u8 0), .lit (.int .u8 0)], .agg [.lit (.int .u8 0), .lit (.int .u8 0)], .agg [.lit (.int .u8 0), .lit (.int .u8 0)], .agg [.lit (.int .u8 0), .lit (.int .u8 0)], .agg [.lit (.int .u8 0), .lit (.int .u8 0)], .agg [.lit (.int .u8 0), .lit (.int .u8 0)], .agg [.lit (.int .u8 0), .lit (.int .u8 0)], .agg [.lit (.int .u8 0), .lit (.int .u8 0)], .agg [.lit (.int .u8 0), .lit (.int .u8 0)], .agg [.lit (.int .u8 0), .lit (.int .u8 0)]]
/-- One of Go's own tables, pinned by name: the form's constant. -/
def laid_unicode_utf8_first : DataW Unit := Go.Pinned.utf8First

/-- 'cartularylaw22.ModfileParses': WHATEVER THE INPUT: true; the input reads as it did. -/
def modfileParsesSpec : ChangeSpec := { name := "modfileParses", fn := fun _ => fun
  | [d] => { results := [.lit (.bool true)], args := [d] }
  | _ => none }
def modfileParsesRow : OpenClaim := { program := "ytgkjmmfpbcgmgaadoor", sum := "6ccf3ed56d6eabaa9e9c1fa4e6b1277df064bf3cdd7a3e81d9c6812e60bdedee", func := "cartulary/cartularylaw22.ModfileParses", spec := "modfileParses", inPlace := ["internal/bytealg.IndexByteString", "internal/bytealg.IndexString", "internal/bytealg.CountString"], unfollowed := true, recurses := true, named := ["internal/bytealg.MaxLen", "unicode/utf8.first", "unicode/utf8.acceptRanges"], apart := false, laid := [("unicode/utf8.acceptRanges", laid_unicode_utf8_acceptRanges), ("unicode/utf8.first", laid_unicode_utf8_first)] }
def ModfileParsesSaid : Prop := modfileParsesRow.holds Tryd.pinned (OpenSpec.ofChange modfileParsesSpec)

/-- ITS FALSE NEIGHBOUR: 'it returns false'. Refute it at one input. -/
def modfileParsesWrong : ChangeSpec := { name := "modfileParses", fn := fun _ => fun
  | [d] => { results := [.lit (.bool false)], args := [d] }
  | _ => none }
def ModfileParsesWrongFalsely : Prop := modfileParsesRow.holds Tryd.pinned (OpenSpec.ofChange modfileParsesWrong)

/-- 'cartularylaw22.ModfilePaths': WHATEVER THE INPUT: true; the input reads as it did. -/
def modfilePathsSpec : ChangeSpec := { name := "modfilePaths", fn := fun _ => fun
  | [d] => { results := [.lit (.bool true)], args := [d] }
  | _ => none }
def modfilePathsRow : OpenClaim := { program := "ytgkjmmfpbcgmgaadoor", sum := "6ccf3ed56d6eabaa9e9c1fa4e6b1277df064bf3cdd7a3e81d9c6812e60bdedee", func := "cartulary/cartularylaw22.ModfilePaths", spec := "modfilePaths", inPlace := ["internal/bytealg.IndexByteString", "internal/bytealg.IndexString", "internal/bytealg.CountString"], unfollowed := true, recurses := true, named := ["internal/bytealg.MaxLen", "unicode/utf8.first", "unicode/utf8.acceptRanges"], apart := false, laid := [("unicode/utf8.acceptRanges", laid_unicode_utf8_acceptRanges), ("unicode/utf8.first", laid_unicode_utf8_first)] }
def ModfilePathsSaid : Prop := modfilePathsRow.holds Tryd.pinned (OpenSpec.ofChange modfilePathsSpec)

/-- ITS FALSE NEIGHBOUR: 'it returns false'. Refute it at one input. -/
def modfilePathsWrong : ChangeSpec := { name := "modfilePaths", fn := fun _ => fun
  | [d] => { results := [.lit (.bool false)], args := [d] }
  | _ => none }
def ModfilePathsWrongFalsely : Prop := modfilePathsRow.holds Tryd.pinned (OpenSpec.ofChange modfilePathsWrong)

/-- 'cartularylaw22.ModfileBlanks': WHATEVER THE INPUT: true; the input reads as it did. -/
def modfileBlanksSpec : ChangeSpec := { name := "modfileBlanks", fn := fun _ => fun
  | [d] => { results := [.lit (.bool true)], args := [d] }
  | _ => none }
def modfileBlanksRow : OpenClaim := { program := "ytgkjmmfpbcgmgaadoor", sum := "6ccf3ed56d6eabaa9e9c1fa4e6b1277df064bf3cdd7a3e81d9c6812e60bdedee", func := "cartulary/cartularylaw22.ModfileBlanks", spec := "modfileBlanks", inPlace := ["internal/bytealg.IndexByteString", "internal/bytealg.IndexString", "internal/bytealg.CountString"], unfollowed := true, recurses := true, named := ["internal/bytealg.MaxLen", "unicode/utf8.first", "unicode/utf8.acceptRanges"], apart := false, laid := [("unicode/utf8.acceptRanges", laid_unicode_utf8_acceptRanges), ("unicode/utf8.first", laid_unicode_utf8_first)] }
def ModfileBlanksSaid : Prop := modfileBlanksRow.holds Tryd.pinned (OpenSpec.ofChange modfileBlanksSpec)

/-- ITS FALSE NEIGHBOUR: 'it returns false'. Refute it at one input. -/
def modfileBlanksWrong : ChangeSpec := { name := "modfileBlanks", fn := fun _ => fun
  | [d] => { results := [.lit (.bool false)], args := [d] }
  | _ => none }
def ModfileBlanksWrongFalsely : Prop := modfileBlanksRow.holds Tryd.pinned (OpenSpec.ofChange modfileBlanksWrong)

/-- 'cartularylaw22.ModfileJoins': WHATEVER THE INPUT: true; the input reads as it did. -/
def modfileJoinsSpec : ChangeSpec := { name := "modfileJoins", fn := fun _ => fun
  | [d1, d2] => { results := [.lit (.bool true)], args := [d1, d2] }
  | _ => none }
def modfileJoinsRow : OpenClaim := { program := "ytgkjmmfpbcgmgaadoor", sum := "6ccf3ed56d6eabaa9e9c1fa4e6b1277df064bf3cdd7a3e81d9c6812e60bdedee", func := "cartulary/cartularylaw22.ModfileJoins", spec := "modfileJoins", inPlace := ["internal/bytealg.IndexByteString", "internal/bytealg.IndexString", "internal/bytealg.CountString"], unfollowed := true, recurses := true, named := ["internal/bytealg.MaxLen", "unicode/utf8.first", "unicode/utf8.acceptRanges"], apart := false, laid := [("unicode/utf8.acceptRanges", laid_unicode_utf8_acceptRanges), ("unicode/utf8.first", laid_unicode_utf8_first)] }
def ModfileJoinsSaid : Prop := modfileJoinsRow.holds Tryd.pinned (OpenSpec.ofChange modfileJoinsSpec)

/-- ITS FALSE NEIGHBOUR: 'it returns false'. Refute it at one input. -/
def modfileJoinsWrong : ChangeSpec := { name := "modfileJoins", fn := fun _ => fun
  | [d1, d2] => { results := [.lit (.bool false)], args := [d1, d2] }
  | _ => none }
def ModfileJoinsWrongFalsely : Prop := modfileJoinsRow.holds Tryd.pinned (OpenSpec.ofChange modfileJoinsWrong)

/-- 'cartularylaw22.ModfileParents': WHATEVER THE INPUT: true; the input reads as it did. -/
def modfileParentsSpec : ChangeSpec := { name := "modfileParents", fn := fun _ => fun
  | [d] => { results := [.lit (.bool true)], args := [d] }
  | _ => none }
def modfileParentsRow : OpenClaim := { program := "ytgkjmmfpbcgmgaadoor", sum := "6ccf3ed56d6eabaa9e9c1fa4e6b1277df064bf3cdd7a3e81d9c6812e60bdedee", func := "cartulary/cartularylaw22.ModfileParents", spec := "modfileParents", inPlace := ["internal/bytealg.IndexByteString", "internal/bytealg.IndexString", "internal/bytealg.CountString"], unfollowed := true, recurses := true, named := ["internal/bytealg.MaxLen", "unicode/utf8.first", "unicode/utf8.acceptRanges"], apart := false, laid := [("unicode/utf8.acceptRanges", laid_unicode_utf8_acceptRanges), ("unicode/utf8.first", laid_unicode_utf8_first)] }
def ModfileParentsSaid : Prop := modfileParentsRow.holds Tryd.pinned (OpenSpec.ofChange modfileParentsSpec)

/-- ITS FALSE NEIGHBOUR: 'it returns false'. Refute it at one input. -/
def modfileParentsWrong : ChangeSpec := { name := "modfileParents", fn := fun _ => fun
  | [d] => { results := [.lit (.bool false)], args := [d] }
  | _ => none }
def ModfileParentsWrongFalsely : Prop := modfileParentsRow.holds Tryd.pinned (OpenSpec.ofChange modfileParentsWrong)

/- THE SECOND FORM. 'bulk': how many values and letters a reading holds, each counted each time it is reached (what is shared counts as often as it is met; a slice's spare places count too). A statement '..UptoSaid' is the law's where the arguments, and the package variables that the reading takes, are together of bulk at most 1048576: NARROWER than '..Said'. Prove '..Said' where nothing that the law and all that it calls make is longer than what came in: it says more and counts as full. Else prove '..UptoSaid'. A law counts once. -/
mutual
def uptoBulk {H : Type} : DataW H → Nat
  | .lit (.string bytes) => bytes.length + 1
  | .lit _ => 1
  | .nil => 1
  | .ptr d => uptoBulk d + 1
  | .slice elems spare => uptoBulkAll elems + uptoBulkAll spare + 1
  | .agg parts => uptoBulkAll parts + 1
  | .iface _ d => uptoBulk d + 1
  | .map entries => uptoBulkEntries entries + 1
  | .held _ => 1
def uptoBulkAll {H : Type} : List (DataW H) → Nat
  | [] => 0
  | d :: r => uptoBulk d + uptoBulkAll r
def uptoBulkEntries {H : Type} : List (Lit × DataW H) → Nat
  | [] => 0
  | x :: r => uptoBulkEntry x + uptoBulkEntries r
def uptoBulkEntry {H : Type} : Lit × DataW H → Nat
  | (.string bytes, d) => bytes.length + uptoBulk d + 1
  | (_, d) => uptoBulk d + 1
 end
def uptoSmall : (H : Type) → List (DataW H) → Bool := fun _ ds => decide (uptoBulkAll ds ≤ 1048576)
def OpenSpec.upto (s : _root_.Go.ChangeSpec) : _root_.Go.OpenSpec := { _root_.Go.OpenSpec.ofChange s with cond := some uptoSmall }

/-- 'cartularylaw22.ModfileParses', WHERE WHAT IT READS IS OF BULK AT MOST 1048576: true; the input reads as it did. -/
def modfileParsesUptoRow : OpenClaim := { program := "ytgkjmmfpbcgmgaadoor", sum := "6ccf3ed56d6eabaa9e9c1fa4e6b1277df064bf3cdd7a3e81d9c6812e60bdedee", func := "cartulary/cartularylaw22.ModfileParses", spec := "modfileParses", inPlace := ["internal/bytealg.IndexByteString", "internal/bytealg.IndexString", "internal/bytealg.CountString"], unfollowed := true, recurses := true, named := ["internal/bytealg.MaxLen", "unicode/utf8.first", "unicode/utf8.acceptRanges"], apart := false, laid := [("unicode/utf8.acceptRanges", laid_unicode_utf8_acceptRanges), ("unicode/utf8.first", laid_unicode_utf8_first)], narrowed := true }
def ModfileParsesUptoSaid : Prop := modfileParsesUptoRow.holds Tryd.pinned (OpenSpec.upto modfileParsesSpec)

/-- 'cartularylaw22.ModfilePaths', WHERE WHAT IT READS IS OF BULK AT MOST 1048576: true; the input reads as it did. -/
def modfilePathsUptoRow : OpenClaim := { program := "ytgkjmmfpbcgmgaadoor", sum := "6ccf3ed56d6eabaa9e9c1fa4e6b1277df064bf3cdd7a3e81d9c6812e60bdedee", func := "cartulary/cartularylaw22.ModfilePaths", spec := "modfilePaths", inPlace := ["internal/bytealg.IndexByteString", "internal/bytealg.IndexString", "internal/bytealg.CountString"], unfollowed := true, recurses := true, named := ["internal/bytealg.MaxLen", "unicode/utf8.first", "unicode/utf8.acceptRanges"], apart := false, laid := [("unicode/utf8.acceptRanges", laid_unicode_utf8_acceptRanges), ("unicode/utf8.first", laid_unicode_utf8_first)], narrowed := true }
def ModfilePathsUptoSaid : Prop := modfilePathsUptoRow.holds Tryd.pinned (OpenSpec.upto modfilePathsSpec)

/-- 'cartularylaw22.ModfileBlanks', WHERE WHAT IT READS IS OF BULK AT MOST 1048576: true; the input reads as it did. -/
def modfileBlanksUptoRow : OpenClaim := { program := "ytgkjmmfpbcgmgaadoor", sum := "6ccf3ed56d6eabaa9e9c1fa4e6b1277df064bf3cdd7a3e81d9c6812e60bdedee", func := "cartulary/cartularylaw22.ModfileBlanks", spec := "modfileBlanks", inPlace := ["internal/bytealg.IndexByteString", "internal/bytealg.IndexString", "internal/bytealg.CountString"], unfollowed := true, recurses := true, named := ["internal/bytealg.MaxLen", "unicode/utf8.first", "unicode/utf8.acceptRanges"], apart := false, laid := [("unicode/utf8.acceptRanges", laid_unicode_utf8_acceptRanges), ("unicode/utf8.first", laid_unicode_utf8_first)], narrowed := true }
def ModfileBlanksUptoSaid : Prop := modfileBlanksUptoRow.holds Tryd.pinned (OpenSpec.upto modfileBlanksSpec)

/-- 'cartularylaw22.ModfileJoins', WHERE WHAT IT READS IS OF BULK AT MOST 1048576: true; the input reads as it did. -/
def modfileJoinsUptoRow : OpenClaim := { program := "ytgkjmmfpbcgmgaadoor", sum := "6ccf3ed56d6eabaa9e9c1fa4e6b1277df064bf3cdd7a3e81d9c6812e60bdedee", func := "cartulary/cartularylaw22.ModfileJoins", spec := "modfileJoins", inPlace := ["internal/bytealg.IndexByteString", "internal/bytealg.IndexString", "internal/bytealg.CountString"], unfollowed := true, recurses := true, named := ["internal/bytealg.MaxLen", "unicode/utf8.first", "unicode/utf8.acceptRanges"], apart := false, laid := [("unicode/utf8.acceptRanges", laid_unicode_utf8_acceptRanges), ("unicode/utf8.first", laid_unicode_utf8_first)], narrowed := true }
def ModfileJoinsUptoSaid : Prop := modfileJoinsUptoRow.holds Tryd.pinned (OpenSpec.upto modfileJoinsSpec)

/-- 'cartularylaw22.ModfileParents', WHERE WHAT IT READS IS OF BULK AT MOST 1048576: true; the input reads as it did. -/
def modfileParentsUptoRow : OpenClaim := { program := "ytgkjmmfpbcgmgaadoor", sum := "6ccf3ed56d6eabaa9e9c1fa4e6b1277df064bf3cdd7a3e81d9c6812e60bdedee", func := "cartulary/cartularylaw22.ModfileParents", spec := "modfileParents", inPlace := ["internal/bytealg.IndexByteString", "internal/bytealg.IndexString", "internal/bytealg.CountString"], unfollowed := true, recurses := true, named := ["internal/bytealg.MaxLen", "unicode/utf8.first", "unicode/utf8.acceptRanges"], apart := false, laid := [("unicode/utf8.acceptRanges", laid_unicode_utf8_acceptRanges), ("unicode/utf8.first", laid_unicode_utf8_first)], narrowed := true }
def ModfileParentsUptoSaid : Prop := modfileParentsUptoRow.holds Tryd.pinned (OpenSpec.upto modfileParentsSpec)

end Rows
end Go.Proofs.YtgkjmmfpbcgmgaaDoor
