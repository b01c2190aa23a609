/-
  NARROWER THAN 'FOR EVERY INPUT', by the rows' own cells (each row's printed sentence says how): SumsSums: laid · SumsParts: laid · SumsDigits: laid · SumsNumbers: laid · SumsBack: laid · SumsApart: laid.
  DERIVED. THE GIVEN ROWS OF THIS SEAT. 6 by the template 'for every input the law returns true; each argument reads behind the call as it read before'; 0 by the template 'total and deterministic' (their statements: YtbodjopdhciaeaaDoorTotals.lean).
  GIVEN WITH THE SEED: the statements are not yours to turn. If you find one false, say at which input.
  Laid BY PROGRAM, IN A SANDBOX (cutbox-rows.mjs): the forced cells as the released guide's own fill.sh prints them over the translation e83d8a8bae0baff2… (all of the seat's roots in one cut). By AI agents, Wed Nov 11 2026. No macro, syntax, notation, axiom, sorry.
-/
import Derived.Test.YtbodjopdhciaeaaDoorChecked
import GoSem.Claim
import GoSem.ClaimJoined
import GoSem.ClaimMapViews
import Derived.JoinedTies
import Derived.KernelRfl
namespace Go.Proofs.YtbodjopdhciaeaaDoor
/- THE CELL 'sum', in the pinned program and in every row, IS THE sha256 OF THE DUMP (.gsa) THAT YtbodjopdhciaeaaDoorProg.lean LOADS. Nothing in Lean hashes anything: it is a label: what it is worth is what the hold of that sum in a sandbox is worth. -/
noncomputable def Tryd.pinned : Pinned := { name := "ytbodjopdhciaeaadoor", sum := "e83d8a8bae0baff2e3d5a7307410becadb895a5e46260f192a3422d08260adfd", checked := Tryd.checked }
namespace Rows
def none {H : Type} : Left H := { results := [], args := [] }

/- WHAT THE LISTED PACKAGE-LEVEL VARIABLES READ AS WHEN THE CALL BEGINS. Each datum BY PROGRAM (the guide's laid-datum.mjs) off the statement by which the dump's own 'gosem.cut.vars' lays the variable. In a bare row this is a premise. The card (YtbodjopdhciaeaaDoorCards.lean) ties it to the program's text. -/
def laid_cartulary_sums_crcOfNibble {H : Type} : DataW H := .agg [.lit (.int .u32 0), .lit (.int .u32 498536548), .lit (.int .u32 997073096), .lit (.int .u32 651767980), .lit (.int .u32 1994146192), .lit (.int .u32 1802195444), .lit (.int .u32 1303535960), .lit (.int .u32 1342533948), .lit (.int .u32 3988292384), .lit (.int .u32 4027552580), .lit (.int .u32 3604390888), .lit (.int .u32 3412177804), .lit (.int .u32 2607071920), .lit (.int .u32 2262029012), .lit (.int .u32 2685067896), .lit (.int .u32 3183342108)]

/-- 'cartularylaw01.SumsSums': WHATEVER THE INPUT: true; the input reads as it did. -/
def sumsSumsSpec : ChangeSpec := { name := "sumsSums", fn := fun _ => fun
  | [d] => { results := [.lit (.bool true)], args := [d] }
  | _ => none }
def sumsSumsRow : OpenClaim := { program := "ytbodjopdhciaeaadoor", sum := "e83d8a8bae0baff2e3d5a7307410becadb895a5e46260f192a3422d08260adfd", func := "cartulary/cartularylaw01.SumsSums", spec := "sumsSums", named := ["cartulary/sums.crcOfNibble"], apart := false, laid := [("cartulary/sums.crcOfNibble", laid_cartulary_sums_crcOfNibble)] }
def SumsSumsSaid : Prop := sumsSumsRow.holds Tryd.pinned (OpenSpec.ofChange sumsSumsSpec)

/-- ITS FALSE NEIGHBOUR: 'it returns false'. Refute it at one input. -/
def sumsSumsWrong : ChangeSpec := { name := "sumsSums", fn := fun _ => fun
  | [d] => { results := [.lit (.bool false)], args := [d] }
  | _ => none }
def SumsSumsWrongFalsely : Prop := sumsSumsRow.holds Tryd.pinned (OpenSpec.ofChange sumsSumsWrong)

/-- 'cartularylaw01.SumsParts': WHATEVER THE INPUT: true; the input reads as it did. -/
def sumsPartsSpec : ChangeSpec := { name := "sumsParts", fn := fun _ => fun
  | [d] => { results := [.lit (.bool true)], args := [d] }
  | _ => none }
def sumsPartsRow : OpenClaim := { program := "ytbodjopdhciaeaadoor", sum := "e83d8a8bae0baff2e3d5a7307410becadb895a5e46260f192a3422d08260adfd", func := "cartulary/cartularylaw01.SumsParts", spec := "sumsParts", named := ["cartulary/sums.crcOfNibble"], apart := false, laid := [("cartulary/sums.crcOfNibble", laid_cartulary_sums_crcOfNibble)] }
def SumsPartsSaid : Prop := sumsPartsRow.holds Tryd.pinned (OpenSpec.ofChange sumsPartsSpec)

/-- ITS FALSE NEIGHBOUR: 'it returns false'. Refute it at one input. -/
def sumsPartsWrong : ChangeSpec := { name := "sumsParts", fn := fun _ => fun
  | [d] => { results := [.lit (.bool false)], args := [d] }
  | _ => none }
def SumsPartsWrongFalsely : Prop := sumsPartsRow.holds Tryd.pinned (OpenSpec.ofChange sumsPartsWrong)

/-- 'cartularylaw01.SumsDigits': WHATEVER THE INPUT: true; the input reads as it did. -/
def sumsDigitsSpec : ChangeSpec := { name := "sumsDigits", fn := fun _ => fun
  | [d1, d2] => { results := [.lit (.bool true)], args := [d1, d2] }
  | _ => none }
def sumsDigitsRow : OpenClaim := { program := "ytbodjopdhciaeaadoor", sum := "e83d8a8bae0baff2e3d5a7307410becadb895a5e46260f192a3422d08260adfd", func := "cartulary/cartularylaw01.SumsDigits", spec := "sumsDigits", named := ["cartulary/sums.crcOfNibble"], apart := false, laid := [("cartulary/sums.crcOfNibble", laid_cartulary_sums_crcOfNibble)] }
def SumsDigitsSaid : Prop := sumsDigitsRow.holds Tryd.pinned (OpenSpec.ofChange sumsDigitsSpec)

/-- ITS FALSE NEIGHBOUR: 'it returns false'. Refute it at one input. -/
def sumsDigitsWrong : ChangeSpec := { name := "sumsDigits", fn := fun _ => fun
  | [d1, d2] => { results := [.lit (.bool false)], args := [d1, d2] }
  | _ => none }
def SumsDigitsWrongFalsely : Prop := sumsDigitsRow.holds Tryd.pinned (OpenSpec.ofChange sumsDigitsWrong)

/-- 'cartularylaw01.SumsNumbers': WHATEVER THE INPUT: true; the input reads as it did. -/
def sumsNumbersSpec : ChangeSpec := { name := "sumsNumbers", fn := fun _ => fun
  | [d1, d2, d3] => { results := [.lit (.bool true)], args := [d1, d2, d3] }
  | _ => none }
def sumsNumbersRow : OpenClaim := { program := "ytbodjopdhciaeaadoor", sum := "e83d8a8bae0baff2e3d5a7307410becadb895a5e46260f192a3422d08260adfd", func := "cartulary/cartularylaw01.SumsNumbers", spec := "sumsNumbers", named := ["cartulary/sums.crcOfNibble"], apart := false, laid := [("cartulary/sums.crcOfNibble", laid_cartulary_sums_crcOfNibble)] }
def SumsNumbersSaid : Prop := sumsNumbersRow.holds Tryd.pinned (OpenSpec.ofChange sumsNumbersSpec)

/-- ITS FALSE NEIGHBOUR: 'it returns false'. Refute it at one input. -/
def sumsNumbersWrong : ChangeSpec := { name := "sumsNumbers", fn := fun _ => fun
  | [d1, d2, d3] => { results := [.lit (.bool false)], args := [d1, d2, d3] }
  | _ => none }
def SumsNumbersWrongFalsely : Prop := sumsNumbersRow.holds Tryd.pinned (OpenSpec.ofChange sumsNumbersWrong)

/-- 'cartularylaw01.SumsBack': WHATEVER THE INPUT: true; the input reads as it did. -/
def sumsBackSpec : ChangeSpec := { name := "sumsBack", fn := fun _ => fun
  | [d] => { results := [.lit (.bool true)], args := [d] }
  | _ => none }
def sumsBackRow : OpenClaim := { program := "ytbodjopdhciaeaadoor", sum := "e83d8a8bae0baff2e3d5a7307410becadb895a5e46260f192a3422d08260adfd", func := "cartulary/cartularylaw01.SumsBack", spec := "sumsBack", named := ["cartulary/sums.crcOfNibble"], apart := false, laid := [("cartulary/sums.crcOfNibble", laid_cartulary_sums_crcOfNibble)] }
def SumsBackSaid : Prop := sumsBackRow.holds Tryd.pinned (OpenSpec.ofChange sumsBackSpec)

/-- ITS FALSE NEIGHBOUR: 'it returns false'. Refute it at one input. -/
def sumsBackWrong : ChangeSpec := { name := "sumsBack", fn := fun _ => fun
  | [d] => { results := [.lit (.bool false)], args := [d] }
  | _ => none }
def SumsBackWrongFalsely : Prop := sumsBackRow.holds Tryd.pinned (OpenSpec.ofChange sumsBackWrong)

/-- 'cartularylaw01.SumsApart': WHATEVER THE INPUT: true; the input reads as it did. -/
def sumsApartSpec : ChangeSpec := { name := "sumsApart", fn := fun _ => fun
  | [d1, d2, d3] => { results := [.lit (.bool true)], args := [d1, d2, d3] }
  | _ => none }
def sumsApartRow : OpenClaim := { program := "ytbodjopdhciaeaadoor", sum := "e83d8a8bae0baff2e3d5a7307410becadb895a5e46260f192a3422d08260adfd", func := "cartulary/cartularylaw01.SumsApart", spec := "sumsApart", named := ["cartulary/sums.crcOfNibble"], apart := false, laid := [("cartulary/sums.crcOfNibble", laid_cartulary_sums_crcOfNibble)] }
def SumsApartSaid : Prop := sumsApartRow.holds Tryd.pinned (OpenSpec.ofChange sumsApartSpec)

/-- ITS FALSE NEIGHBOUR: 'it returns false'. Refute it at one input. -/
def sumsApartWrong : ChangeSpec := { name := "sumsApart", fn := fun _ => fun
  | [d1, d2, d3] => { results := [.lit (.bool false)], args := [d1, d2, d3] }
  | _ => none }
def SumsApartWrongFalsely : Prop := sumsApartRow.holds Tryd.pinned (OpenSpec.ofChange sumsApartWrong)

/- THE SECOND FORM. 'bulk': how many values and letters a reading holds, each counted each time it is reached (what is shared counts as often as it is met; a slice's spare places count too). A statement '..UptoSaid' is the law's where the arguments, and the package variables that the reading takes, are together of bulk at most 1048576: NARROWER than '..Said'. Prove '..Said' where nothing that the law and all that it calls make is longer than what came in: it says more and counts as full. Else prove '..UptoSaid'. A law counts once. -/
mutual
def uptoBulk {H : Type} : DataW H → Nat
  | .lit (.string bytes) => bytes.length + 1
  | .lit _ => 1
  | .nil => 1
  | .ptr d => uptoBulk d + 1
  | .slice elems spare => uptoBulkAll elems + uptoBulkAll spare + 1
  | .agg parts => uptoBulkAll parts + 1
  | .iface _ d => uptoBulk d + 1
  | .map entries => uptoBulkEntries entries + 1
  | .held _ => 1
def uptoBulkAll {H : Type} : List (DataW H) → Nat
  | [] => 0
  | d :: r => uptoBulk d + uptoBulkAll r
def uptoBulkEntries {H : Type} : List (Lit × DataW H) → Nat
  | [] => 0
  | x :: r => uptoBulkEntry x + uptoBulkEntries r
def uptoBulkEntry {H : Type} : Lit × DataW H → Nat
  | (.string bytes, d) => bytes.length + uptoBulk d + 1
  | (_, d) => uptoBulk d + 1
 end
def uptoSmall : (H : Type) → List (DataW H) → Bool := fun _ ds => decide (uptoBulkAll ds ≤ 1048576)
def OpenSpec.upto (s : _root_.Go.ChangeSpec) : _root_.Go.OpenSpec := { _root_.Go.OpenSpec.ofChange s with cond := some uptoSmall }

/-- 'cartularylaw01.SumsSums', WHERE WHAT IT READS IS OF BULK AT MOST 1048576: true; the input reads as it did. -/
def sumsSumsUptoRow : OpenClaim := { program := "ytbodjopdhciaeaadoor", sum := "e83d8a8bae0baff2e3d5a7307410becadb895a5e46260f192a3422d08260adfd", func := "cartulary/cartularylaw01.SumsSums", spec := "sumsSums", named := ["cartulary/sums.crcOfNibble"], apart := false, laid := [("cartulary/sums.crcOfNibble", laid_cartulary_sums_crcOfNibble)], narrowed := true }
def SumsSumsUptoSaid : Prop := sumsSumsUptoRow.holds Tryd.pinned (OpenSpec.upto sumsSumsSpec)

/-- 'cartularylaw01.SumsParts', WHERE WHAT IT READS IS OF BULK AT MOST 1048576: true; the input reads as it did. -/
def sumsPartsUptoRow : OpenClaim := { program := "ytbodjopdhciaeaadoor", sum := "e83d8a8bae0baff2e3d5a7307410becadb895a5e46260f192a3422d08260adfd", func := "cartulary/cartularylaw01.SumsParts", spec := "sumsParts", named := ["cartulary/sums.crcOfNibble"], apart := false, laid := [("cartulary/sums.crcOfNibble", laid_cartulary_sums_crcOfNibble)], narrowed := true }
def SumsPartsUptoSaid : Prop := sumsPartsUptoRow.holds Tryd.pinned (OpenSpec.upto sumsPartsSpec)

/-- 'cartularylaw01.SumsDigits', WHERE WHAT IT READS IS OF BULK AT MOST 1048576: true; the input reads as it did. -/
def sumsDigitsUptoRow : OpenClaim := { program := "ytbodjopdhciaeaadoor", sum := "e83d8a8bae0baff2e3d5a7307410becadb895a5e46260f192a3422d08260adfd", func := "cartulary/cartularylaw01.SumsDigits", spec := "sumsDigits", named := ["cartulary/sums.crcOfNibble"], apart := false, laid := [("cartulary/sums.crcOfNibble", laid_cartulary_sums_crcOfNibble)], narrowed := true }
def SumsDigitsUptoSaid : Prop := sumsDigitsUptoRow.holds Tryd.pinned (OpenSpec.upto sumsDigitsSpec)

/-- 'cartularylaw01.SumsNumbers', WHERE WHAT IT READS IS OF BULK AT MOST 1048576: true; the input reads as it did. -/
def sumsNumbersUptoRow : OpenClaim := { program := "ytbodjopdhciaeaadoor", sum := "e83d8a8bae0baff2e3d5a7307410becadb895a5e46260f192a3422d08260adfd", func := "cartulary/cartularylaw01.SumsNumbers", spec := "sumsNumbers", named := ["cartulary/sums.crcOfNibble"], apart := false, laid := [("cartulary/sums.crcOfNibble", laid_cartulary_sums_crcOfNibble)], narrowed := true }
def SumsNumbersUptoSaid : Prop := sumsNumbersUptoRow.holds Tryd.pinned (OpenSpec.upto sumsNumbersSpec)

/-- 'cartularylaw01.SumsBack', WHERE WHAT IT READS IS OF BULK AT MOST 1048576: true; the input reads as it did. -/
def sumsBackUptoRow : OpenClaim := { program := "ytbodjopdhciaeaadoor", sum := "e83d8a8bae0baff2e3d5a7307410becadb895a5e46260f192a3422d08260adfd", func := "cartulary/cartularylaw01.SumsBack", spec := "sumsBack", named := ["cartulary/sums.crcOfNibble"], apart := false, laid := [("cartulary/sums.crcOfNibble", laid_cartulary_sums_crcOfNibble)], narrowed := true }
def SumsBackUptoSaid : Prop := sumsBackUptoRow.holds Tryd.pinned (OpenSpec.upto sumsBackSpec)

/-- 'cartularylaw01.SumsApart', WHERE WHAT IT READS IS OF BULK AT MOST 1048576: true; the input reads as it did. -/
def sumsApartUptoRow : OpenClaim := { program := "ytbodjopdhciaeaadoor", sum := "e83d8a8bae0baff2e3d5a7307410becadb895a5e46260f192a3422d08260adfd", func := "cartulary/cartularylaw01.SumsApart", spec := "sumsApart", named := ["cartulary/sums.crcOfNibble"], apart := false, laid := [("cartulary/sums.crcOfNibble", laid_cartulary_sums_crcOfNibble)], narrowed := true }
def SumsApartUptoSaid : Prop := sumsApartUptoRow.holds Tryd.pinned (OpenSpec.upto sumsApartSpec)

end Rows
end Go.Proofs.YtbodjopdhciaeaaDoor
