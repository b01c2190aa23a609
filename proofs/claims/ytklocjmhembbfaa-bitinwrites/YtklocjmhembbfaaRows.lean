/-
  No cell of these rows narrows 'for every input' (looked for: loops, veiled, ifaces, maps, wideKeys, modest, calm, conditions, laid).
  DERIVED. THE GIVEN ROWS OF THIS SEAT. 6 by the template 'for every input the law returns true; each argument reads behind the call as it read before'; 0 by the template 'total and deterministic' (their statements: YtklocjmhembbfaaTotals.lean).
  GIVEN WITH THE SEED: the statements are not yours to turn. If you find one false, say at which input.
  Laid BY PROGRAM, IN A SANDBOX (cutbox-rows.mjs): the forced cells as the released guide's own fill.sh prints them over the translation 5392f3cdefab0f4c… (all of the seat's roots in one cut). By AI agents, Wed Nov 11 2026. No macro, syntax, notation, axiom, sorry.
-/
import Derived.Test.YtklocjmhembbfaaChecked
import GoSem.Claim
import GoSem.ClaimJoined
import GoSem.ClaimMapViews
import Derived.JoinedTies
import Derived.KernelRfl
namespace Go.Proofs.Ytklocjmhembbfaa
/- THE CELL 'sum', in the pinned program and in every row, IS THE sha256 OF THE DUMP (.gsa) THAT YtklocjmhembbfaaProg.lean LOADS. Nothing in Lean hashes anything: it is a label: what it is worth is what the hold of that sum in a sandbox is worth. -/
noncomputable def Try.pinned : Pinned := { name := "ytklocjmhembbfaa", sum := "5392f3cdefab0f4c3da2f79dd791e712f0532d6a196bd9621fffa6e7516d8727", checked := Try.checked }
namespace Rows
def none {H : Type} : Left H := { results := [], args := [] }

/-- 'cartularylaw03.BitinReads': WHATEVER THE INPUT: true; the input reads as it did. -/
def bitinReadsSpec : ChangeSpec := { name := "bitinReads", fn := fun _ => fun
  | [d1, d2, d3] => { results := [.lit (.bool true)], args := [d1, d2, d3] }
  | _ => none }
def bitinReadsRow : OpenClaim := { program := "ytklocjmhembbfaa", sum := "5392f3cdefab0f4c3da2f79dd791e712f0532d6a196bd9621fffa6e7516d8727", func := "cartulary/cartularylaw03.BitinReads", spec := "bitinReads", apart := false }
def BitinReadsSaid : Prop := bitinReadsRow.holds Try.pinned (OpenSpec.ofChange bitinReadsSpec)

/-- ITS FALSE NEIGHBOUR: 'it returns false'. Refute it at one input. -/
def bitinReadsWrong : ChangeSpec := { name := "bitinReads", fn := fun _ => fun
  | [d1, d2, d3] => { results := [.lit (.bool false)], args := [d1, d2, d3] }
  | _ => none }
def BitinReadsWrongFalsely : Prop := bitinReadsRow.holds Try.pinned (OpenSpec.ofChange bitinReadsWrong)

/-- 'cartularylaw03.BitinWrites': WHATEVER THE INPUT: true; the input reads as it did. -/
def bitinWritesSpec : ChangeSpec := { name := "bitinWrites", fn := fun _ => fun
  | [d] => { results := [.lit (.bool true)], args := [d] }
  | _ => none }
def bitinWritesRow : OpenClaim := { program := "ytklocjmhembbfaa", sum := "5392f3cdefab0f4c3da2f79dd791e712f0532d6a196bd9621fffa6e7516d8727", func := "cartulary/cartularylaw03.BitinWrites", spec := "bitinWrites", apart := false }
def BitinWritesSaid : Prop := bitinWritesRow.holds Try.pinned (OpenSpec.ofChange bitinWritesSpec)

/-- ITS FALSE NEIGHBOUR: 'it returns false'. Refute it at one input. -/
def bitinWritesWrong : ChangeSpec := { name := "bitinWrites", fn := fun _ => fun
  | [d] => { results := [.lit (.bool false)], args := [d] }
  | _ => none }
def BitinWritesWrongFalsely : Prop := bitinWritesRow.holds Try.pinned (OpenSpec.ofChange bitinWritesWrong)

/-- 'cartularylaw03.BitinBack': WHATEVER THE INPUT: true; the input reads as it did. -/
def bitinBackSpec : ChangeSpec := { name := "bitinBack", fn := fun _ => fun
  | [d1, d2] => { results := [.lit (.bool true)], args := [d1, d2] }
  | _ => none }
def bitinBackRow : OpenClaim := { program := "ytklocjmhembbfaa", sum := "5392f3cdefab0f4c3da2f79dd791e712f0532d6a196bd9621fffa6e7516d8727", func := "cartulary/cartularylaw03.BitinBack", spec := "bitinBack", apart := false }
def BitinBackSaid : Prop := bitinBackRow.holds Try.pinned (OpenSpec.ofChange bitinBackSpec)

/-- ITS FALSE NEIGHBOUR: 'it returns false'. Refute it at one input. -/
def bitinBackWrong : ChangeSpec := { name := "bitinBack", fn := fun _ => fun
  | [d1, d2] => { results := [.lit (.bool false)], args := [d1, d2] }
  | _ => none }
def BitinBackWrongFalsely : Prop := bitinBackRow.holds Try.pinned (OpenSpec.ofChange bitinBackWrong)

/-- 'cartularylaw03.BitinPeeks': WHATEVER THE INPUT: true; the input reads as it did. -/
def bitinPeeksSpec : ChangeSpec := { name := "bitinPeeks", fn := fun _ => fun
  | [d1, d2] => { results := [.lit (.bool true)], args := [d1, d2] }
  | _ => none }
def bitinPeeksRow : OpenClaim := { program := "ytklocjmhembbfaa", sum := "5392f3cdefab0f4c3da2f79dd791e712f0532d6a196bd9621fffa6e7516d8727", func := "cartulary/cartularylaw03.BitinPeeks", spec := "bitinPeeks", apart := false }
def BitinPeeksSaid : Prop := bitinPeeksRow.holds Try.pinned (OpenSpec.ofChange bitinPeeksSpec)

/-- ITS FALSE NEIGHBOUR: 'it returns false'. Refute it at one input. -/
def bitinPeeksWrong : ChangeSpec := { name := "bitinPeeks", fn := fun _ => fun
  | [d1, d2] => { results := [.lit (.bool false)], args := [d1, d2] }
  | _ => none }
def BitinPeeksWrongFalsely : Prop := bitinPeeksRow.holds Try.pinned (OpenSpec.ofChange bitinPeeksWrong)

/-- 'cartularylaw04.HuffCodes': WHATEVER THE INPUT: true; the input reads as it did. -/
def huffCodesSpec : ChangeSpec := { name := "huffCodes", fn := fun _ => fun
  | [d] => { results := [.lit (.bool true)], args := [d] }
  | _ => none }
def huffCodesRow : OpenClaim := { program := "ytklocjmhembbfaa", sum := "5392f3cdefab0f4c3da2f79dd791e712f0532d6a196bd9621fffa6e7516d8727", func := "cartulary/cartularylaw04.HuffCodes", spec := "huffCodes", apart := false }
def HuffCodesSaid : Prop := huffCodesRow.holds Try.pinned (OpenSpec.ofChange huffCodesSpec)

/-- ITS FALSE NEIGHBOUR: 'it returns false'. Refute it at one input. -/
def huffCodesWrong : ChangeSpec := { name := "huffCodes", fn := fun _ => fun
  | [d] => { results := [.lit (.bool false)], args := [d] }
  | _ => none }
def HuffCodesWrongFalsely : Prop := huffCodesRow.holds Try.pinned (OpenSpec.ofChange huffCodesWrong)

/-- 'cartularylaw04.HuffReads': WHATEVER THE INPUT: true; the input reads as it did. -/
def huffReadsSpec : ChangeSpec := { name := "huffReads", fn := fun _ => fun
  | [d1, d2] => { results := [.lit (.bool true)], args := [d1, d2] }
  | _ => none }
def huffReadsRow : OpenClaim := { program := "ytklocjmhembbfaa", sum := "5392f3cdefab0f4c3da2f79dd791e712f0532d6a196bd9621fffa6e7516d8727", func := "cartulary/cartularylaw04.HuffReads", spec := "huffReads", apart := false }
def HuffReadsSaid : Prop := huffReadsRow.holds Try.pinned (OpenSpec.ofChange huffReadsSpec)

/-- ITS FALSE NEIGHBOUR: 'it returns false'. Refute it at one input. -/
def huffReadsWrong : ChangeSpec := { name := "huffReads", fn := fun _ => fun
  | [d1, d2] => { results := [.lit (.bool false)], args := [d1, d2] }
  | _ => none }
def HuffReadsWrongFalsely : Prop := huffReadsRow.holds Try.pinned (OpenSpec.ofChange huffReadsWrong)

/- THE SECOND FORM. 'bulk': how many values and letters a reading holds, each counted each time it is reached (what is shared counts as often as it is met; a slice's spare places count too). A statement '..UptoSaid' is the law's where the arguments, and the package variables that the reading takes, are together of bulk at most 1048576: NARROWER than '..Said'. Prove '..Said' where nothing that the law and all that it calls make is longer than what came in: it says more and counts as full. Else prove '..UptoSaid'. A law counts once. -/
mutual
def uptoBulk {H : Type} : DataW H → Nat
  | .lit (.string bytes) => bytes.length + 1
  | .lit _ => 1
  | .nil => 1
  | .ptr d => uptoBulk d + 1
  | .slice elems spare => uptoBulkAll elems + uptoBulkAll spare + 1
  | .agg parts => uptoBulkAll parts + 1
  | .iface _ d => uptoBulk d + 1
  | .map entries => uptoBulkEntries entries + 1
  | .held _ => 1
def uptoBulkAll {H : Type} : List (DataW H) → Nat
  | [] => 0
  | d :: r => uptoBulk d + uptoBulkAll r
def uptoBulkEntries {H : Type} : List (Lit × DataW H) → Nat
  | [] => 0
  | x :: r => uptoBulkEntry x + uptoBulkEntries r
def uptoBulkEntry {H : Type} : Lit × DataW H → Nat
  | (.string bytes, d) => bytes.length + uptoBulk d + 1
  | (_, d) => uptoBulk d + 1
 end
def uptoSmall : (H : Type) → List (DataW H) → Bool := fun _ ds => decide (uptoBulkAll ds ≤ 1048576)
def OpenSpec.upto (s : _root_.Go.ChangeSpec) : _root_.Go.OpenSpec := { _root_.Go.OpenSpec.ofChange s with cond := some uptoSmall }

/-- 'cartularylaw03.BitinReads', WHERE WHAT IT READS IS OF BULK AT MOST 1048576: true; the input reads as it did. -/
def bitinReadsUptoRow : OpenClaim := { program := "ytklocjmhembbfaa", sum := "5392f3cdefab0f4c3da2f79dd791e712f0532d6a196bd9621fffa6e7516d8727", func := "cartulary/cartularylaw03.BitinReads", spec := "bitinReads", apart := false, narrowed := true }
def BitinReadsUptoSaid : Prop := bitinReadsUptoRow.holds Try.pinned (OpenSpec.upto bitinReadsSpec)

/-- 'cartularylaw03.BitinWrites', WHERE WHAT IT READS IS OF BULK AT MOST 1048576: true; the input reads as it did. -/
def bitinWritesUptoRow : OpenClaim := { program := "ytklocjmhembbfaa", sum := "5392f3cdefab0f4c3da2f79dd791e712f0532d6a196bd9621fffa6e7516d8727", func := "cartulary/cartularylaw03.BitinWrites", spec := "bitinWrites", apart := false, narrowed := true }
def BitinWritesUptoSaid : Prop := bitinWritesUptoRow.holds Try.pinned (OpenSpec.upto bitinWritesSpec)

/-- 'cartularylaw03.BitinBack', WHERE WHAT IT READS IS OF BULK AT MOST 1048576: true; the input reads as it did. -/
def bitinBackUptoRow : OpenClaim := { program := "ytklocjmhembbfaa", sum := "5392f3cdefab0f4c3da2f79dd791e712f0532d6a196bd9621fffa6e7516d8727", func := "cartulary/cartularylaw03.BitinBack", spec := "bitinBack", apart := false, narrowed := true }
def BitinBackUptoSaid : Prop := bitinBackUptoRow.holds Try.pinned (OpenSpec.upto bitinBackSpec)

/-- 'cartularylaw03.BitinPeeks', WHERE WHAT IT READS IS OF BULK AT MOST 1048576: true; the input reads as it did. -/
def bitinPeeksUptoRow : OpenClaim := { program := "ytklocjmhembbfaa", sum := "5392f3cdefab0f4c3da2f79dd791e712f0532d6a196bd9621fffa6e7516d8727", func := "cartulary/cartularylaw03.BitinPeeks", spec := "bitinPeeks", apart := false, narrowed := true }
def BitinPeeksUptoSaid : Prop := bitinPeeksUptoRow.holds Try.pinned (OpenSpec.upto bitinPeeksSpec)

/-- 'cartularylaw04.HuffCodes', WHERE WHAT IT READS IS OF BULK AT MOST 1048576: true; the input reads as it did. -/
def huffCodesUptoRow : OpenClaim := { program := "ytklocjmhembbfaa", sum := "5392f3cdefab0f4c3da2f79dd791e712f0532d6a196bd9621fffa6e7516d8727", func := "cartulary/cartularylaw04.HuffCodes", spec := "huffCodes", apart := false, narrowed := true }
def HuffCodesUptoSaid : Prop := huffCodesUptoRow.holds Try.pinned (OpenSpec.upto huffCodesSpec)

/-- 'cartularylaw04.HuffReads', WHERE WHAT IT READS IS OF BULK AT MOST 1048576: true; the input reads as it did. -/
def huffReadsUptoRow : OpenClaim := { program := "ytklocjmhembbfaa", sum := "5392f3cdefab0f4c3da2f79dd791e712f0532d6a196bd9621fffa6e7516d8727", func := "cartulary/cartularylaw04.HuffReads", spec := "huffReads", apart := false, narrowed := true }
def HuffReadsUptoSaid : Prop := huffReadsUptoRow.holds Try.pinned (OpenSpec.upto huffReadsSpec)

end Rows
end Go.Proofs.Ytklocjmhembbfaa
