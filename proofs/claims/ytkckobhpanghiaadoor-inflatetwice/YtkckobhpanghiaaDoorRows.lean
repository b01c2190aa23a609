/-
  NARROWER THAN 'FOR EVERY INPUT', by the rows' own cells (each row's printed sentence says how): InflateReads: laid · InflateWrites: laid · InflateInside: laid · InflateBegins: laid · InflateLimits: laid · InflateTwice: laid · ZlibReads: laid · ZlibWrites: laid · ZlibAround: laid · ZlibHeads: laid · CartularyFrames: laid.
  DERIVED. THE GIVEN ROWS OF THIS SEAT. 11 by the template 'for every input the law returns true; each argument reads behind the call as it read before'; 0 by the template 'total and deterministic' (their statements: YtkckobhpanghiaaDoorTotals.lean).
  GIVEN WITH THE SEED: the statements are not yours to turn. If you find one false, say at which input.
  Laid BY PROGRAM, IN A SANDBOX (cutbox-rows.mjs): the forced cells as the released guide's own fill.sh prints them over the translation 09fdc85770f11ba4… (all of the seat's roots in one cut). By AI agents, Wed Nov 11 2026. No macro, syntax, notation, axiom, sorry.
-/
import Derived.Test.YtkckobhpanghiaaDoorChecked
import GoSem.Claim
import GoSem.ClaimJoined
import GoSem.ClaimMapViews
import Derived.JoinedTies
import Derived.KernelRfl
namespace Go.Proofs.YtkckobhpanghiaaDoor
/- THE CELL 'sum', in the pinned program and in every row, IS THE sha256 OF THE DUMP (.gsa) THAT YtkckobhpanghiaaDoorProg.lean LOADS. Nothing in Lean hashes anything: it is a label: what it is worth is what the hold of that sum in a sandbox is worth. -/
noncomputable def Tryd.pinned : Pinned := { name := "ytkckobhpanghiaadoor", sum := "09fdc85770f11ba44ee9853f3cb42db36f9bc48a51e5829390b652e113c8d997", checked := Tryd.checked }
namespace Rows
def none {H : Type} : Left H := { results := [], args := [] }

/- WHAT THE LISTED PACKAGE-LEVEL VARIABLES READ AS WHEN THE CALL BEGINS. Each datum BY PROGRAM (the guide's laid-datum.mjs) off the statement by which the dump's own 'gosem.cut.vars' lays the variable. In a bare row this is a premise. The card (YtkckobhpanghiaaDoorCards.lean) ties it to the program's text. -/
def laid_cartulary_inflate_firstOrder {H : Type} : DataW H := .agg [.lit (.int .i64 16), .lit (.int .i64 17), .lit (.int .i64 18), .lit (.int .i64 0), .lit (.int .i64 8), .lit (.int .i64 7), .lit (.int .i64 9), .lit (.int .i64 6), .lit (.int .i64 10), .lit (.int .i64 5), .lit (.int .i64 11), .lit (.int .i64 4), .lit (.int .i64 12), .lit (.int .i64 3), .lit (.int .i64 13), .lit (.int .i64 2), .lit (.int .i64 14), .lit (.int .i64 1), .lit (.int .i64 15)]

/-- 'cartularylaw05.InflateReads': WHATEVER THE INPUT: true; the input reads as it did. -/
def inflateReadsSpec : ChangeSpec := { name := "inflateReads", fn := fun _ => fun
  | [d1, d2, d3] => { results := [.lit (.bool true)], args := [d1, d2, d3] }
  | _ => none }
def inflateReadsRow : OpenClaim := { program := "ytkckobhpanghiaadoor", sum := "09fdc85770f11ba44ee9853f3cb42db36f9bc48a51e5829390b652e113c8d997", func := "cartulary/cartularylaw05.InflateReads", spec := "inflateReads", named := ["cartulary/inflate.firstOrder"], plainKeys := false, apart := false, laid := [("cartulary/inflate.firstOrder", laid_cartulary_inflate_firstOrder)] }
def InflateReadsSaid : Prop := inflateReadsRow.holds Tryd.pinned (OpenSpec.ofChange inflateReadsSpec)

/-- ITS FALSE NEIGHBOUR: 'it returns false'. Refute it at one input. -/
def inflateReadsWrong : ChangeSpec := { name := "inflateReads", fn := fun _ => fun
  | [d1, d2, d3] => { results := [.lit (.bool false)], args := [d1, d2, d3] }
  | _ => none }
def InflateReadsWrongFalsely : Prop := inflateReadsRow.holds Tryd.pinned (OpenSpec.ofChange inflateReadsWrong)

/-- 'cartularylaw05.InflateWrites': WHATEVER THE INPUT: true; the input reads as it did. -/
def inflateWritesSpec : ChangeSpec := { name := "inflateWrites", fn := fun _ => fun
  | [d] => { results := [.lit (.bool true)], args := [d] }
  | _ => none }
def inflateWritesRow : OpenClaim := { program := "ytkckobhpanghiaadoor", sum := "09fdc85770f11ba44ee9853f3cb42db36f9bc48a51e5829390b652e113c8d997", func := "cartulary/cartularylaw05.InflateWrites", spec := "inflateWrites", named := ["cartulary/inflate.firstOrder"], plainKeys := false, apart := false, laid := [("cartulary/inflate.firstOrder", laid_cartulary_inflate_firstOrder)] }
def InflateWritesSaid : Prop := inflateWritesRow.holds Tryd.pinned (OpenSpec.ofChange inflateWritesSpec)

/-- ITS FALSE NEIGHBOUR: 'it returns false'. Refute it at one input. -/
def inflateWritesWrong : ChangeSpec := { name := "inflateWrites", fn := fun _ => fun
  | [d] => { results := [.lit (.bool false)], args := [d] }
  | _ => none }
def InflateWritesWrongFalsely : Prop := inflateWritesRow.holds Tryd.pinned (OpenSpec.ofChange inflateWritesWrong)

/-- 'cartularylaw05.InflateInside': WHATEVER THE INPUT: true; the input reads as it did. -/
def inflateInsideSpec : ChangeSpec := { name := "inflateInside", fn := fun _ => fun
  | [d1, d2, d3] => { results := [.lit (.bool true)], args := [d1, d2, d3] }
  | _ => none }
def inflateInsideRow : OpenClaim := { program := "ytkckobhpanghiaadoor", sum := "09fdc85770f11ba44ee9853f3cb42db36f9bc48a51e5829390b652e113c8d997", func := "cartulary/cartularylaw05.InflateInside", spec := "inflateInside", named := ["cartulary/inflate.firstOrder"], plainKeys := false, apart := false, laid := [("cartulary/inflate.firstOrder", laid_cartulary_inflate_firstOrder)] }
def InflateInsideSaid : Prop := inflateInsideRow.holds Tryd.pinned (OpenSpec.ofChange inflateInsideSpec)

/-- ITS FALSE NEIGHBOUR: 'it returns false'. Refute it at one input. -/
def inflateInsideWrong : ChangeSpec := { name := "inflateInside", fn := fun _ => fun
  | [d1, d2, d3] => { results := [.lit (.bool false)], args := [d1, d2, d3] }
  | _ => none }
def InflateInsideWrongFalsely : Prop := inflateInsideRow.holds Tryd.pinned (OpenSpec.ofChange inflateInsideWrong)

/-- 'cartularylaw05.InflateBegins': WHATEVER THE INPUT: true; the input reads as it did. -/
def inflateBeginsSpec : ChangeSpec := { name := "inflateBegins", fn := fun _ => fun
  | [d1, d2, d3] => { results := [.lit (.bool true)], args := [d1, d2, d3] }
  | _ => none }
def inflateBeginsRow : OpenClaim := { program := "ytkckobhpanghiaadoor", sum := "09fdc85770f11ba44ee9853f3cb42db36f9bc48a51e5829390b652e113c8d997", func := "cartulary/cartularylaw05.InflateBegins", spec := "inflateBegins", named := ["cartulary/inflate.firstOrder"], plainKeys := false, apart := false, laid := [("cartulary/inflate.firstOrder", laid_cartulary_inflate_firstOrder)] }
def InflateBeginsSaid : Prop := inflateBeginsRow.holds Tryd.pinned (OpenSpec.ofChange inflateBeginsSpec)

/-- ITS FALSE NEIGHBOUR: 'it returns false'. Refute it at one input. -/
def inflateBeginsWrong : ChangeSpec := { name := "inflateBegins", fn := fun _ => fun
  | [d1, d2, d3] => { results := [.lit (.bool false)], args := [d1, d2, d3] }
  | _ => none }
def InflateBeginsWrongFalsely : Prop := inflateBeginsRow.holds Tryd.pinned (OpenSpec.ofChange inflateBeginsWrong)

/-- 'cartularylaw05.InflateLimits': WHATEVER THE INPUT: true; the input reads as it did. -/
def inflateLimitsSpec : ChangeSpec := { name := "inflateLimits", fn := fun _ => fun
  | [d1, d2, d3] => { results := [.lit (.bool true)], args := [d1, d2, d3] }
  | _ => none }
def inflateLimitsRow : OpenClaim := { program := "ytkckobhpanghiaadoor", sum := "09fdc85770f11ba44ee9853f3cb42db36f9bc48a51e5829390b652e113c8d997", func := "cartulary/cartularylaw05.InflateLimits", spec := "inflateLimits", named := ["cartulary/inflate.firstOrder"], plainKeys := false, apart := false, laid := [("cartulary/inflate.firstOrder", laid_cartulary_inflate_firstOrder)] }
def InflateLimitsSaid : Prop := inflateLimitsRow.holds Tryd.pinned (OpenSpec.ofChange inflateLimitsSpec)

/-- ITS FALSE NEIGHBOUR: 'it returns false'. Refute it at one input. -/
def inflateLimitsWrong : ChangeSpec := { name := "inflateLimits", fn := fun _ => fun
  | [d1, d2, d3] => { results := [.lit (.bool false)], args := [d1, d2, d3] }
  | _ => none }
def InflateLimitsWrongFalsely : Prop := inflateLimitsRow.holds Tryd.pinned (OpenSpec.ofChange inflateLimitsWrong)

/-- 'cartularylaw05.InflateTwice': WHATEVER THE INPUT: true; the input reads as it did. -/
def inflateTwiceSpec : ChangeSpec := { name := "inflateTwice", fn := fun _ => fun
  | [d1, d2] => { results := [.lit (.bool true)], args := [d1, d2] }
  | _ => none }
def inflateTwiceRow : OpenClaim := { program := "ytkckobhpanghiaadoor", sum := "09fdc85770f11ba44ee9853f3cb42db36f9bc48a51e5829390b652e113c8d997", func := "cartulary/cartularylaw05.InflateTwice", spec := "inflateTwice", named := ["cartulary/inflate.firstOrder"], plainKeys := false, apart := false, laid := [("cartulary/inflate.firstOrder", laid_cartulary_inflate_firstOrder)] }
def InflateTwiceSaid : Prop := inflateTwiceRow.holds Tryd.pinned (OpenSpec.ofChange inflateTwiceSpec)

/-- ITS FALSE NEIGHBOUR: 'it returns false'. Refute it at one input. -/
def inflateTwiceWrong : ChangeSpec := { name := "inflateTwice", fn := fun _ => fun
  | [d1, d2] => { results := [.lit (.bool false)], args := [d1, d2] }
  | _ => none }
def InflateTwiceWrongFalsely : Prop := inflateTwiceRow.holds Tryd.pinned (OpenSpec.ofChange inflateTwiceWrong)

/-- 'cartularylaw06.ZlibReads': WHATEVER THE INPUT: true; the input reads as it did. -/
def zlibReadsSpec : ChangeSpec := { name := "zlibReads", fn := fun _ => fun
  | [d1, d2, d3, d4, d5] => { results := [.lit (.bool true)], args := [d1, d2, d3, d4, d5] }
  | _ => none }
def zlibReadsRow : OpenClaim := { program := "ytkckobhpanghiaadoor", sum := "09fdc85770f11ba44ee9853f3cb42db36f9bc48a51e5829390b652e113c8d997", func := "cartulary/cartularylaw06.ZlibReads", spec := "zlibReads", named := ["cartulary/inflate.firstOrder"], plainKeys := false, apart := false, laid := [("cartulary/inflate.firstOrder", laid_cartulary_inflate_firstOrder)] }
def ZlibReadsSaid : Prop := zlibReadsRow.holds Tryd.pinned (OpenSpec.ofChange zlibReadsSpec)

/-- ITS FALSE NEIGHBOUR: 'it returns false'. Refute it at one input. -/
def zlibReadsWrong : ChangeSpec := { name := "zlibReads", fn := fun _ => fun
  | [d1, d2, d3, d4, d5] => { results := [.lit (.bool false)], args := [d1, d2, d3, d4, d5] }
  | _ => none }
def ZlibReadsWrongFalsely : Prop := zlibReadsRow.holds Tryd.pinned (OpenSpec.ofChange zlibReadsWrong)

/-- 'cartularylaw06.ZlibWrites': WHATEVER THE INPUT: true; the input reads as it did. -/
def zlibWritesSpec : ChangeSpec := { name := "zlibWrites", fn := fun _ => fun
  | [d1, d2, d3, d4] => { results := [.lit (.bool true)], args := [d1, d2, d3, d4] }
  | _ => none }
def zlibWritesRow : OpenClaim := { program := "ytkckobhpanghiaadoor", sum := "09fdc85770f11ba44ee9853f3cb42db36f9bc48a51e5829390b652e113c8d997", func := "cartulary/cartularylaw06.ZlibWrites", spec := "zlibWrites", named := ["cartulary/inflate.firstOrder"], plainKeys := false, apart := false, laid := [("cartulary/inflate.firstOrder", laid_cartulary_inflate_firstOrder)] }
def ZlibWritesSaid : Prop := zlibWritesRow.holds Tryd.pinned (OpenSpec.ofChange zlibWritesSpec)

/-- ITS FALSE NEIGHBOUR: 'it returns false'. Refute it at one input. -/
def zlibWritesWrong : ChangeSpec := { name := "zlibWrites", fn := fun _ => fun
  | [d1, d2, d3, d4] => { results := [.lit (.bool false)], args := [d1, d2, d3, d4] }
  | _ => none }
def ZlibWritesWrongFalsely : Prop := zlibWritesRow.holds Tryd.pinned (OpenSpec.ofChange zlibWritesWrong)

/-- 'cartularylaw06.ZlibAround': WHATEVER THE INPUT: true; the input reads as it did. -/
def zlibAroundSpec : ChangeSpec := { name := "zlibAround", fn := fun _ => fun
  | [d1, d2] => { results := [.lit (.bool true)], args := [d1, d2] }
  | _ => none }
def zlibAroundRow : OpenClaim := { program := "ytkckobhpanghiaadoor", sum := "09fdc85770f11ba44ee9853f3cb42db36f9bc48a51e5829390b652e113c8d997", func := "cartulary/cartularylaw06.ZlibAround", spec := "zlibAround", named := ["cartulary/inflate.firstOrder"], plainKeys := false, apart := false, laid := [("cartulary/inflate.firstOrder", laid_cartulary_inflate_firstOrder)] }
def ZlibAroundSaid : Prop := zlibAroundRow.holds Tryd.pinned (OpenSpec.ofChange zlibAroundSpec)

/-- ITS FALSE NEIGHBOUR: 'it returns false'. Refute it at one input. -/
def zlibAroundWrong : ChangeSpec := { name := "zlibAround", fn := fun _ => fun
  | [d1, d2] => { results := [.lit (.bool false)], args := [d1, d2] }
  | _ => none }
def ZlibAroundWrongFalsely : Prop := zlibAroundRow.holds Tryd.pinned (OpenSpec.ofChange zlibAroundWrong)

/-- 'cartularylaw06.ZlibHeads': WHATEVER THE INPUT: true; the input reads as it did. -/
def zlibHeadsSpec : ChangeSpec := { name := "zlibHeads", fn := fun _ => fun
  | [d] => { results := [.lit (.bool true)], args := [d] }
  | _ => none }
def zlibHeadsRow : OpenClaim := { program := "ytkckobhpanghiaadoor", sum := "09fdc85770f11ba44ee9853f3cb42db36f9bc48a51e5829390b652e113c8d997", func := "cartulary/cartularylaw06.ZlibHeads", spec := "zlibHeads", named := ["cartulary/inflate.firstOrder"], plainKeys := false, apart := false, laid := [("cartulary/inflate.firstOrder", laid_cartulary_inflate_firstOrder)] }
def ZlibHeadsSaid : Prop := zlibHeadsRow.holds Tryd.pinned (OpenSpec.ofChange zlibHeadsSpec)

/-- ITS FALSE NEIGHBOUR: 'it returns false'. Refute it at one input. -/
def zlibHeadsWrong : ChangeSpec := { name := "zlibHeads", fn := fun _ => fun
  | [d] => { results := [.lit (.bool false)], args := [d] }
  | _ => none }
def ZlibHeadsWrongFalsely : Prop := zlibHeadsRow.holds Tryd.pinned (OpenSpec.ofChange zlibHeadsWrong)

/-- 'cartularytop.CartularyFrames': WHATEVER THE INPUT: true; the input reads as it did. -/
def cartularyFramesSpec : ChangeSpec := { name := "cartularyFrames", fn := fun _ => fun
  | [d1, d2] => { results := [.lit (.bool true)], args := [d1, d2] }
  | _ => none }
def cartularyFramesRow : OpenClaim := { program := "ytkckobhpanghiaadoor", sum := "09fdc85770f11ba44ee9853f3cb42db36f9bc48a51e5829390b652e113c8d997", func := "cartulary/cartularytop.CartularyFrames", spec := "cartularyFrames", named := ["cartulary/inflate.firstOrder"], plainKeys := false, apart := false, laid := [("cartulary/inflate.firstOrder", laid_cartulary_inflate_firstOrder)] }
def CartularyFramesSaid : Prop := cartularyFramesRow.holds Tryd.pinned (OpenSpec.ofChange cartularyFramesSpec)

/-- ITS FALSE NEIGHBOUR: 'it returns false'. Refute it at one input. -/
def cartularyFramesWrong : ChangeSpec := { name := "cartularyFrames", fn := fun _ => fun
  | [d1, d2] => { results := [.lit (.bool false)], args := [d1, d2] }
  | _ => none }
def CartularyFramesWrongFalsely : Prop := cartularyFramesRow.holds Tryd.pinned (OpenSpec.ofChange cartularyFramesWrong)

/- THE SECOND FORM. 'bulk': how many values and letters a reading holds, each counted each time it is reached (what is shared counts as often as it is met; a slice's spare places count too). A statement '..UptoSaid' is the law's where the arguments, and the package variables that the reading takes, are together of bulk at most 1048576: NARROWER than '..Said'. Prove '..Said' where nothing that the law and all that it calls make is longer than what came in: it says more and counts as full. Else prove '..UptoSaid'. A law counts once. -/
mutual
def uptoBulk {H : Type} : DataW H → Nat
  | .lit (.string bytes) => bytes.length + 1
  | .lit _ => 1
  | .nil => 1
  | .ptr d => uptoBulk d + 1
  | .slice elems spare => uptoBulkAll elems + uptoBulkAll spare + 1
  | .agg parts => uptoBulkAll parts + 1
  | .iface _ d => uptoBulk d + 1
  | .map entries => uptoBulkEntries entries + 1
  | .held _ => 1
def uptoBulkAll {H : Type} : List (DataW H) → Nat
  | [] => 0
  | d :: r => uptoBulk d + uptoBulkAll r
def uptoBulkEntries {H : Type} : List (Lit × DataW H) → Nat
  | [] => 0
  | x :: r => uptoBulkEntry x + uptoBulkEntries r
def uptoBulkEntry {H : Type} : Lit × DataW H → Nat
  | (.string bytes, d) => bytes.length + uptoBulk d + 1
  | (_, d) => uptoBulk d + 1
 end
def uptoSmall : (H : Type) → List (DataW H) → Bool := fun _ ds => decide (uptoBulkAll ds ≤ 1048576)
def OpenSpec.upto (s : _root_.Go.ChangeSpec) : _root_.Go.OpenSpec := { _root_.Go.OpenSpec.ofChange s with cond := some uptoSmall }

/-- 'cartularylaw05.InflateReads', WHERE WHAT IT READS IS OF BULK AT MOST 1048576: true; the input reads as it did. -/
def inflateReadsUptoRow : OpenClaim := { program := "ytkckobhpanghiaadoor", sum := "09fdc85770f11ba44ee9853f3cb42db36f9bc48a51e5829390b652e113c8d997", func := "cartulary/cartularylaw05.InflateReads", spec := "inflateReads", named := ["cartulary/inflate.firstOrder"], plainKeys := false, apart := false, laid := [("cartulary/inflate.firstOrder", laid_cartulary_inflate_firstOrder)], narrowed := true }
def InflateReadsUptoSaid : Prop := inflateReadsUptoRow.holds Tryd.pinned (OpenSpec.upto inflateReadsSpec)

/-- 'cartularylaw05.InflateWrites', WHERE WHAT IT READS IS OF BULK AT MOST 1048576: true; the input reads as it did. -/
def inflateWritesUptoRow : OpenClaim := { program := "ytkckobhpanghiaadoor", sum := "09fdc85770f11ba44ee9853f3cb42db36f9bc48a51e5829390b652e113c8d997", func := "cartulary/cartularylaw05.InflateWrites", spec := "inflateWrites", named := ["cartulary/inflate.firstOrder"], plainKeys := false, apart := false, laid := [("cartulary/inflate.firstOrder", laid_cartulary_inflate_firstOrder)], narrowed := true }
def InflateWritesUptoSaid : Prop := inflateWritesUptoRow.holds Tryd.pinned (OpenSpec.upto inflateWritesSpec)

/-- 'cartularylaw05.InflateInside', WHERE WHAT IT READS IS OF BULK AT MOST 1048576: true; the input reads as it did. -/
def inflateInsideUptoRow : OpenClaim := { program := "ytkckobhpanghiaadoor", sum := "09fdc85770f11ba44ee9853f3cb42db36f9bc48a51e5829390b652e113c8d997", func := "cartulary/cartularylaw05.InflateInside", spec := "inflateInside", named := ["cartulary/inflate.firstOrder"], plainKeys := false, apart := false, laid := [("cartulary/inflate.firstOrder", laid_cartulary_inflate_firstOrder)], narrowed := true }
def InflateInsideUptoSaid : Prop := inflateInsideUptoRow.holds Tryd.pinned (OpenSpec.upto inflateInsideSpec)

/-- 'cartularylaw05.InflateBegins', WHERE WHAT IT READS IS OF BULK AT MOST 1048576: true; the input reads as it did. -/
def inflateBeginsUptoRow : OpenClaim := { program := "ytkckobhpanghiaadoor", sum := "09fdc85770f11ba44ee9853f3cb42db36f9bc48a51e5829390b652e113c8d997", func := "cartulary/cartularylaw05.InflateBegins", spec := "inflateBegins", named := ["cartulary/inflate.firstOrder"], plainKeys := false, apart := false, laid := [("cartulary/inflate.firstOrder", laid_cartulary_inflate_firstOrder)], narrowed := true }
def InflateBeginsUptoSaid : Prop := inflateBeginsUptoRow.holds Tryd.pinned (OpenSpec.upto inflateBeginsSpec)

/-- 'cartularylaw05.InflateLimits', WHERE WHAT IT READS IS OF BULK AT MOST 1048576: true; the input reads as it did. -/
def inflateLimitsUptoRow : OpenClaim := { program := "ytkckobhpanghiaadoor", sum := "09fdc85770f11ba44ee9853f3cb42db36f9bc48a51e5829390b652e113c8d997", func := "cartulary/cartularylaw05.InflateLimits", spec := "inflateLimits", named := ["cartulary/inflate.firstOrder"], plainKeys := false, apart := false, laid := [("cartulary/inflate.firstOrder", laid_cartulary_inflate_firstOrder)], narrowed := true }
def InflateLimitsUptoSaid : Prop := inflateLimitsUptoRow.holds Tryd.pinned (OpenSpec.upto inflateLimitsSpec)

/-- 'cartularylaw05.InflateTwice', WHERE WHAT IT READS IS OF BULK AT MOST 1048576: true; the input reads as it did. -/
def inflateTwiceUptoRow : OpenClaim := { program := "ytkckobhpanghiaadoor", sum := "09fdc85770f11ba44ee9853f3cb42db36f9bc48a51e5829390b652e113c8d997", func := "cartulary/cartularylaw05.InflateTwice", spec := "inflateTwice", named := ["cartulary/inflate.firstOrder"], plainKeys := false, apart := false, laid := [("cartulary/inflate.firstOrder", laid_cartulary_inflate_firstOrder)], narrowed := true }
def InflateTwiceUptoSaid : Prop := inflateTwiceUptoRow.holds Tryd.pinned (OpenSpec.upto inflateTwiceSpec)

/-- 'cartularylaw06.ZlibReads', WHERE WHAT IT READS IS OF BULK AT MOST 1048576: true; the input reads as it did. -/
def zlibReadsUptoRow : OpenClaim := { program := "ytkckobhpanghiaadoor", sum := "09fdc85770f11ba44ee9853f3cb42db36f9bc48a51e5829390b652e113c8d997", func := "cartulary/cartularylaw06.ZlibReads", spec := "zlibReads", named := ["cartulary/inflate.firstOrder"], plainKeys := false, apart := false, laid := [("cartulary/inflate.firstOrder", laid_cartulary_inflate_firstOrder)], narrowed := true }
def ZlibReadsUptoSaid : Prop := zlibReadsUptoRow.holds Tryd.pinned (OpenSpec.upto zlibReadsSpec)

/-- 'cartularylaw06.ZlibWrites', WHERE WHAT IT READS IS OF BULK AT MOST 1048576: true; the input reads as it did. -/
def zlibWritesUptoRow : OpenClaim := { program := "ytkckobhpanghiaadoor", sum := "09fdc85770f11ba44ee9853f3cb42db36f9bc48a51e5829390b652e113c8d997", func := "cartulary/cartularylaw06.ZlibWrites", spec := "zlibWrites", named := ["cartulary/inflate.firstOrder"], plainKeys := false, apart := false, laid := [("cartulary/inflate.firstOrder", laid_cartulary_inflate_firstOrder)], narrowed := true }
def ZlibWritesUptoSaid : Prop := zlibWritesUptoRow.holds Tryd.pinned (OpenSpec.upto zlibWritesSpec)

/-- 'cartularylaw06.ZlibAround', WHERE WHAT IT READS IS OF BULK AT MOST 1048576: true; the input reads as it did. -/
def zlibAroundUptoRow : OpenClaim := { program := "ytkckobhpanghiaadoor", sum := "09fdc85770f11ba44ee9853f3cb42db36f9bc48a51e5829390b652e113c8d997", func := "cartulary/cartularylaw06.ZlibAround", spec := "zlibAround", named := ["cartulary/inflate.firstOrder"], plainKeys := false, apart := false, laid := [("cartulary/inflate.firstOrder", laid_cartulary_inflate_firstOrder)], narrowed := true }
def ZlibAroundUptoSaid : Prop := zlibAroundUptoRow.holds Tryd.pinned (OpenSpec.upto zlibAroundSpec)

/-- 'cartularylaw06.ZlibHeads', WHERE WHAT IT READS IS OF BULK AT MOST 1048576: true; the input reads as it did. -/
def zlibHeadsUptoRow : OpenClaim := { program := "ytkckobhpanghiaadoor", sum := "09fdc85770f11ba44ee9853f3cb42db36f9bc48a51e5829390b652e113c8d997", func := "cartulary/cartularylaw06.ZlibHeads", spec := "zlibHeads", named := ["cartulary/inflate.firstOrder"], plainKeys := false, apart := false, laid := [("cartulary/inflate.firstOrder", laid_cartulary_inflate_firstOrder)], narrowed := true }
def ZlibHeadsUptoSaid : Prop := zlibHeadsUptoRow.holds Tryd.pinned (OpenSpec.upto zlibHeadsSpec)

/-- 'cartularytop.CartularyFrames', WHERE WHAT IT READS IS OF BULK AT MOST 1048576: true; the input reads as it did. -/
def cartularyFramesUptoRow : OpenClaim := { program := "ytkckobhpanghiaadoor", sum := "09fdc85770f11ba44ee9853f3cb42db36f9bc48a51e5829390b652e113c8d997", func := "cartulary/cartularytop.CartularyFrames", spec := "cartularyFrames", named := ["cartulary/inflate.firstOrder"], plainKeys := false, apart := false, laid := [("cartulary/inflate.firstOrder", laid_cartulary_inflate_firstOrder)], narrowed := true }
def CartularyFramesUptoSaid : Prop := cartularyFramesUptoRow.holds Tryd.pinned (OpenSpec.upto cartularyFramesSpec)

end Rows
end Go.Proofs.YtkckobhpanghiaaDoor
