/-
  Taken over from another program: TreG.
-/
import Derived.Test.YtlmeoahcpmikiaaGreatDoorTTreF
namespace Go.Proofs.YtlmeoahcpmikiaaGreatDoor.T
open Go.RowKit Go.WideMaps Go.Maps
/-- entries that a slice holds -/
def EntsIn (w : World) (a : Option Addr) (es : List EntB) : Prop := es = [] ∨ ∃ b off, a = some ⟨b, off, none⟩ ∧ b < w.heap.size ∧ EntsAt w b off es
theorem EntsIn.below {w w' : World} {a : Option Addr} {es : List EntB} (h : EntsIn w a es) (hb : Below w.heap.size w w') : EntsIn w' a es := by
  rcases h with h | ⟨b, off, h1, h2, h3⟩
  · exact .inl h
  · exact .inr ⟨b, off, h1, Nat.lt_of_lt_of_le h2 hb.size, h3.below hb h2⟩
/-- what Check says -/
def checkV (es : List EntB) : Int := if 500 < es.length then 2 else checkZ es
set_option maxRecDepth 100000 in
theorem check_big (a : Option Addr) (cap len : Nat) (w : World) (h500 : 500 < len) :
    Calls Tryz.prog 25 #[.slice a len cap] w fun e w' => e = .returned (.int .i64 2) ∧ Below w.heap.size w w' := by
  have g5 : (500 : Int) < (len : Int) := by omega
  go_enter Tryz.func25, Tryz.ntmps25
  go_wp2
  go_ret
  exact ⟨rfl, Below.refl _ _⟩
set_option maxRecDepth 100000 in
theorem check_nil (a : Option Addr) (cap : Nat) (w : World) :
    Calls Tryz.prog 25 #[.slice a 0 cap] w fun e w' => e = .returned (.int .i64 0) ∧ Below w.heap.size w w' := by
  have hmm := @run_makeMap Tryz.prog
  go_enter Tryz.func25, Tryz.ntmps25
  go_wp2
  refine wp_loop_rounds 1 ?_
  rw [rounds_succ]
  go_wp2
  go_ret
  exact ⟨rfl, (Below.refl _ _).alloc (Nat.le_refl _) _⟩
theorem check_any (a : Option Addr) (cap : Nat) (es : List EntB) (w : World) (hG : GT w) (hE : EntsIn w a es) (hO : ∀ e ∈ es, OkE e) :
    Calls Tryz.prog 25 #[.slice a es.length cap] w fun e w' => e = .returned (.int .i64 (checkV es)) ∧ Below w.heap.size w w' := by
  by_cases h5 : 500 < es.length
  · unfold checkV
    rw [if_pos h5]
    exact check_big a cap es.length w h5
  · have hv : checkV es = checkZ es := by unfold checkV; rw [if_neg h5]
    rw [hv]
    rcases hE with rfl | ⟨b, off, rfl, h1, h2⟩
    · exact check_nil a cap w
    · exact check_some b off cap es.length es w hG rfl (by omega) h1 h2 hO
/-- an entry's bytes -/
def entL (e : EntB) : List UInt8 := octZ e.1 ++ [32] ++ e.2.1.data.toList ++ [0] ++ unhexL e.2.2.data.toList
def formL (es : List EntB) : List UInt8 := es.flatMap entL
end Go.Proofs.YtlmeoahcpmikiaaGreatDoor.T
