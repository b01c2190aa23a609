/-
  What the rows' reading of a row of numbers gives the walks.
-/
import Derived.Test.YtpidofgmbjkbiaaHufE
import Derived.ProofKit
namespace Go.Proofs.Ytpidofgmbjkbiaa
open Go.ChangeShapes Go.WideShapes Go.ChangeAt Go.WideMaps Go.WideElems Go.RowKit

theorem own : ownKnob Try.prog.godebug = none := by kernel_rfl
theorem laidOut : laidOutB Try.prog = true := by kernel_rfl
theorem cells3 : Try.prog.cellsOf 3 = 1 := by kernel_rfl
theorem wf_at {k : IntKind} {zs : List Int} (h : ∀ n ∈ zs, (Lit.int k n).wf = true) (h0 : (Lit.int k 0).wf = true) (i : Nat) : (Lit.int k (zs.getD i 0)).wf = true := by
  by_cases hi : i < zs.length
  · rw [List.getD_eq_getElem?_getD, List.getElem?_eq_getElem hi]
    exact h _ (List.getElem_mem hi)
  · rw [List.getD_eq_getElem?_getD, List.getElem?_eq_none (by omega)]
    exact h0
/-- A row of numbers that is an argument, with its capacity. -/
def IntsC (w : World) (a : Option Addr) (len cap : Nat) (f : Nat → Int) : Prop := IntsAt w a len .i64 f ∧ (a = none → len = 0 ∧ cap = 0) ∧ len ≤ cap
theorem open_intsC {H : Type} {enc : TypeId × Value → H} {W : World} {fuel base : Nat} {x : DataW H × List MemPlace} {a : Option Addr} {len cap : Nat}
    (h : DataW.trod enc Try.prog W base (fun _ => true) true fuel 22 [.slice a len cap] = some x) : ∃ f, IntsC W a len cap f := by
  rcases Go.ChangeShapes.open_ints Try.underlying22 Try.underlying3 cells3 h with ⟨hcs, _⟩ | ⟨ad, l, c, zs, hcs, _, hl, hm, hz, _, hcell, hwf⟩
  · simp only [List.cons.injEq, Value.slice.injEq, and_true] at hcs
    obtain ⟨rfl, rfl, rfl⟩ := hcs
    have hz : (Lit.int .i64 0).wf = true := by decide
    exact ⟨fun _ => 0, ⟨Nat.zero_le _, fun _ => hz, .inl rfl⟩, fun _ => ⟨rfl, rfl⟩, Nat.le_refl _⟩
  · simp only [List.cons.injEq, Value.slice.injEq, and_true] at hcs
    obtain ⟨rfl, rfl, rfl⟩ := hcs
    refine ⟨fun i => zs.getD i 0, ⟨by omega, wf_at hwf (by decide), ?_⟩, fun h => by simp at h, hl⟩
    by_cases hl0 : len = 0
    · exact .inl hl0
    · right
      obtain ⟨b, off, spot⟩ := ad
      have hc := hcell 0 (by simp at hz; omega)
      have hspot : spot = none := by simpa [Addr.add] using World.cell?_spot hc
      subst hspot
      refine ⟨b, off, rfl, fun i hi => ?_⟩
      have := hcell i (by simp at hz; omega)
      rw [Addr.add_lit] at this
      exact this
end Go.Proofs.Ytpidofgmbjkbiaa
