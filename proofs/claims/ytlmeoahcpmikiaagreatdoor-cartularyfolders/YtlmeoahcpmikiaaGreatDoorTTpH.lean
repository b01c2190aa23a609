/-
  Taken over from another program: TpH.
-/
import Derived.Test.YtlmeoahcpmikiaaGreatDoorJTTpD
namespace Go.Proofs.YtlmeoahcpmikiaaGreatDoor.T
open Go.RowKit
theorem EntsV.below {w V : World} {v : Value} {es : List EntB} (h : EntsV w v es) (hb : Below w.heap.size w V) : EntsV V v es := by
  rcases h with h | h | ⟨b, off, c, rfl, h1, h2, h3⟩
  · exact .inl h
  · exact .inr (.inl h)
  · exact .inr (.inr ⟨b, off, c, rfl, Nat.lt_of_lt_of_le h1 hb.size, h2.below hb h1, h3⟩)
end Go.Proofs.YtlmeoahcpmikiaaGreatDoor.T
