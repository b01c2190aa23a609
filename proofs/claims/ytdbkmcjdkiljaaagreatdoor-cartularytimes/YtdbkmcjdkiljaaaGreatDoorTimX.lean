/-
  The law CartularyTimes: all its cases.
-/
import Derived.Test.YtdbkmcjdkiljaaaGreatDoorTimW
namespace Go.Proofs.YtdbkmcjdkiljaaaGreatDoor
open Go.RowKit

theorem times_walk (t u : Int) (f : ByteArray) (w : World) (hG : GT w) (hf : f.size ≤ 140737488355328) :
    Calls Tryz.prog 3 #[.int .i64 t, .int .i64 u, .string f] w fun x w' => x = .returned (.bool true) ∧ Below w.heap.size w w' := by
  obtain ⟨a, e, ha, hea⟩ := stamp_any t
  obtain ⟨b, g, hb, hgb⟩ := stamp_any u
  rcases hea with he | ⟨he, T, y, m, d, h, mi, s, H, ht, _⟩
  · exact times_early t u f w hG hf a b e g ha hb (Or.inl he)
  · rcases hgb with hg | ⟨hg, T', y', m', d', h', mi', s', H', hu, _⟩
    · exact times_early t u f w hG hf a b e g ha hb (Or.inr (Or.inl ⟨he, hg⟩))
    · by_cases h1 : t < 0
      · exact times_early t u f w hG hf a b e g ha hb (Or.inr (Or.inr (Or.inl ⟨he, hg, h1⟩)))
      · by_cases h2 : u < 0
        · exact times_early t u f w hG hf a b e g ha hb (Or.inr (Or.inr (Or.inr (Or.inl ⟨he, hg, h1, h2⟩))))
        · by_cases h3 : 40 < f.size
          · exact times_early t u f w hG hf a b e g ha hb (Or.inr (Or.inr (Or.inr (Or.inr ⟨he, hg, h1, h2, h3⟩))))
          · exact times_main t u f w hG T y m d h mi s T' y' m' d' h' mi' s' H H' ht hu h1 h2 (by omega)
end Go.Proofs.YtdbkmcjdkiljaaaGreatDoor
