/-
  The law CalendarDates, walked: every date and every text.
-/
import Derived.Test.YtnibcnafbmcdbaaDoorDatAT
import Derived.Test.YtnibcnafbmcdbaaDoorDatAF
import Derived.Test.YtnibcnafbmcdbaaDoorDatBT
import Derived.Test.YtnibcnafbmcdbaaDoorDatBF
namespace Go.Proofs.YtnibcnafbmcdbaaDoor
open Go.RowKit

theorem v_row (s : ByteArray) : vObj s 14 = .cells #[.int .i64 ((two s 0 * 100 + two s 2 : Nat) : Int), .int .i64 (two s 4 : Nat), .int .i64 (two s 6 : Nat), .int .i64 (two s 8 : Nat), .int .i64 (two s 10 : Nat), .int .i64 (two s 12 : Nat), .int .i64 0] 3 := by
  obtain ⟨e0, e1, e2, e3, e4, e5⟩ := v_end s
  unfold vObj
  rw [e0, e1, e2, e3, e4, e5]
theorem dates_walk (y m d h mi sc k : Int) (s : ByteArray) (w : World) (hG : GT w) :
    Calls Tryd.prog 4 #[.agg #[.int .i64 y, .int .i64 m, .int .i64 d, .int .i64 h, .int .i64 mi, .int .i64 sc, .int .i64 k], .string s] w fun x w' => x = .returned (.bool true) ∧ Below w.heap.size w w' := by
  obtain ⟨n, e, ok, hv, hU, hR⟩ := unix_both y m d h mi sc k
  by_cases h14 : s.size = 14
  · obtain ⟨t2, f2, yes, hv2, hU2, hR2⟩ := unix_both ((two s 0 * 100 + two s 2 : Nat) : Int) (two s 4 : Nat) (two s 6 : Nat) (two s 8 : Nat) (two s 10 : Nat) (two s 12 : Nat) 0
    obtain ⟨t, f, hUN, hNO, hYE⟩ : ∃ t f, (∀ V, GT V → Calls Tryd.prog 13 #[.string s] V fun x w' => x = .returned (.tuple #[.int .i64 t, .int .i64 f]) ∧ Below V.heap.size V w') ∧ (digB s = false → t = 0 ∧ f = 3) ∧ (digB s = true → unixV t f yes ∧ ∀ V g, V.heap[g]? = some (vObj s 14) → Calls Tryd.prog 17 #[.slice (some ⟨g, 0, none⟩) 7 7] V fun x w' => x = .returned (.tuple #[.int .i64 t, .bool yes]) ∧ Below V.heap.size V w') := by
      by_cases hd : digB s = true
      · exact ⟨t2, f2, fun V hV => unstamp_via s V hV h14 hd t2 f2 (fun U hU => hU2 U hU), (fun h => by rw [hd] at h; cases h), fun _ => ⟨hv2, fun V g hx => hR2 V g (by rw [← v_row]; exact hx)⟩⟩
      · have hf : digB s = false := by simpa using hd
        exact ⟨0, 3, fun V _ => unstamp_bad s V (.inr hf), fun _ => ⟨rfl, rfl⟩, fun h => absurd h hd⟩
    rcases hv with ⟨rfl, rfl⟩ | ⟨rfl, rfl, rfl⟩
    · exact dates_BT y m d h mi sc k n s w hG hU hR h14 t f yes hUN hNO hYE
    · exact dates_BF y m d h mi sc k 0 s w hG hU hR h14 t f yes hUN hNO hYE
  · have hUN := fun V (_ : GT V) => unstamp_bad s V (.inl h14)
    rcases hv with ⟨rfl, rfl⟩ | ⟨rfl, rfl, rfl⟩
    · exact dates_AT y m d h mi sc k n s w hG hU hR h14 hUN
    · exact dates_AF y m d h mi sc k 0 s w hG hU hR h14 hUN
end Go.Proofs.YtnibcnafbmcdbaaDoor
