/-
  The law CalendarNext, walked.
-/
import Derived.Test.YtnibcnafbmcdbaaDoorCalN
namespace Go.Proofs.YtnibcnafbmcdbaaDoor
open Go.RowKit

theorem from_at (t : Int) (T y m d h mi s : Nat) (w : World) (hG : GT w) (ht : t = (T : Int) - 62135596800) (hd : IsDate T y m d h mi s) :
    Calls Tryd.prog 7 #[.int .i64 t] w fun e w' => e = .returned (.tuple #[.agg #[.int .i64 (y : Int), .int .i64 (m : Int), .int .i64 (d : Int), .int .i64 (h : Int), .int .i64 (mi : Int), .int .i64 (s : Int), .int .i64 (((1 + T / 86400) % 7 : Nat) : Int)], .int .i64 0]) ∧ Below w.heap.size w w' := by
  rw [ht]; exact from_yes T y m d h mi s w hG hd
theorem stamp_at (t : Int) (T y m d h mi s : Nat) (w : World) (hG : GT w) (ht : t = (T : Int) - 62135596800) (hd : IsDate T y m d h mi s) :
    Calls Tryd.prog 8 #[.int .i64 t] w fun x w' => x = .returned (.tuple #[.string (stampT y m d h mi s), .int .i64 0]) ∧ Below w.heap.size w w' := by
  rw [ht]; exact stamp_yes T y m d h mi s w hG hd
/-- what Stamp says of the second number, beside the first one's -/
def StQ (t u : Int) (X Y : ByteArray) (g : Int) : Prop := g = 1 ∨ g = 0 ∧ Op.bytesLess X.toList Y.toList = decide (t < u) ∧ (X.toList == Y.toList) = (t == u)
theorem stamp_q (t u : Int) (T y m d h mi s : Nat) (ht : t = (T : Int) - 62135596800) (hd : IsDate T y m d h mi s) :
    ∃ Y g, StQ t u (stampT y m d h mi s) Y g ∧ ∀ V, GT V → Calls Tryd.prog 8 #[.int .i64 u] V fun x w' => x = .returned (.tuple #[.string Y, .int .i64 g]) ∧ Below V.heap.size V w' := by
  by_cases hu : u < -62135596800 ∨ 253402300799 < u
  · exact ⟨⟨#[]⟩, 1, .inl rfl, fun V _ => stamp_no u V hu⟩
  · obtain ⟨U, hU⟩ : ∃ U : Nat, u = (U : Int) - 62135596800 := ⟨(u + 62135596800).toNat, by omega⟩
    obtain ⟨y', m', d', H⟩ := date_ex U (by omega)
    refine ⟨_, 0, .inr ⟨rfl, ?_⟩, fun V hV => stamp_at u U y' m' d' _ _ _ V hV hU H⟩
    obtain ⟨e1, e2⟩ := stamp_order hd H
    rw [e1, e2]
    refine ⟨decide_eq_decide.2 (by omega), ?_⟩
    by_cases h : T = U
    · have : t = u := by omega
      simp [h, this]
    · have : ¬ t = u := by omega
      simp [h, this]
theorem set_block {w : World} {g i : Nat} {cur : Array Value} {v : Value} (hg : w.heap[g]? = some (.cells cur 23)) : (w.setCell ⟨g, i, none⟩ v).heap[g]? = some (.cells (cur.setIfInBounds i v) 23) := by
  rw [setCell_eq_setRow w g i cur 23 (0, 0) v hg]
  exact setRow_heap w g cur _ 23 (0, 0) hg
theorem set_other {w : World} {g b i : Nat} {o : Obj} {v : Value} (hn : b ≠ g) (h : w.heap[b]? = some o) : (w.setCell ⟨g, i, none⟩ v).heap[b]? = some o := by
  rw [← h]; exact Below.heap_setCell w ⟨g, i, none⟩ v b hn
theorem set_below {B g i : Nat} {a w : World} {v : Value} (h : Below B a w) (hb : B ≤ g) : Below B a (w.setCell ⟨g, i, none⟩ v) :=
  h.trans ⟨rfl, rfl, rfl, by simp, fun k hk => Below.heap_setCell w ⟨g, i, none⟩ v k (by simp; omega)⟩
/-- a block, and that nothing elder has turned -/
theorem keep7 {w1 w2 : World} {b : Nat} {o : Obj} (h : w1.heap[b]? = some o) (hb : Below w1.heap.size w1 w2) : w2.heap[b]? = some o := box_kept h hb
set_option maxHeartbeats 8000000 in
set_option maxRecDepth 100000 in
theorem next_a (t u : Int) (y m d h mi s K : Nat) (X Y : ByteArray) (g : Int) (w : World) (hG : GT w) (h0 : -62135596800 ≤ t) (h1 : t < 253402300799)
    (hbd : Hid (1 ≤ y ∧ y ≤ 9999 ∧ 1 ≤ m ∧ m ≤ 12 ∧ 1 ≤ d ∧ d ≤ 31 ∧ h ≤ 23 ∧ mi ≤ 59 ∧ s ≤ 59 ∧ K ≤ 6)) (q1 : s < 59) (q2 : d ≤ dmN y m)
    (HF : Hid (Calls Tryd.prog 7 #[.int .i64 t] w fun e w' => e = .returned (.tuple #[.agg #[.int .i64 (y : Int), .int .i64 (m : Int), .int .i64 (d : Int), .int .i64 (h : Int), .int .i64 (mi : Int), .int .i64 (s : Int), .int .i64 (K : Int)], .int .i64 0]) ∧ Below w.heap.size w w'))
    (HF2 : Hid (∀ V, GT V → Calls Tryd.prog 7 #[.int .i64 (t + 1)] V fun e w' => e = .returned (.tuple #[.agg #[.int .i64 (y : Int), .int .i64 (m : Int), .int .i64 (d : Int), .int .i64 (h : Int), .int .i64 (mi : Int), .int .i64 ((s : Int) + 1), .int .i64 (K : Int)], .int .i64 0]) ∧ Below V.heap.size V w'))
    (HX : Hid (∀ V, GT V → Calls Tryd.prog 8 #[.int .i64 t] V fun x w' => x = .returned (.tuple #[.string X, .int .i64 0]) ∧ Below V.heap.size V w'))
    (HY : Hid (∀ V, GT V → Calls Tryd.prog 8 #[.int .i64 u] V fun x w' => x = .returned (.tuple #[.string Y, .int .i64 g]) ∧ Below V.heap.size V w'))
    (HQ : Hid (StQ t u X Y g)) :
    Calls Tryd.prog 5 #[.int .i64 t, .int .i64 u] w fun x w' => x = .returned (.bool true) ∧ Below w.heap.size w w' := by
  obtain ⟨y1, y2, m1, m2, d1, d2, hh, hmi, hs, hK⟩ := hbd.out
  have HG := hidM hG
  have HAW := hidM (fun V (hV : GT V) => awake_any V hV)
  have b0 : decide (253402300799 ≤ t) = false := by simp; omega
  have b1 : ((s : Int) + 1 == 60) = false := by simp; omega
  have b2 : ((mi : Int) == 60) = false := by simp; omega
  have b3 : ((h : Int) == 24) = false := by simp; omega
  have b4 : decide ((dmN y m : Int) < (d : Int)) = false := by simp; omega
  have b5 : ((m : Int) == 13) = false := by simp; omega
  clear hG
  go_enter Tryd.func5, Tryd.ntmps5
  go_wp2_with fail
  refine HF.out.mono ?_
  rintro _ w1 ⟨rfl, hb1⟩
  have HB1 : Hid (Below w.heap.size w (w1.alloc (.cells #[.int .i64 (y : Int), .int .i64 (m : Int), .int .i64 (d : Int), .int .i64 (h : Int), .int .i64 (mi : Int), .int .i64 (s : Int), .int .i64 (K : Int)] 23))) := hb1.alloc hb1.size _
  have HA1 : Hid ((w1.alloc (.cells #[.int .i64 (y : Int), .int .i64 (m : Int), .int .i64 (d : Int), .int .i64 (h : Int), .int .i64 (mi : Int), .int .i64 (s : Int), .int .i64 (K : Int)] 23)).heap[w1.heap.size]? = some (.cells #[.int .i64 (y : Int), .int .i64 (m : Int), .int .i64 (d : Int), .int .i64 (h : Int), .int .i64 (mi : Int), .int .i64 (s : Int), .int .i64 (K : Int)] 23)) := _root_.Go.heap_alloc_new _ _
  clear hb1 HF
  go_wp2_with fail
  generalize (w1.alloc (.cells #[.int .i64 (y : Int), .int .i64 (m : Int), .int .i64 (d : Int), .int .i64 (h : Int), .int .i64 (mi : Int), .int .i64 (s : Int), .int .i64 (K : Int)] 23)) = W1 at *
  refine (HF2.out _ (HG.out.below HB1.out)).mono ?_
  rintro _ w2 ⟨rfl, hb2⟩
  have HB2 : Hid (Below w.heap.size w (w2.alloc (.cells #[.int .i64 (y : Int), .int .i64 (m : Int), .int .i64 (d : Int), .int .i64 (h : Int), .int .i64 (mi : Int), .int .i64 ((s : Int) + 1), .int .i64 (K : Int)] 23))) := (HB1.out.trans (hb2.mono HB1.out.size)).alloc (HB1.out.trans (hb2.mono HB1.out.size)).size _
  have HA2 : Hid ((w2.alloc (.cells #[.int .i64 (y : Int), .int .i64 (m : Int), .int .i64 (d : Int), .int .i64 (h : Int), .int .i64 (mi : Int), .int .i64 ((s : Int) + 1), .int .i64 (K : Int)] 23)).heap[w1.heap.size]? = some (.cells #[.int .i64 (y : Int), .int .i64 (m : Int), .int .i64 (d : Int), .int .i64 (h : Int), .int .i64 (mi : Int), .int .i64 (s : Int), .int .i64 (K : Int)] 23)) := (_root_.Go.heap_alloc_old _ _ (Array.getElem?_eq_some_iff.1 (box_kept HA1.out hb2)).1).trans (box_kept HA1.out hb2)
  have HN2 : Hid ((w2.alloc (.cells #[.int .i64 (y : Int), .int .i64 (m : Int), .int .i64 (d : Int), .int .i64 (h : Int), .int .i64 (mi : Int), .int .i64 ((s : Int) + 1), .int .i64 (K : Int)] 23)).heap[w2.heap.size]? = some (.cells #[.int .i64 (y : Int), .int .i64 (m : Int), .int .i64 (d : Int), .int .i64 (h : Int), .int .i64 (mi : Int), .int .i64 ((s : Int) + 1), .int .i64 (K : Int)] 23)) := _root_.Go.heap_alloc_new _ _
  clear hb2 HF2 HA1 HB1
  go_upto_region 7 with fail
  generalize (w2.alloc (.cells #[.int .i64 (y : Int), .int .i64 (m : Int), .int .i64 (d : Int), .int .i64 (h : Int), .int .i64 (mi : Int), .int .i64 ((s : Int) + 1), .int .i64 (K : Int)] 23)) = W2 at *
  generalize w1.heap.size = B1 at *
  generalize w2.heap.size = B2 at *
  obtain ⟨c0, c1, c2, c3, c4, c5, c6⟩ := cells7 HA2.out
  have HWB : Hid (∀ o n, Below w.heap.size w ((W2.alloc o).drewN n)) := fun o n => below_drewN (HB2.out.alloc HB2.out.size _) n
  have HDY : Hid (∀ o n, Calls Tryd.prog 18 #[.int .i64 (y : Int), .int .i64 (m : Int)] ((W2.alloc o).drewN n) fun e w' => e = .returned (.int .i64 (dmN y m : Nat)) ∧ w' = (W2.alloc o).drewN n) := fun o n => by
    have := days_any y m ((W2.alloc o).drewN n) (HG.out.below (HWB.out o n))
    rw [days_cast] at this
    exact this
  have HBO : Hid (∀ o n, ((W2.alloc o).drewN n).heap[B2]? = some (.cells #[.int .i64 (y : Int), .int .i64 (m : Int), .int .i64 (d : Int), .int .i64 (h : Int), .int .i64 (mi : Int), .int .i64 ((s : Int) + 1), .int .i64 (K : Int)] 23)) := fun o n => (_root_.Go.heap_alloc_old _ _ (Array.getElem?_eq_some_iff.1 HN2.out).1).trans HN2.out
  have HBN : Hid (∀ o n, ((W2.alloc o).drewN n).heap[W2.heap.size]? = some o) := fun o n => _root_.Go.heap_alloc_new _ _
  generalize dmN y m = q at *
  go_wp2
  go_quiet ((go_at_call 18; exact Calls.quiet_of_same (HDY.out _ _)))
  go_wp2_with fail
  refine (HX.out _ (HG.out.below (HWB.out _ _))).mono ?_
  rintro _ w3 ⟨rfl, hb3⟩
  have HB3 := hidM ((HWB.out _ _).trans (hb3.mono (HWB.out _ _).size))
  have HP3 := hidM (box_kept (HBO.out _ _) hb3)
  have HW3 := hidM (box_kept (HBN.out _ _) hb3)
  clear hb3 HX
  go_wp2_with fail
  refine (HY.out w3 (HG.out.below HB3.out)).mono ?_
  rintro _ w4 ⟨rfl, hb4⟩
  have HB4 := hidM (HB3.out.trans (hb4.mono HB3.out.size))
  have HP4 := hidM (box_kept HP3.out hb4)
  have HW4 := hidM (box_kept HW3.out hb4)
  clear hb4 HY
  go_wp2_with fail
  refine (HAW.out w4 (HG.out.below HB4.out)).mono ?_
  rintro _ w5 ⟨rfl, hb5⟩
  have HB5 := hidM (HB4.out.trans (hb5.mono HB4.out.size))
  have HP5 := hidM (box_kept HP4.out hb5)
  have HW5 := hidM (box_kept HW4.out hb5)
  clear hb5 HAW c0 c1 c2 c3 c4 c5 c6
  obtain ⟨c0, c1, c2, c3, c4, c5, c6⟩ := cells7 HP5.out
  obtain ⟨p0, p1, p2, p3, p4, p5, p6⟩ := cells7 HW5.out
  rcases HQ.out with hg | ⟨hg, hl, he⟩
  · subst hg
    go_wp2
    go_ret
    exact ⟨rfl, HB5.out⟩
  · subst hg
    go_wp2
    go_ret
    exact ⟨rfl, HB5.out⟩
set_option maxHeartbeats 8000000 in
set_option maxRecDepth 100000 in
theorem next_b (t u : Int) (y m d h mi s K : Nat) (X Y : ByteArray) (g : Int) (w : World) (hG : GT w) (h0 : -62135596800 ≤ t) (h1 : t < 253402300799)
    (hbd : Hid (1 ≤ y ∧ y ≤ 9999 ∧ 1 ≤ m ∧ m ≤ 12 ∧ 1 ≤ d ∧ d ≤ 31 ∧ h ≤ 23 ∧ mi ≤ 59 ∧ s ≤ 59 ∧ K ≤ 6)) (q1 : s = 59) (q3 : mi < 59) (q2 : d ≤ dmN y m)
    (HF : Hid (Calls Tryd.prog 7 #[.int .i64 t] w fun e w' => e = .returned (.tuple #[.agg #[.int .i64 (y : Int), .int .i64 (m : Int), .int .i64 (d : Int), .int .i64 (h : Int), .int .i64 (mi : Int), .int .i64 (s : Int), .int .i64 (K : Int)], .int .i64 0]) ∧ Below w.heap.size w w'))
    (HF2 : Hid (∀ V, GT V → Calls Tryd.prog 7 #[.int .i64 (t + 1)] V fun e w' => e = .returned (.tuple #[.agg #[.int .i64 (y : Int), .int .i64 (m : Int), .int .i64 (d : Int), .int .i64 (h : Int), .int .i64 ((mi : Int) + 1), .int .i64 0, .int .i64 (K : Int)], .int .i64 0]) ∧ Below V.heap.size V w'))
    (HX : Hid (∀ V, GT V → Calls Tryd.prog 8 #[.int .i64 t] V fun x w' => x = .returned (.tuple #[.string X, .int .i64 0]) ∧ Below V.heap.size V w'))
    (HY : Hid (∀ V, GT V → Calls Tryd.prog 8 #[.int .i64 u] V fun x w' => x = .returned (.tuple #[.string Y, .int .i64 g]) ∧ Below V.heap.size V w'))
    (HQ : Hid (StQ t u X Y g)) :
    Calls Tryd.prog 5 #[.int .i64 t, .int .i64 u] w fun x w' => x = .returned (.bool true) ∧ Below w.heap.size w w' := by
  obtain ⟨y1, y2, m1, m2, d1, d2, hh, hmi, hs, hK⟩ := hbd.out
  have HG := hidM hG
  have HAW := hidM (fun V (hV : GT V) => awake_any V hV)
  have b0 : decide (253402300799 ≤ t) = false := by simp; omega
  have b1 : ((s : Int) + 1 == 60) = true := by simp; omega
  have b2 : ((mi : Int) + 1 == 60) = false := by simp; omega
  have b3 : ((h : Int) == 24) = false := by simp; omega
  have b4 : decide ((dmN y m : Int) < (d : Int)) = false := by simp; omega
  have b5 : ((m : Int) == 13) = false := by simp; omega
  clear q1
  clear hG
  go_enter Tryd.func5, Tryd.ntmps5
  go_wp2_with fail
  refine HF.out.mono ?_
  rintro _ w1 ⟨rfl, hb1⟩
  have HB1 : Hid (Below w.heap.size w (w1.alloc (.cells #[.int .i64 (y : Int), .int .i64 (m : Int), .int .i64 (d : Int), .int .i64 (h : Int), .int .i64 (mi : Int), .int .i64 (s : Int), .int .i64 (K : Int)] 23))) := hb1.alloc hb1.size _
  have HA1 : Hid ((w1.alloc (.cells #[.int .i64 (y : Int), .int .i64 (m : Int), .int .i64 (d : Int), .int .i64 (h : Int), .int .i64 (mi : Int), .int .i64 (s : Int), .int .i64 (K : Int)] 23)).heap[w1.heap.size]? = some (.cells #[.int .i64 (y : Int), .int .i64 (m : Int), .int .i64 (d : Int), .int .i64 (h : Int), .int .i64 (mi : Int), .int .i64 (s : Int), .int .i64 (K : Int)] 23)) := _root_.Go.heap_alloc_new _ _
  clear hb1 HF
  go_wp2_with fail
  generalize (w1.alloc (.cells #[.int .i64 (y : Int), .int .i64 (m : Int), .int .i64 (d : Int), .int .i64 (h : Int), .int .i64 (mi : Int), .int .i64 (s : Int), .int .i64 (K : Int)] 23)) = W1 at *
  refine (HF2.out _ (HG.out.below HB1.out)).mono ?_
  rintro _ w2 ⟨rfl, hb2⟩
  have HB2 : Hid (Below w.heap.size w (w2.alloc (.cells #[.int .i64 (y : Int), .int .i64 (m : Int), .int .i64 (d : Int), .int .i64 (h : Int), .int .i64 ((mi : Int) + 1), .int .i64 0, .int .i64 (K : Int)] 23))) := (HB1.out.trans (hb2.mono HB1.out.size)).alloc (HB1.out.trans (hb2.mono HB1.out.size)).size _
  have HA2 : Hid ((w2.alloc (.cells #[.int .i64 (y : Int), .int .i64 (m : Int), .int .i64 (d : Int), .int .i64 (h : Int), .int .i64 ((mi : Int) + 1), .int .i64 0, .int .i64 (K : Int)] 23)).heap[w1.heap.size]? = some (.cells #[.int .i64 (y : Int), .int .i64 (m : Int), .int .i64 (d : Int), .int .i64 (h : Int), .int .i64 (mi : Int), .int .i64 (s : Int), .int .i64 (K : Int)] 23)) := (_root_.Go.heap_alloc_old _ _ (Array.getElem?_eq_some_iff.1 (box_kept HA1.out hb2)).1).trans (box_kept HA1.out hb2)
  have HN2 : Hid ((w2.alloc (.cells #[.int .i64 (y : Int), .int .i64 (m : Int), .int .i64 (d : Int), .int .i64 (h : Int), .int .i64 ((mi : Int) + 1), .int .i64 0, .int .i64 (K : Int)] 23)).heap[w2.heap.size]? = some (.cells #[.int .i64 (y : Int), .int .i64 (m : Int), .int .i64 (d : Int), .int .i64 (h : Int), .int .i64 ((mi : Int) + 1), .int .i64 0, .int .i64 (K : Int)] 23)) := _root_.Go.heap_alloc_new _ _
  clear hb2 HF2 HA1 HB1
  go_upto_region 7 with fail
  generalize (w2.alloc (.cells #[.int .i64 (y : Int), .int .i64 (m : Int), .int .i64 (d : Int), .int .i64 (h : Int), .int .i64 ((mi : Int) + 1), .int .i64 0, .int .i64 (K : Int)] 23)) = W2 at *
  generalize w1.heap.size = B1 at *
  generalize w2.heap.size = B2 at *
  obtain ⟨c0, c1, c2, c3, c4, c5, c6⟩ := cells7 HA2.out
  have HWB : Hid (∀ o n, Below w.heap.size w ((W2.alloc o).drewN n)) := fun o n => below_drewN (HB2.out.alloc HB2.out.size _) n
  have HDY : Hid (∀ o n, Calls Tryd.prog 18 #[.int .i64 (y : Int), .int .i64 (m : Int)] ((W2.alloc o).drewN n) fun e w' => e = .returned (.int .i64 (dmN y m : Nat)) ∧ w' = (W2.alloc o).drewN n) := fun o n => by
    have := days_any y m ((W2.alloc o).drewN n) (HG.out.below (HWB.out o n))
    rw [days_cast] at this
    exact this
  have HBO : Hid (∀ o n, ((W2.alloc o).drewN n).heap[B2]? = some (.cells #[.int .i64 (y : Int), .int .i64 (m : Int), .int .i64 (d : Int), .int .i64 (h : Int), .int .i64 ((mi : Int) + 1), .int .i64 0, .int .i64 (K : Int)] 23)) := fun o n => (_root_.Go.heap_alloc_old _ _ (Array.getElem?_eq_some_iff.1 HN2.out).1).trans HN2.out
  have HBN : Hid (∀ o n, ((W2.alloc o).drewN n).heap[W2.heap.size]? = some o) := fun o n => _root_.Go.heap_alloc_new _ _
  generalize dmN y m = q at *
  go_wp2
  go_quiet ((go_at_call 18; exact Calls.quiet_of_same (HDY.out _ _)))
  go_wp2_with fail
  refine (HX.out _ (HG.out.below (HWB.out _ _))).mono ?_
  rintro _ w3 ⟨rfl, hb3⟩
  have HB3 := hidM ((HWB.out _ _).trans (hb3.mono (HWB.out _ _).size))
  have HP3 := hidM (box_kept (HBO.out _ _) hb3)
  have HW3 := hidM (box_kept (HBN.out _ _) hb3)
  clear hb3 HX
  go_wp2_with fail
  refine (HY.out w3 (HG.out.below HB3.out)).mono ?_
  rintro _ w4 ⟨rfl, hb4⟩
  have HB4 := hidM (HB3.out.trans (hb4.mono HB3.out.size))
  have HP4 := hidM (box_kept HP3.out hb4)
  have HW4 := hidM (box_kept HW3.out hb4)
  clear hb4 HY
  go_wp2_with fail
  refine (HAW.out w4 (HG.out.below HB4.out)).mono ?_
  rintro _ w5 ⟨rfl, hb5⟩
  have HB5 := hidM (HB4.out.trans (hb5.mono HB4.out.size))
  have HP5 := hidM (box_kept HP4.out hb5)
  have HW5 := hidM (box_kept HW4.out hb5)
  clear hb5 HAW c0 c1 c2 c3 c4 c5 c6
  obtain ⟨c0, c1, c2, c3, c4, c5, c6⟩ := cells7 HP5.out
  obtain ⟨p0, p1, p2, p3, p4, p5, p6⟩ := cells7 HW5.out
  rcases HQ.out with hg | ⟨hg, hl, he⟩
  · subst hg
    go_wp2
    go_ret
    exact ⟨rfl, HB5.out⟩
  · subst hg
    go_wp2
    go_ret
    exact ⟨rfl, HB5.out⟩
set_option maxHeartbeats 8000000 in
set_option maxRecDepth 100000 in
theorem next_c (t u : Int) (y m d h mi s K : Nat) (X Y : ByteArray) (g : Int) (w : World) (hG : GT w) (h0 : -62135596800 ≤ t) (h1 : t < 253402300799)
    (hbd : Hid (1 ≤ y ∧ y ≤ 9999 ∧ 1 ≤ m ∧ m ≤ 12 ∧ 1 ≤ d ∧ d ≤ 31 ∧ h ≤ 23 ∧ mi ≤ 59 ∧ s ≤ 59 ∧ K ≤ 6)) (q1 : s = 59) (q3 : mi = 59) (q4 : h < 23) (q2 : d ≤ dmN y m)
    (HF : Hid (Calls Tryd.prog 7 #[.int .i64 t] w fun e w' => e = .returned (.tuple #[.agg #[.int .i64 (y : Int), .int .i64 (m : Int), .int .i64 (d : Int), .int .i64 (h : Int), .int .i64 (mi : Int), .int .i64 (s : Int), .int .i64 (K : Int)], .int .i64 0]) ∧ Below w.heap.size w w'))
    (HF2 : Hid (∀ V, GT V → Calls Tryd.prog 7 #[.int .i64 (t + 1)] V fun e w' => e = .returned (.tuple #[.agg #[.int .i64 (y : Int), .int .i64 (m : Int), .int .i64 (d : Int), .int .i64 ((h : Int) + 1), .int .i64 0, .int .i64 0, .int .i64 (K : Int)], .int .i64 0]) ∧ Below V.heap.size V w'))
    (HX : Hid (∀ V, GT V → Calls Tryd.prog 8 #[.int .i64 t] V fun x w' => x = .returned (.tuple #[.string X, .int .i64 0]) ∧ Below V.heap.size V w'))
    (HY : Hid (∀ V, GT V → Calls Tryd.prog 8 #[.int .i64 u] V fun x w' => x = .returned (.tuple #[.string Y, .int .i64 g]) ∧ Below V.heap.size V w'))
    (HQ : Hid (StQ t u X Y g)) :
    Calls Tryd.prog 5 #[.int .i64 t, .int .i64 u] w fun x w' => x = .returned (.bool true) ∧ Below w.heap.size w w' := by
  obtain ⟨y1, y2, m1, m2, d1, d2, hh, hmi, hs, hK⟩ := hbd.out
  have HG := hidM hG
  have HAW := hidM (fun V (hV : GT V) => awake_any V hV)
  have b0 : decide (253402300799 ≤ t) = false := by simp; omega
  have b1 : ((s : Int) + 1 == 60) = true := by simp; omega
  have b2 : ((mi : Int) + 1 == 60) = true := by simp; omega
  have b3 : ((h : Int) + 1 == 24) = false := by simp; omega
  have b4 : decide ((dmN y m : Int) < (d : Int)) = false := by simp; omega
  have b5 : ((m : Int) == 13) = false := by simp; omega
  clear q1 q3
  clear hG
  go_enter Tryd.func5, Tryd.ntmps5
  go_wp2_with fail
  refine HF.out.mono ?_
  rintro _ w1 ⟨rfl, hb1⟩
  have HB1 : Hid (Below w.heap.size w (w1.alloc (.cells #[.int .i64 (y : Int), .int .i64 (m : Int), .int .i64 (d : Int), .int .i64 (h : Int), .int .i64 (mi : Int), .int .i64 (s : Int), .int .i64 (K : Int)] 23))) := hb1.alloc hb1.size _
  have HA1 : Hid ((w1.alloc (.cells #[.int .i64 (y : Int), .int .i64 (m : Int), .int .i64 (d : Int), .int .i64 (h : Int), .int .i64 (mi : Int), .int .i64 (s : Int), .int .i64 (K : Int)] 23)).heap[w1.heap.size]? = some (.cells #[.int .i64 (y : Int), .int .i64 (m : Int), .int .i64 (d : Int), .int .i64 (h : Int), .int .i64 (mi : Int), .int .i64 (s : Int), .int .i64 (K : Int)] 23)) := _root_.Go.heap_alloc_new _ _
  clear hb1 HF
  go_wp2_with fail
  generalize (w1.alloc (.cells #[.int .i64 (y : Int), .int .i64 (m : Int), .int .i64 (d : Int), .int .i64 (h : Int), .int .i64 (mi : Int), .int .i64 (s : Int), .int .i64 (K : Int)] 23)) = W1 at *
  refine (HF2.out _ (HG.out.below HB1.out)).mono ?_
  rintro _ w2 ⟨rfl, hb2⟩
  have HB2 : Hid (Below w.heap.size w (w2.alloc (.cells #[.int .i64 (y : Int), .int .i64 (m : Int), .int .i64 (d : Int), .int .i64 ((h : Int) + 1), .int .i64 0, .int .i64 0, .int .i64 (K : Int)] 23))) := (HB1.out.trans (hb2.mono HB1.out.size)).alloc (HB1.out.trans (hb2.mono HB1.out.size)).size _
  have HA2 : Hid ((w2.alloc (.cells #[.int .i64 (y : Int), .int .i64 (m : Int), .int .i64 (d : Int), .int .i64 ((h : Int) + 1), .int .i64 0, .int .i64 0, .int .i64 (K : Int)] 23)).heap[w1.heap.size]? = some (.cells #[.int .i64 (y : Int), .int .i64 (m : Int), .int .i64 (d : Int), .int .i64 (h : Int), .int .i64 (mi : Int), .int .i64 (s : Int), .int .i64 (K : Int)] 23)) := (_root_.Go.heap_alloc_old _ _ (Array.getElem?_eq_some_iff.1 (box_kept HA1.out hb2)).1).trans (box_kept HA1.out hb2)
  have HN2 : Hid ((w2.alloc (.cells #[.int .i64 (y : Int), .int .i64 (m : Int), .int .i64 (d : Int), .int .i64 ((h : Int) + 1), .int .i64 0, .int .i64 0, .int .i64 (K : Int)] 23)).heap[w2.heap.size]? = some (.cells #[.int .i64 (y : Int), .int .i64 (m : Int), .int .i64 (d : Int), .int .i64 ((h : Int) + 1), .int .i64 0, .int .i64 0, .int .i64 (K : Int)] 23)) := _root_.Go.heap_alloc_new _ _
  clear hb2 HF2 HA1 HB1
  go_upto_region 7 with fail
  generalize (w2.alloc (.cells #[.int .i64 (y : Int), .int .i64 (m : Int), .int .i64 (d : Int), .int .i64 ((h : Int) + 1), .int .i64 0, .int .i64 0, .int .i64 (K : Int)] 23)) = W2 at *
  generalize w1.heap.size = B1 at *
  generalize w2.heap.size = B2 at *
  obtain ⟨c0, c1, c2, c3, c4, c5, c6⟩ := cells7 HA2.out
  have HWB : Hid (∀ o n, Below w.heap.size w ((W2.alloc o).drewN n)) := fun o n => below_drewN (HB2.out.alloc HB2.out.size _) n
  have HDY : Hid (∀ o n, Calls Tryd.prog 18 #[.int .i64 (y : Int), .int .i64 (m : Int)] ((W2.alloc o).drewN n) fun e w' => e = .returned (.int .i64 (dmN y m : Nat)) ∧ w' = (W2.alloc o).drewN n) := fun o n => by
    have := days_any y m ((W2.alloc o).drewN n) (HG.out.below (HWB.out o n))
    rw [days_cast] at this
    exact this
  have HBO : Hid (∀ o n, ((W2.alloc o).drewN n).heap[B2]? = some (.cells #[.int .i64 (y : Int), .int .i64 (m : Int), .int .i64 (d : Int), .int .i64 ((h : Int) + 1), .int .i64 0, .int .i64 0, .int .i64 (K : Int)] 23)) := fun o n => (_root_.Go.heap_alloc_old _ _ (Array.getElem?_eq_some_iff.1 HN2.out).1).trans HN2.out
  have HBN : Hid (∀ o n, ((W2.alloc o).drewN n).heap[W2.heap.size]? = some o) := fun o n => _root_.Go.heap_alloc_new _ _
  generalize dmN y m = q at *
  go_wp2
  go_quiet ((go_at_call 18; exact Calls.quiet_of_same (HDY.out _ _)))
  go_wp2_with fail
  refine (HX.out _ (HG.out.below (HWB.out _ _))).mono ?_
  rintro _ w3 ⟨rfl, hb3⟩
  have HB3 := hidM ((HWB.out _ _).trans (hb3.mono (HWB.out _ _).size))
  have HP3 := hidM (box_kept (HBO.out _ _) hb3)
  have HW3 := hidM (box_kept (HBN.out _ _) hb3)
  clear hb3 HX
  go_wp2_with fail
  refine (HY.out w3 (HG.out.below HB3.out)).mono ?_
  rintro _ w4 ⟨rfl, hb4⟩
  have HB4 := hidM (HB3.out.trans (hb4.mono HB3.out.size))
  have HP4 := hidM (box_kept HP3.out hb4)
  have HW4 := hidM (box_kept HW3.out hb4)
  clear hb4 HY
  go_wp2_with fail
  refine (HAW.out w4 (HG.out.below HB4.out)).mono ?_
  rintro _ w5 ⟨rfl, hb5⟩
  have HB5 := hidM (HB4.out.trans (hb5.mono HB4.out.size))
  have HP5 := hidM (box_kept HP4.out hb5)
  have HW5 := hidM (box_kept HW4.out hb5)
  clear hb5 HAW c0 c1 c2 c3 c4 c5 c6
  obtain ⟨c0, c1, c2, c3, c4, c5, c6⟩ := cells7 HP5.out
  obtain ⟨p0, p1, p2, p3, p4, p5, p6⟩ := cells7 HW5.out
  rcases HQ.out with hg | ⟨hg, hl, he⟩
  · subst hg
    go_wp2
    go_ret
    exact ⟨rfl, HB5.out⟩
  · subst hg
    go_wp2
    go_ret
    exact ⟨rfl, HB5.out⟩
set_option maxHeartbeats 8000000 in
set_option maxRecDepth 100000 in
theorem next_d1 (t u : Int) (y m d h mi s K K2 : Nat) (X Y : ByteArray) (g : Int) (w : World) (hG : GT w) (h0 : -62135596800 ≤ t) (h1 : t < 253402300799)
    (hbd : Hid (1 ≤ y ∧ y ≤ 9999 ∧ 1 ≤ m ∧ m ≤ 12 ∧ 1 ≤ d ∧ d ≤ 31 ∧ h ≤ 23 ∧ mi ≤ 59 ∧ s ≤ 59 ∧ K ≤ 6)) (q1 : s = 59) (q3 : mi = 59) (q4 : h = 23) (hK2 : K2 = (K + 1) % 7) (q2 : d + 1 ≤ dmN y m)
    (HF : Hid (Calls Tryd.prog 7 #[.int .i64 t] w fun e w' => e = .returned (.tuple #[.agg #[.int .i64 (y : Int), .int .i64 (m : Int), .int .i64 (d : Int), .int .i64 (h : Int), .int .i64 (mi : Int), .int .i64 (s : Int), .int .i64 (K : Int)], .int .i64 0]) ∧ Below w.heap.size w w'))
    (HF2 : Hid (∀ V, GT V → Calls Tryd.prog 7 #[.int .i64 (t + 1)] V fun e w' => e = .returned (.tuple #[.agg #[.int .i64 (y : Int), .int .i64 (m : Int), .int .i64 ((d : Int) + 1), .int .i64 0, .int .i64 0, .int .i64 0, .int .i64 (K2 : Int)], .int .i64 0]) ∧ Below V.heap.size V w'))
    (HX : Hid (∀ V, GT V → Calls Tryd.prog 8 #[.int .i64 t] V fun x w' => x = .returned (.tuple #[.string X, .int .i64 0]) ∧ Below V.heap.size V w'))
    (HY : Hid (∀ V, GT V → Calls Tryd.prog 8 #[.int .i64 u] V fun x w' => x = .returned (.tuple #[.string Y, .int .i64 g]) ∧ Below V.heap.size V w'))
    (HQ : Hid (StQ t u X Y g)) :
    Calls Tryd.prog 5 #[.int .i64 t, .int .i64 u] w fun x w' => x = .returned (.bool true) ∧ Below w.heap.size w w' := by
  obtain ⟨y1, y2, m1, m2, d1, d2, hh, hmi, hs, hK⟩ := hbd.out
  have HG := hidM hG
  have HAW := hidM (fun V (hV : GT V) => awake_any V hV)
  have b0 : decide (253402300799 ≤ t) = false := by simp; omega
  have b1 : ((s : Int) + 1 == 60) = true := by simp; omega
  have b2 : ((mi : Int) + 1 == 60) = true := by simp; omega
  have b3 : ((h : Int) + 1 == 24) = true := by simp; omega
  have bw : ((K : Int) + 1).tmod 7 = (K2 : Int) := by rw [hK2]; exact tmod_cast (K + 1) 7
  have b4 : decide ((dmN y m : Int) < (d : Int) + 1) = false := by simp; omega
  have b5 : ((m : Int) == 13) = false := by simp; omega
  have HQ1 := hidM q1
  have HQ3 := hidM q3
  have HQ4 := hidM q4
  have HK2 := hidM hK2
  clear q1 q3 q4 hK2
  clear hG
  go_enter Tryd.func5, Tryd.ntmps5
  go_wp2_with fail
  refine HF.out.mono ?_
  rintro _ w1 ⟨rfl, hb1⟩
  have HB1 : Hid (Below w.heap.size w (w1.alloc (.cells #[.int .i64 (y : Int), .int .i64 (m : Int), .int .i64 (d : Int), .int .i64 (h : Int), .int .i64 (mi : Int), .int .i64 (s : Int), .int .i64 (K : Int)] 23))) := hb1.alloc hb1.size _
  have HA1 : Hid ((w1.alloc (.cells #[.int .i64 (y : Int), .int .i64 (m : Int), .int .i64 (d : Int), .int .i64 (h : Int), .int .i64 (mi : Int), .int .i64 (s : Int), .int .i64 (K : Int)] 23)).heap[w1.heap.size]? = some (.cells #[.int .i64 (y : Int), .int .i64 (m : Int), .int .i64 (d : Int), .int .i64 (h : Int), .int .i64 (mi : Int), .int .i64 (s : Int), .int .i64 (K : Int)] 23)) := _root_.Go.heap_alloc_new _ _
  clear hb1 HF
  go_wp2_with fail
  generalize (w1.alloc (.cells #[.int .i64 (y : Int), .int .i64 (m : Int), .int .i64 (d : Int), .int .i64 (h : Int), .int .i64 (mi : Int), .int .i64 (s : Int), .int .i64 (K : Int)] 23)) = W1 at *
  refine (HF2.out _ (HG.out.below HB1.out)).mono ?_
  rintro _ w2 ⟨rfl, hb2⟩
  have HB2 : Hid (Below w.heap.size w (w2.alloc (.cells #[.int .i64 (y : Int), .int .i64 (m : Int), .int .i64 ((d : Int) + 1), .int .i64 0, .int .i64 0, .int .i64 0, .int .i64 (K2 : Int)] 23))) := (HB1.out.trans (hb2.mono HB1.out.size)).alloc (HB1.out.trans (hb2.mono HB1.out.size)).size _
  have HA2 : Hid ((w2.alloc (.cells #[.int .i64 (y : Int), .int .i64 (m : Int), .int .i64 ((d : Int) + 1), .int .i64 0, .int .i64 0, .int .i64 0, .int .i64 (K2 : Int)] 23)).heap[w1.heap.size]? = some (.cells #[.int .i64 (y : Int), .int .i64 (m : Int), .int .i64 (d : Int), .int .i64 (h : Int), .int .i64 (mi : Int), .int .i64 (s : Int), .int .i64 (K : Int)] 23)) := (_root_.Go.heap_alloc_old _ _ (Array.getElem?_eq_some_iff.1 (box_kept HA1.out hb2)).1).trans (box_kept HA1.out hb2)
  have HN2 : Hid ((w2.alloc (.cells #[.int .i64 (y : Int), .int .i64 (m : Int), .int .i64 ((d : Int) + 1), .int .i64 0, .int .i64 0, .int .i64 0, .int .i64 (K2 : Int)] 23)).heap[w2.heap.size]? = some (.cells #[.int .i64 (y : Int), .int .i64 (m : Int), .int .i64 ((d : Int) + 1), .int .i64 0, .int .i64 0, .int .i64 0, .int .i64 (K2 : Int)] 23)) := _root_.Go.heap_alloc_new _ _
  clear hb2 HF2 HA1 HB1
  go_upto_region 7 with fail
  generalize (w2.alloc (.cells #[.int .i64 (y : Int), .int .i64 (m : Int), .int .i64 ((d : Int) + 1), .int .i64 0, .int .i64 0, .int .i64 0, .int .i64 (K2 : Int)] 23)) = W2 at *
  generalize w1.heap.size = B1 at *
  generalize w2.heap.size = B2 at *
  obtain ⟨c0, c1, c2, c3, c4, c5, c6⟩ := cells7 HA2.out
  have HWB : Hid (∀ o n, Below w.heap.size w ((W2.alloc o).drewN n)) := fun o n => below_drewN (HB2.out.alloc HB2.out.size _) n
  have HDY : Hid (∀ o n, Calls Tryd.prog 18 #[.int .i64 (y : Int), .int .i64 (m : Int)] ((W2.alloc o).drewN n) fun e w' => e = .returned (.int .i64 (dmN y m : Nat)) ∧ w' = (W2.alloc o).drewN n) := fun o n => by
    have := days_any y m ((W2.alloc o).drewN n) (HG.out.below (HWB.out o n))
    rw [days_cast] at this
    exact this
  have HBO : Hid (∀ o n, ((W2.alloc o).drewN n).heap[B2]? = some (.cells #[.int .i64 (y : Int), .int .i64 (m : Int), .int .i64 ((d : Int) + 1), .int .i64 0, .int .i64 0, .int .i64 0, .int .i64 (K2 : Int)] 23)) := fun o n => (_root_.Go.heap_alloc_old _ _ (Array.getElem?_eq_some_iff.1 HN2.out).1).trans HN2.out
  have HBN : Hid (∀ o n, ((W2.alloc o).drewN n).heap[W2.heap.size]? = some o) := fun o n => _root_.Go.heap_alloc_new _ _
  generalize dmN y m = q at *
  go_wp2
  go_quiet ((go_at_call 18; exact Calls.quiet_of_same (HDY.out _ _)))
  go_wp2_with fail
  refine (HX.out _ (HG.out.below (HWB.out _ _))).mono ?_
  rintro _ w3 ⟨rfl, hb3⟩
  have HB3 := hidM ((HWB.out _ _).trans (hb3.mono (HWB.out _ _).size))
  have HP3 := hidM (box_kept (HBO.out _ _) hb3)
  have HW3 := hidM (box_kept (HBN.out _ _) hb3)
  clear hb3 HX
  go_wp2_with fail
  refine (HY.out w3 (HG.out.below HB3.out)).mono ?_
  rintro _ w4 ⟨rfl, hb4⟩
  have HB4 := hidM (HB3.out.trans (hb4.mono HB3.out.size))
  have HP4 := hidM (box_kept HP3.out hb4)
  have HW4 := hidM (box_kept HW3.out hb4)
  clear hb4 HY
  go_wp2_with fail
  refine (HAW.out w4 (HG.out.below HB4.out)).mono ?_
  rintro _ w5 ⟨rfl, hb5⟩
  have HB5 := hidM (HB4.out.trans (hb5.mono HB4.out.size))
  have HP5 := hidM (box_kept HP4.out hb5)
  have HW5 := hidM (box_kept HW4.out hb5)
  clear hb5 HAW c0 c1 c2 c3 c4 c5 c6
  obtain ⟨c0, c1, c2, c3, c4, c5, c6⟩ := cells7 HP5.out
  obtain ⟨p0, p1, p2, p3, p4, p5, p6⟩ := cells7 HW5.out
  rcases HQ.out with hg | ⟨hg, hl, he⟩
  · subst hg
    go_wp2
    go_ret
    exact ⟨rfl, HB5.out⟩
  · subst hg
    go_wp2
    go_ret
    exact ⟨rfl, HB5.out⟩
set_option maxHeartbeats 8000000 in
set_option maxRecDepth 100000 in
theorem next_d2 (t u : Int) (y m d h mi s K K2 : Nat) (X Y : ByteArray) (g : Int) (w : World) (hG : GT w) (h0 : -62135596800 ≤ t) (h1 : t < 253402300799)
    (hbd : Hid (1 ≤ y ∧ y ≤ 9999 ∧ 1 ≤ m ∧ m ≤ 12 ∧ 1 ≤ d ∧ d ≤ 31 ∧ h ≤ 23 ∧ mi ≤ 59 ∧ s ≤ 59 ∧ K ≤ 6)) (q1 : s = 59) (q3 : mi = 59) (q4 : h = 23) (hK2 : K2 = (K + 1) % 7) (q2 : d = dmN y m) (q5 : m < 12)
    (HF : Hid (Calls Tryd.prog 7 #[.int .i64 t] w fun e w' => e = .returned (.tuple #[.agg #[.int .i64 (y : Int), .int .i64 (m : Int), .int .i64 (d : Int), .int .i64 (h : Int), .int .i64 (mi : Int), .int .i64 (s : Int), .int .i64 (K : Int)], .int .i64 0]) ∧ Below w.heap.size w w'))
    (HF2 : Hid (∀ V, GT V → Calls Tryd.prog 7 #[.int .i64 (t + 1)] V fun e w' => e = .returned (.tuple #[.agg #[.int .i64 (y : Int), .int .i64 ((m : Int) + 1), .int .i64 1, .int .i64 0, .int .i64 0, .int .i64 0, .int .i64 (K2 : Int)], .int .i64 0]) ∧ Below V.heap.size V w'))
    (HX : Hid (∀ V, GT V → Calls Tryd.prog 8 #[.int .i64 t] V fun x w' => x = .returned (.tuple #[.string X, .int .i64 0]) ∧ Below V.heap.size V w'))
    (HY : Hid (∀ V, GT V → Calls Tryd.prog 8 #[.int .i64 u] V fun x w' => x = .returned (.tuple #[.string Y, .int .i64 g]) ∧ Below V.heap.size V w'))
    (HQ : Hid (StQ t u X Y g)) :
    Calls Tryd.prog 5 #[.int .i64 t, .int .i64 u] w fun x w' => x = .returned (.bool true) ∧ Below w.heap.size w w' := by
  obtain ⟨y1, y2, m1, m2, d1, d2, hh, hmi, hs, hK⟩ := hbd.out
  have HG := hidM hG
  have HAW := hidM (fun V (hV : GT V) => awake_any V hV)
  have b0 : decide (253402300799 ≤ t) = false := by simp; omega
  have b1 : ((s : Int) + 1 == 60) = true := by simp; omega
  have b2 : ((mi : Int) + 1 == 60) = true := by simp; omega
  have b3 : ((h : Int) + 1 == 24) = true := by simp; omega
  have bw : ((K : Int) + 1).tmod 7 = (K2 : Int) := by rw [hK2]; exact tmod_cast (K + 1) 7
  have b4 : decide ((dmN y m : Int) < (d : Int) + 1) = true := by simp; omega
  have b5 : ((m : Int) + 1 == 13) = false := by simp; omega
  have HQ1 := hidM q1
  have HQ3 := hidM q3
  have HQ4 := hidM q4
  have HK2 := hidM hK2
  clear q1 q3 q4 hK2
  clear q2
  clear hG
  go_enter Tryd.func5, Tryd.ntmps5
  go_wp2_with fail
  refine HF.out.mono ?_
  rintro _ w1 ⟨rfl, hb1⟩
  have HB1 : Hid (Below w.heap.size w (w1.alloc (.cells #[.int .i64 (y : Int), .int .i64 (m : Int), .int .i64 (d : Int), .int .i64 (h : Int), .int .i64 (mi : Int), .int .i64 (s : Int), .int .i64 (K : Int)] 23))) := hb1.alloc hb1.size _
  have HA1 : Hid ((w1.alloc (.cells #[.int .i64 (y : Int), .int .i64 (m : Int), .int .i64 (d : Int), .int .i64 (h : Int), .int .i64 (mi : Int), .int .i64 (s : Int), .int .i64 (K : Int)] 23)).heap[w1.heap.size]? = some (.cells #[.int .i64 (y : Int), .int .i64 (m : Int), .int .i64 (d : Int), .int .i64 (h : Int), .int .i64 (mi : Int), .int .i64 (s : Int), .int .i64 (K : Int)] 23)) := _root_.Go.heap_alloc_new _ _
  clear hb1 HF
  go_wp2_with fail
  generalize (w1.alloc (.cells #[.int .i64 (y : Int), .int .i64 (m : Int), .int .i64 (d : Int), .int .i64 (h : Int), .int .i64 (mi : Int), .int .i64 (s : Int), .int .i64 (K : Int)] 23)) = W1 at *
  refine (HF2.out _ (HG.out.below HB1.out)).mono ?_
  rintro _ w2 ⟨rfl, hb2⟩
  have HB2 : Hid (Below w.heap.size w (w2.alloc (.cells #[.int .i64 (y : Int), .int .i64 ((m : Int) + 1), .int .i64 1, .int .i64 0, .int .i64 0, .int .i64 0, .int .i64 (K2 : Int)] 23))) := (HB1.out.trans (hb2.mono HB1.out.size)).alloc (HB1.out.trans (hb2.mono HB1.out.size)).size _
  have HA2 : Hid ((w2.alloc (.cells #[.int .i64 (y : Int), .int .i64 ((m : Int) + 1), .int .i64 1, .int .i64 0, .int .i64 0, .int .i64 0, .int .i64 (K2 : Int)] 23)).heap[w1.heap.size]? = some (.cells #[.int .i64 (y : Int), .int .i64 (m : Int), .int .i64 (d : Int), .int .i64 (h : Int), .int .i64 (mi : Int), .int .i64 (s : Int), .int .i64 (K : Int)] 23)) := (_root_.Go.heap_alloc_old _ _ (Array.getElem?_eq_some_iff.1 (box_kept HA1.out hb2)).1).trans (box_kept HA1.out hb2)
  have HN2 : Hid ((w2.alloc (.cells #[.int .i64 (y : Int), .int .i64 ((m : Int) + 1), .int .i64 1, .int .i64 0, .int .i64 0, .int .i64 0, .int .i64 (K2 : Int)] 23)).heap[w2.heap.size]? = some (.cells #[.int .i64 (y : Int), .int .i64 ((m : Int) + 1), .int .i64 1, .int .i64 0, .int .i64 0, .int .i64 0, .int .i64 (K2 : Int)] 23)) := _root_.Go.heap_alloc_new _ _
  clear hb2 HF2 HA1 HB1
  go_upto_region 7 with fail
  generalize (w2.alloc (.cells #[.int .i64 (y : Int), .int .i64 ((m : Int) + 1), .int .i64 1, .int .i64 0, .int .i64 0, .int .i64 0, .int .i64 (K2 : Int)] 23)) = W2 at *
  generalize w1.heap.size = B1 at *
  generalize w2.heap.size = B2 at *
  obtain ⟨c0, c1, c2, c3, c4, c5, c6⟩ := cells7 HA2.out
  have HWB : Hid (∀ o n, Below w.heap.size w ((W2.alloc o).drewN n)) := fun o n => below_drewN (HB2.out.alloc HB2.out.size _) n
  have HDY : Hid (∀ o n, Calls Tryd.prog 18 #[.int .i64 (y : Int), .int .i64 (m : Int)] ((W2.alloc o).drewN n) fun e w' => e = .returned (.int .i64 (dmN y m : Nat)) ∧ w' = (W2.alloc o).drewN n) := fun o n => by
    have := days_any y m ((W2.alloc o).drewN n) (HG.out.below (HWB.out o n))
    rw [days_cast] at this
    exact this
  have HBO : Hid (∀ o n, ((W2.alloc o).drewN n).heap[B2]? = some (.cells #[.int .i64 (y : Int), .int .i64 ((m : Int) + 1), .int .i64 1, .int .i64 0, .int .i64 0, .int .i64 0, .int .i64 (K2 : Int)] 23)) := fun o n => (_root_.Go.heap_alloc_old _ _ (Array.getElem?_eq_some_iff.1 HN2.out).1).trans HN2.out
  have HBN : Hid (∀ o n, ((W2.alloc o).drewN n).heap[W2.heap.size]? = some o) := fun o n => _root_.Go.heap_alloc_new _ _
  generalize dmN y m = q at *
  go_wp2
  go_quiet ((go_at_call 18; exact Calls.quiet_of_same (HDY.out _ _)))
  go_wp2_with fail
  have HVB : Hid (Below w.heap.size w ((((W2.alloc (.cells #[.int .i64 (y : Int), .int .i64 (m : Int), .int .i64 ((d : Int) + 1), .int .i64 0, .int .i64 0, .int .i64 0, .int .i64 (K2 : Int)] 23)).drewN nq).setCell ⟨W2.heap.size, 2, none⟩ (.int .i64 1)).setCell ⟨W2.heap.size, 1, none⟩ (.int .i64 ((m : Int) + 1)))) := set_below (set_below (HWB.out _ _) HB2.out.size) HB2.out.size
  have HVP : Hid (((((W2.alloc (.cells #[.int .i64 (y : Int), .int .i64 (m : Int), .int .i64 ((d : Int) + 1), .int .i64 0, .int .i64 0, .int .i64 0, .int .i64 (K2 : Int)] 23)).drewN nq).setCell ⟨W2.heap.size, 2, none⟩ (.int .i64 1)).setCell ⟨W2.heap.size, 1, none⟩ (.int .i64 ((m : Int) + 1))).heap[B2]? = some (.cells #[.int .i64 (y : Int), .int .i64 ((m : Int) + 1), .int .i64 1, .int .i64 0, .int .i64 0, .int .i64 0, .int .i64 (K2 : Int)] 23)) := set_other (Nat.ne_of_lt (Array.getElem?_eq_some_iff.1 HN2.out).1) (set_other (Nat.ne_of_lt (Array.getElem?_eq_some_iff.1 HN2.out).1) (HBO.out _ _))
  have HVW : Hid (((((W2.alloc (.cells #[.int .i64 (y : Int), .int .i64 (m : Int), .int .i64 ((d : Int) + 1), .int .i64 0, .int .i64 0, .int .i64 0, .int .i64 (K2 : Int)] 23)).drewN nq).setCell ⟨W2.heap.size, 2, none⟩ (.int .i64 1)).setCell ⟨W2.heap.size, 1, none⟩ (.int .i64 ((m : Int) + 1))).heap[W2.heap.size]? = some (.cells #[.int .i64 (y : Int), .int .i64 ((m : Int) + 1), .int .i64 1, .int .i64 0, .int .i64 0, .int .i64 0, .int .i64 (K2 : Int)] 23)) := set_block (set_block (HBN.out _ _))
  generalize ((((W2.alloc (.cells #[.int .i64 (y : Int), .int .i64 (m : Int), .int .i64 ((d : Int) + 1), .int .i64 0, .int .i64 0, .int .i64 0, .int .i64 (K2 : Int)] 23)).drewN nq).setCell ⟨W2.heap.size, 2, none⟩ (.int .i64 1)).setCell ⟨W2.heap.size, 1, none⟩ (.int .i64 ((m : Int) + 1))) = V at *
  refine (HX.out _ (HG.out.below HVB.out)).mono ?_
  rintro _ w3 ⟨rfl, hb3⟩
  have HB3 := hidM (HVB.out.trans (hb3.mono HVB.out.size))
  have HP3 := hidM (box_kept HVP.out hb3)
  have HW3 := hidM (box_kept HVW.out hb3)
  clear hb3 HX
  go_wp2_with fail
  refine (HY.out w3 (HG.out.below HB3.out)).mono ?_
  rintro _ w4 ⟨rfl, hb4⟩
  have HB4 := hidM (HB3.out.trans (hb4.mono HB3.out.size))
  have HP4 := hidM (box_kept HP3.out hb4)
  have HW4 := hidM (box_kept HW3.out hb4)
  clear hb4 HY
  go_wp2_with fail
  refine (HAW.out w4 (HG.out.below HB4.out)).mono ?_
  rintro _ w5 ⟨rfl, hb5⟩
  have HB5 := hidM (HB4.out.trans (hb5.mono HB4.out.size))
  have HP5 := hidM (box_kept HP4.out hb5)
  have HW5 := hidM (box_kept HW4.out hb5)
  clear hb5 HAW c0 c1 c2 c3 c4 c5 c6
  obtain ⟨c0, c1, c2, c3, c4, c5, c6⟩ := cells7 HP5.out
  obtain ⟨p0, p1, p2, p3, p4, p5, p6⟩ := cells7 HW5.out
  rcases HQ.out with hg | ⟨hg, hl, he⟩
  · subst hg
    go_wp2
    go_ret
    exact ⟨rfl, HB5.out⟩
  · subst hg
    go_wp2
    go_ret
    exact ⟨rfl, HB5.out⟩
set_option maxHeartbeats 8000000 in
set_option maxRecDepth 100000 in
theorem next_d3 (t u : Int) (y m d h mi s K K2 : Nat) (X Y : ByteArray) (g : Int) (w : World) (hG : GT w) (h0 : -62135596800 ≤ t) (h1 : t < 253402300799)
    (hbd : Hid (1 ≤ y ∧ y ≤ 9999 ∧ 1 ≤ m ∧ m ≤ 12 ∧ 1 ≤ d ∧ d ≤ 31 ∧ h ≤ 23 ∧ mi ≤ 59 ∧ s ≤ 59 ∧ K ≤ 6)) (q1 : s = 59) (q3 : mi = 59) (q4 : h = 23) (hK2 : K2 = (K + 1) % 7) (q2 : d = dmN y m) (q5 : m = 12)
    (HF : Hid (Calls Tryd.prog 7 #[.int .i64 t] w fun e w' => e = .returned (.tuple #[.agg #[.int .i64 (y : Int), .int .i64 (m : Int), .int .i64 (d : Int), .int .i64 (h : Int), .int .i64 (mi : Int), .int .i64 (s : Int), .int .i64 (K : Int)], .int .i64 0]) ∧ Below w.heap.size w w'))
    (HF2 : Hid (∀ V, GT V → Calls Tryd.prog 7 #[.int .i64 (t + 1)] V fun e w' => e = .returned (.tuple #[.agg #[.int .i64 ((y : Int) + 1), .int .i64 1, .int .i64 1, .int .i64 0, .int .i64 0, .int .i64 0, .int .i64 (K2 : Int)], .int .i64 0]) ∧ Below V.heap.size V w'))
    (HX : Hid (∀ V, GT V → Calls Tryd.prog 8 #[.int .i64 t] V fun x w' => x = .returned (.tuple #[.string X, .int .i64 0]) ∧ Below V.heap.size V w'))
    (HY : Hid (∀ V, GT V → Calls Tryd.prog 8 #[.int .i64 u] V fun x w' => x = .returned (.tuple #[.string Y, .int .i64 g]) ∧ Below V.heap.size V w'))
    (HQ : Hid (StQ t u X Y g)) :
    Calls Tryd.prog 5 #[.int .i64 t, .int .i64 u] w fun x w' => x = .returned (.bool true) ∧ Below w.heap.size w w' := by
  obtain ⟨y1, y2, m1, m2, d1, d2, hh, hmi, hs, hK⟩ := hbd.out
  have HG := hidM hG
  have HAW := hidM (fun V (hV : GT V) => awake_any V hV)
  have b0 : decide (253402300799 ≤ t) = false := by simp; omega
  have b1 : ((s : Int) + 1 == 60) = true := by simp; omega
  have b2 : ((mi : Int) + 1 == 60) = true := by simp; omega
  have b3 : ((h : Int) + 1 == 24) = true := by simp; omega
  have bw : ((K : Int) + 1).tmod 7 = (K2 : Int) := by rw [hK2]; exact tmod_cast (K + 1) 7
  have b4 : decide ((dmN y m : Int) < (d : Int) + 1) = true := by simp; omega
  have b5 : ((m : Int) + 1 == 13) = true := by simp; omega
  have HQ1 := hidM q1
  have HQ3 := hidM q3
  have HQ4 := hidM q4
  have HK2 := hidM hK2
  clear q1 q3 q4 hK2
  clear q2 q5
  clear hG
  go_enter Tryd.func5, Tryd.ntmps5
  go_wp2_with fail
  refine HF.out.mono ?_
  rintro _ w1 ⟨rfl, hb1⟩
  have HB1 : Hid (Below w.heap.size w (w1.alloc (.cells #[.int .i64 (y : Int), .int .i64 (m : Int), .int .i64 (d : Int), .int .i64 (h : Int), .int .i64 (mi : Int), .int .i64 (s : Int), .int .i64 (K : Int)] 23))) := hb1.alloc hb1.size _
  have HA1 : Hid ((w1.alloc (.cells #[.int .i64 (y : Int), .int .i64 (m : Int), .int .i64 (d : Int), .int .i64 (h : Int), .int .i64 (mi : Int), .int .i64 (s : Int), .int .i64 (K : Int)] 23)).heap[w1.heap.size]? = some (.cells #[.int .i64 (y : Int), .int .i64 (m : Int), .int .i64 (d : Int), .int .i64 (h : Int), .int .i64 (mi : Int), .int .i64 (s : Int), .int .i64 (K : Int)] 23)) := _root_.Go.heap_alloc_new _ _
  clear hb1 HF
  go_wp2_with fail
  generalize (w1.alloc (.cells #[.int .i64 (y : Int), .int .i64 (m : Int), .int .i64 (d : Int), .int .i64 (h : Int), .int .i64 (mi : Int), .int .i64 (s : Int), .int .i64 (K : Int)] 23)) = W1 at *
  refine (HF2.out _ (HG.out.below HB1.out)).mono ?_
  rintro _ w2 ⟨rfl, hb2⟩
  have HB2 : Hid (Below w.heap.size w (w2.alloc (.cells #[.int .i64 ((y : Int) + 1), .int .i64 1, .int .i64 1, .int .i64 0, .int .i64 0, .int .i64 0, .int .i64 (K2 : Int)] 23))) := (HB1.out.trans (hb2.mono HB1.out.size)).alloc (HB1.out.trans (hb2.mono HB1.out.size)).size _
  have HA2 : Hid ((w2.alloc (.cells #[.int .i64 ((y : Int) + 1), .int .i64 1, .int .i64 1, .int .i64 0, .int .i64 0, .int .i64 0, .int .i64 (K2 : Int)] 23)).heap[w1.heap.size]? = some (.cells #[.int .i64 (y : Int), .int .i64 (m : Int), .int .i64 (d : Int), .int .i64 (h : Int), .int .i64 (mi : Int), .int .i64 (s : Int), .int .i64 (K : Int)] 23)) := (_root_.Go.heap_alloc_old _ _ (Array.getElem?_eq_some_iff.1 (box_kept HA1.out hb2)).1).trans (box_kept HA1.out hb2)
  have HN2 : Hid ((w2.alloc (.cells #[.int .i64 ((y : Int) + 1), .int .i64 1, .int .i64 1, .int .i64 0, .int .i64 0, .int .i64 0, .int .i64 (K2 : Int)] 23)).heap[w2.heap.size]? = some (.cells #[.int .i64 ((y : Int) + 1), .int .i64 1, .int .i64 1, .int .i64 0, .int .i64 0, .int .i64 0, .int .i64 (K2 : Int)] 23)) := _root_.Go.heap_alloc_new _ _
  clear hb2 HF2 HA1 HB1
  go_upto_region 7 with fail
  generalize (w2.alloc (.cells #[.int .i64 ((y : Int) + 1), .int .i64 1, .int .i64 1, .int .i64 0, .int .i64 0, .int .i64 0, .int .i64 (K2 : Int)] 23)) = W2 at *
  generalize w1.heap.size = B1 at *
  generalize w2.heap.size = B2 at *
  obtain ⟨c0, c1, c2, c3, c4, c5, c6⟩ := cells7 HA2.out
  have HWB : Hid (∀ o n, Below w.heap.size w ((W2.alloc o).drewN n)) := fun o n => below_drewN (HB2.out.alloc HB2.out.size _) n
  have HDY : Hid (∀ o n, Calls Tryd.prog 18 #[.int .i64 (y : Int), .int .i64 (m : Int)] ((W2.alloc o).drewN n) fun e w' => e = .returned (.int .i64 (dmN y m : Nat)) ∧ w' = (W2.alloc o).drewN n) := fun o n => by
    have := days_any y m ((W2.alloc o).drewN n) (HG.out.below (HWB.out o n))
    rw [days_cast] at this
    exact this
  have HBO : Hid (∀ o n, ((W2.alloc o).drewN n).heap[B2]? = some (.cells #[.int .i64 ((y : Int) + 1), .int .i64 1, .int .i64 1, .int .i64 0, .int .i64 0, .int .i64 0, .int .i64 (K2 : Int)] 23)) := fun o n => (_root_.Go.heap_alloc_old _ _ (Array.getElem?_eq_some_iff.1 HN2.out).1).trans HN2.out
  have HBN : Hid (∀ o n, ((W2.alloc o).drewN n).heap[W2.heap.size]? = some o) := fun o n => _root_.Go.heap_alloc_new _ _
  generalize dmN y m = q at *
  go_wp2
  go_quiet ((go_at_call 18; exact Calls.quiet_of_same (HDY.out _ _)))
  go_wp2_with fail
  have HVB : Hid (Below w.heap.size w ((((((W2.alloc (.cells #[.int .i64 (y : Int), .int .i64 (m : Int), .int .i64 ((d : Int) + 1), .int .i64 0, .int .i64 0, .int .i64 0, .int .i64 (K2 : Int)] 23)).drewN nq).setCell ⟨W2.heap.size, 2, none⟩ (.int .i64 1)).setCell ⟨W2.heap.size, 1, none⟩ (.int .i64 ((m : Int) + 1))).setCell ⟨W2.heap.size, 1, none⟩ (.int .i64 1)).setCell ⟨W2.heap.size, 0, none⟩ (.int .i64 ((y : Int) + 1)))) := set_below (set_below (set_below (set_below (HWB.out _ _) HB2.out.size) HB2.out.size) HB2.out.size) HB2.out.size
  have HVP : Hid (((((((W2.alloc (.cells #[.int .i64 (y : Int), .int .i64 (m : Int), .int .i64 ((d : Int) + 1), .int .i64 0, .int .i64 0, .int .i64 0, .int .i64 (K2 : Int)] 23)).drewN nq).setCell ⟨W2.heap.size, 2, none⟩ (.int .i64 1)).setCell ⟨W2.heap.size, 1, none⟩ (.int .i64 ((m : Int) + 1))).setCell ⟨W2.heap.size, 1, none⟩ (.int .i64 1)).setCell ⟨W2.heap.size, 0, none⟩ (.int .i64 ((y : Int) + 1))).heap[B2]? = some (.cells #[.int .i64 ((y : Int) + 1), .int .i64 1, .int .i64 1, .int .i64 0, .int .i64 0, .int .i64 0, .int .i64 (K2 : Int)] 23)) := set_other (Nat.ne_of_lt (Array.getElem?_eq_some_iff.1 HN2.out).1) (set_other (Nat.ne_of_lt (Array.getElem?_eq_some_iff.1 HN2.out).1) (set_other (Nat.ne_of_lt (Array.getElem?_eq_some_iff.1 HN2.out).1) (set_other (Nat.ne_of_lt (Array.getElem?_eq_some_iff.1 HN2.out).1) (HBO.out _ _))))
  have HVW : Hid (((((((W2.alloc (.cells #[.int .i64 (y : Int), .int .i64 (m : Int), .int .i64 ((d : Int) + 1), .int .i64 0, .int .i64 0, .int .i64 0, .int .i64 (K2 : Int)] 23)).drewN nq).setCell ⟨W2.heap.size, 2, none⟩ (.int .i64 1)).setCell ⟨W2.heap.size, 1, none⟩ (.int .i64 ((m : Int) + 1))).setCell ⟨W2.heap.size, 1, none⟩ (.int .i64 1)).setCell ⟨W2.heap.size, 0, none⟩ (.int .i64 ((y : Int) + 1))).heap[W2.heap.size]? = some (.cells #[.int .i64 ((y : Int) + 1), .int .i64 1, .int .i64 1, .int .i64 0, .int .i64 0, .int .i64 0, .int .i64 (K2 : Int)] 23)) := set_block (set_block (set_block (set_block (HBN.out _ _))))
  generalize ((((((W2.alloc (.cells #[.int .i64 (y : Int), .int .i64 (m : Int), .int .i64 ((d : Int) + 1), .int .i64 0, .int .i64 0, .int .i64 0, .int .i64 (K2 : Int)] 23)).drewN nq).setCell ⟨W2.heap.size, 2, none⟩ (.int .i64 1)).setCell ⟨W2.heap.size, 1, none⟩ (.int .i64 ((m : Int) + 1))).setCell ⟨W2.heap.size, 1, none⟩ (.int .i64 1)).setCell ⟨W2.heap.size, 0, none⟩ (.int .i64 ((y : Int) + 1))) = V at *
  refine (HX.out _ (HG.out.below HVB.out)).mono ?_
  rintro _ w3 ⟨rfl, hb3⟩
  have HB3 := hidM (HVB.out.trans (hb3.mono HVB.out.size))
  have HP3 := hidM (box_kept HVP.out hb3)
  have HW3 := hidM (box_kept HVW.out hb3)
  clear hb3 HX
  go_wp2_with fail
  refine (HY.out w3 (HG.out.below HB3.out)).mono ?_
  rintro _ w4 ⟨rfl, hb4⟩
  have HB4 := hidM (HB3.out.trans (hb4.mono HB3.out.size))
  have HP4 := hidM (box_kept HP3.out hb4)
  have HW4 := hidM (box_kept HW3.out hb4)
  clear hb4 HY
  go_wp2_with fail
  refine (HAW.out w4 (HG.out.below HB4.out)).mono ?_
  rintro _ w5 ⟨rfl, hb5⟩
  have HB5 := hidM (HB4.out.trans (hb5.mono HB4.out.size))
  have HP5 := hidM (box_kept HP4.out hb5)
  have HW5 := hidM (box_kept HW4.out hb5)
  clear hb5 HAW c0 c1 c2 c3 c4 c5 c6
  obtain ⟨c0, c1, c2, c3, c4, c5, c6⟩ := cells7 HP5.out
  obtain ⟨p0, p1, p2, p3, p4, p5, p6⟩ := cells7 HW5.out
  rcases HQ.out with hg | ⟨hg, hl, he⟩
  · subst hg
    go_wp2
    go_ret
    exact ⟨rfl, HB5.out⟩
  · subst hg
    go_wp2
    go_ret
    exact ⟨rfl, HB5.out⟩
set_option maxHeartbeats 2000000 in
set_option maxRecDepth 100000 in
theorem next_out (t u : Int) (w : World) (hG : GT w) (ht : t < -62135596800 ∨ 253402300799 < t) :
    Calls Tryd.prog 5 #[.int .i64 t, .int .i64 u] w fun x w' => x = .returned (.bool true) ∧ Below w.heap.size w w' := by
  have HF := hidM (from_no t w ht)
  have HAW := hidM (fun V (hV : GT V) => awake_any V hV)
  have HG := hidM hG
  clear ht hG
  go_enter Tryd.func5, Tryd.ntmps5
  go_wp2_with fail
  refine HF.out.mono ?_
  rintro _ w1 ⟨rfl, hb1⟩
  have HB1 : Hid (Below w.heap.size w (w1.alloc (.cells #[.int .i64 0, .int .i64 0, .int .i64 0, .int .i64 0, .int .i64 0, .int .i64 0, .int .i64 0] 23))) := hb1.alloc hb1.size _
  clear hb1 HF
  go_wp2_with fail
  refine (HAW.out _ (HG.out.below HB1.out)).mono ?_
  rintro _ w2 ⟨rfl, hb2⟩
  have HB2 := hidM (HB1.out.trans (hb2.mono HB1.out.size))
  clear hb2
  go_wp2
  go_ret
  exact ⟨rfl, HB2.out⟩
set_option maxHeartbeats 2000000 in
set_option maxRecDepth 100000 in
theorem next_last (u : Int) (w : World) (hG : GT w) :
    Calls Tryd.prog 5 #[.int .i64 253402300799, .int .i64 u] w fun x w' => x = .returned (.bool true) ∧ Below w.heap.size w w' := by
  obtain ⟨y, m, d, h, mi, s, H⟩ : ∃ y m d h mi s, IsDate 315537897599 y m d h mi s := by
    obtain ⟨y, m, d, H⟩ := date_ex 315537897599 (by decide)
    exact ⟨y, m, d, _, _, _, H⟩
  have HF := hidM (from_at 253402300799 315537897599 y m d h mi s w hG (by decide) H)
  have HAW := hidM (fun V (hV : GT V) => awake_any V hV)
  have HG := hidM hG
  clear hG H
  generalize (1 + 315537897599 / 86400) % 7 = K at *
  go_enter Tryd.func5, Tryd.ntmps5
  go_wp2_with fail
  refine HF.out.mono ?_
  rintro _ w1 ⟨rfl, hb1⟩
  have HB1 : Hid (Below w.heap.size w (w1.alloc (.cells #[.int .i64 (y : Int), .int .i64 (m : Int), .int .i64 (d : Int), .int .i64 (h : Int), .int .i64 (mi : Int), .int .i64 (s : Int), .int .i64 (K : Int)] 23))) := hb1.alloc hb1.size _
  clear hb1 HF
  go_wp2_with fail
  refine (HAW.out _ (HG.out.below HB1.out)).mono ?_
  rintro _ w2 ⟨rfl, hb2⟩
  have HB2 := hidM (HB1.out.trans (hb2.mono HB1.out.size))
  clear hb2
  go_wp2
  go_ret
  exact ⟨rfl, HB2.out⟩
theorem next_walk (t u : Int) (w : World) (hG : GT w) : Calls Tryd.prog 5 #[.int .i64 t, .int .i64 u] w fun x w' => x = .returned (.bool true) ∧ Below w.heap.size w w' := by
  by_cases ho : t < -62135596800 ∨ 253402300799 < t
  · exact next_out t u w hG ho
  · by_cases hl : t = 253402300799
    · subst hl; exact next_last u w hG
    · obtain ⟨T, hT⟩ : ∃ T : Nat, t = (T : Int) - 62135596800 := ⟨(t + 62135596800).toNat, by omega⟩
      obtain ⟨y, m, d, H⟩ := date_ex T (by omega)
      obtain ⟨h, hh⟩ : ∃ h, h = T % 86400 / 3600 := ⟨_, rfl⟩
      obtain ⟨mi, hmi⟩ : ∃ mi, mi = T % 86400 / 60 % 60 := ⟨_, rfl⟩
      obtain ⟨s, hs⟩ : ∃ s, s = T % 86400 % 60 := ⟨_, rfl⟩
      rw [← hh, ← hmi, ← hs] at H
      obtain ⟨Y, g, hq, hY⟩ := stamp_q t u T y m d h mi s hT H
      have hF := from_at t T y m d h mi s w hG hT H
      have hX := fun V (hV : GT V) => stamp_at t T y m d h mi s V hV hT H
      have hT1 : t + 1 = ((T + 1 : Nat) : Int) - 62135596800 := by omega
      obtain ⟨_, c2, c3, c4⟩ := clock (Nat.mod_lt T (by decide)) hh hmi hs
      have hd31 : d ≤ 31 := Nat.le_trans H.day.d2 (dm_le _ _)
      have hbd : 1 ≤ y ∧ y ≤ 9999 ∧ 1 ≤ m ∧ m ≤ 12 ∧ 1 ≤ d ∧ d ≤ 31 ∧ h ≤ 23 ∧ mi ≤ 59 ∧ s ≤ 59 ∧ (1 + T / 86400) % 7 ≤ 6 := ⟨H.day.y1, H.day.y2, H.day.m1, H.day.m2, H.day.d1, hd31, by omega, by omega, by omega, by omega⟩
      rcases next_date H (by omega) with ⟨q1, H2, hw⟩ | ⟨q1, q3, H2, hw⟩ | ⟨q1, q3, q4, H2, hw⟩ | ⟨q1, q3, q4, hw, ⟨q2, H2⟩ | ⟨q2, q5, H2⟩ | ⟨q2, q5, H2⟩⟩
      · exact next_a t u y m d h mi s _ _ Y g w hG (by omega) (by omega) hbd q1 H.day.d2 hF (fun V hV => by have := from_at (t + 1) (T + 1) _ _ _ _ _ _ V hV hT1 H2; rw [hw] at this; exact this) hX hY hq
      · exact next_b t u y m d h mi s _ _ Y g w hG (by omega) (by omega) hbd q1 q3 H.day.d2 hF (fun V hV => by have := from_at (t + 1) (T + 1) _ _ _ _ _ _ V hV hT1 H2; rw [hw] at this; exact this) hX hY hq
      · exact next_c t u y m d h mi s _ _ Y g w hG (by omega) (by omega) hbd q1 q3 q4 H.day.d2 hF (fun V hV => by have := from_at (t + 1) (T + 1) _ _ _ _ _ _ V hV hT1 H2; rw [hw] at this; exact this) hX hY hq
      · exact next_d1 t u y m d h mi s _ _ _ Y g w hG (by omega) (by omega) hbd q1 q3 q4 (by rw [hw]; omega) q2 hF (fun V hV => from_at (t + 1) (T + 1) _ _ _ _ _ _ V hV hT1 H2) hX hY hq
      · exact next_d2 t u y m d h mi s _ _ _ Y g w hG (by omega) (by omega) hbd q1 q3 q4 (by rw [hw]; omega) q2 q5 hF (fun V hV => from_at (t + 1) (T + 1) _ _ _ _ _ _ V hV hT1 H2) hX hY hq
      · exact next_d3 t u y m d h mi s _ _ _ Y g w hG (by omega) (by omega) hbd q1 q3 q4 (by rw [hw]; omega) q2 q5 hF (fun V hV => from_at (t + 1) (T + 1) _ _ _ _ _ _ V hV hT1 H2) hX hY hq
end Go.Proofs.YtnibcnafbmcdbaaDoor
