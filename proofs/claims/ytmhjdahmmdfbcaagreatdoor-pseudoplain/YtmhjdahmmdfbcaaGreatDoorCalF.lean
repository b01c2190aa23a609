/-
  Walks of calendar: written, Stamp, Text.
-/
import Derived.Test.YtmhjdahmmdfbcaaGreatDoorCalE
namespace Go.Proofs.YtmhjdahmmdfbcaaGreatDoor
open Go.RowKit
/-- the two boxes of written: the marks at the first block, the date at B -/
structure WrS (w : World) (B : Nat) (a b c e : ByteArray) (y m d h mi s k : Int) (V : World) : Prop where
  bel : Below w.heap.size w V
  lt : w.heap.size < B
  bm : V.heap[w.heap.size]? = some (.cells #[.string a, .string b, .string c, .string e] 93)
  bd : V.heap[B]? = some (.cells #[.int .i64 y, .int .i64 m, .int .i64 d, .int .i64 h, .int .i64 mi, .int .i64 s, .int .i64 k] 111)
def WrC (w : World) (B : Nat) (a b c e : ByteArray) (y m d h mi s : Int) (V : World) : Prop :=
  V.cell? ⟨w.heap.size, 0, none⟩ = some (.string a) ∧ V.cell? ⟨w.heap.size, 1, none⟩ = some (.string b) ∧ V.cell? ⟨w.heap.size, 2, none⟩ = some (.string c) ∧ V.cell? ⟨w.heap.size, 3, none⟩ = some (.string e) ∧
  V.cell? ⟨B, 0, none⟩ = some (.int .i64 y) ∧ V.cell? ⟨B, 1, none⟩ = some (.int .i64 m) ∧ V.cell? ⟨B, 2, none⟩ = some (.int .i64 d) ∧ V.cell? ⟨B, 3, none⟩ = some (.int .i64 h) ∧ V.cell? ⟨B, 4, none⟩ = some (.int .i64 mi) ∧ V.cell? ⟨B, 5, none⟩ = some (.int .i64 s)
variable {w V w' : World} {B : Nat} {a b c e : ByteArray} {y m d h mi s k : Int}
theorem WrS.cells (H : WrS w B a b c e y m d h mi s k V) : WrC w B a b c e y m d h mi s V := by
  obtain ⟨c0, c1, c2, c3, c4, c5, c6⟩ := cells7 H.bd
  refine ⟨?_, ?_, ?_, ?_, c0, c1, c2, c3, c4, c5⟩ <;> rw [cell_of_row _ _ _ _ 93 (0, 0) H.bm] <;> rfl
theorem WrS.next (H : WrS w B a b c e y m d h mi s k V) (hb : Below V.heap.size V w') : WrS w B a b c e y m d h mi s k w' :=
  ⟨H.bel.trans (hb.mono H.bel.size), H.lt, box_kept H.bm hb, box_kept H.bd hb⟩
theorem WrS.drew (H : Hid (WrS w B a b c e y m d h mi s k V)) : Hid (WrS w B a b c e y m d h mi s k V.drew) := ⟨H.out.bel.trans ⟨rfl, rfl, rfl, Nat.le_refl _, fun _ _ => rfl⟩, H.out.lt, H.out.bm, H.out.bd⟩
theorem WrS.drewN (H : Hid (WrS w B a b c e y m d h mi s k V)) (n : Nat) : Hid (WrS w B a b c e y m d h mi s k (V.drewN n)) := ⟨below_drewN H.out.bel n, H.out.lt, H.out.bm, H.out.bd⟩
theorem WrS.four (H : WrS w B a b c e y m d h mi s k V) : V.cell? ⟨w.heap.size, 0, none⟩ = some (.string a) ∧ V.cell? ⟨B, 0, none⟩ = some (.int .i64 y) ∧ V.cell? ⟨B, 1, none⟩ = some (.int .i64 m) ∧ V.cell? ⟨B, 2, none⟩ = some (.int .i64 d) ∧ Hid (WrS w B a b c e y m d h mi s k V) := by
  obtain ⟨g0, g1, g2, g3, e0, e1, e2, e3, e4, e5⟩ := H.cells
  exact ⟨g0, e0, e1, e2, H⟩
theorem WrS.five (H : WrS w B a b c e y m d h mi s k V) : V.cell? ⟨w.heap.size, 2, none⟩ = some (.string c) ∧ V.cell? ⟨B, 3, none⟩ = some (.int .i64 h) ∧ V.cell? ⟨B, 4, none⟩ = some (.int .i64 mi) ∧ V.cell? ⟨B, 5, none⟩ = some (.int .i64 s) ∧ Hid (WrS w B a b c e y m d h mi s k V) := by
  obtain ⟨g0, g1, g2, g3, e0, e1, e2, e3, e4, e5⟩ := H.cells
  exact ⟨g2, e3, e4, e5, H⟩
def dayT (a : ByteArray) (y m d : Nat) : ByteArray := b4 y ++ a ++ b2 m ++ a ++ b2 d
def timeT (c : ByteArray) (h mi s : Nat) : ByteArray := b2 h ++ c ++ b2 mi ++ c ++ b2 s
def allT (a b c e : ByteArray) (y m d h mi s : Nat) : ByteArray := dayT a y m d ++ b ++ timeT c h mi s ++ e
set_option maxHeartbeats 4000000 in
set_option maxRecDepth 100000 in
theorem written_yes (T y m d h mi s : Nat) (a b c e : ByteArray) (w : World) (hG : GT w) (hd : IsDate T y m d h mi s) (ha : a.size ≤ 1) (hb : b.size ≤ 1) (hc : c.size ≤ 1) (he : e.size ≤ 1) :
    Calls Tryz.prog 58 #[.int .i64 ((T : Int) - 62135596800), .agg #[.string a, .string b, .string c, .string e]] w fun x w' => x = .returned (.tuple #[.string (allT a b c e y m d h mi s), .int .i64 0]) ∧ Below w.heap.size w w' := by
  have HG := hidM hG
  have HB0 : Hid (Below w.heap.size w (w.alloc (.cells #[.string a, .string b, .string c, .string e] 93))) := (Below.refl _ w).alloc (Nat.le_refl _) _
  have HX := hidM (heap_alloc_new w (.cells #[.string a, .string b, .string c, .string e] 93))
  have HF := hidM (from_yes T y m d h mi s _ (hG.below HB0.out) hd)
  have hy := hd.day.y2
  have hm := hd.day.m2
  have hdd : d ≤ 31 := Nat.le_trans hd.day.d2 (dm_le _ _)
  obtain ⟨_, hh, hmi, hs⟩ := clock (Nat.mod_lt T (by decide)) hd.h2 hd.mi2 hd.s2
  have HP1 := hidM (fun V (hV : GT V) => padded4_any y (by omega) V hV)
  have HP2 := hidM (fun V (hV : GT V) => padded2_any m (by omega) V hV)
  have HP3 := hidM (fun V (hV : GT V) => padded2_any d (by omega) V hV)
  have HP4 := hidM (fun V (hV : GT V) => padded2_any h (by omega) V hV)
  have HP5 := hidM (fun V (hV : GT V) => padded2_any mi (by omega) V hV)
  have HP6 := hidM (fun V (hV : GT V) => padded2_any s (by omega) V hV)
  have z1 := Nat.le_of_eq (b4_size y)
  have z2 := Nat.le_of_eq (b2_size m)
  have z3 := Nat.le_of_eq (b2_size d)
  have z4 := Nat.le_of_eq (b2_size h)
  have z5 := Nat.le_of_eq (b2_size mi)
  have z6 := Nat.le_of_eq (b2_size s)
  unfold allT dayT timeT
  generalize b4 y = t1 at *
  generalize b2 m = t2 at *
  generalize b2 d = t3 at *
  generalize b2 h = t4 at *
  generalize b2 mi = t5 at *
  generalize b2 s = t6 at *
  generalize (1 + T / 86400) % 7 = K at *
  clear hG hd
  go_enter Tryz.func58, Tryz.ntmps58
  go_wp2_with fail
  refine HF.out.mono ?_
  rintro _ w1 ⟨rfl, hb1⟩
  have HB1 := hidM (HB0.out.trans (hb1.mono HB0.out.size))
  have HX1 := hidM (box_kept HX.out hb1)
  have HLT : Hid (w.heap.size < w1.heap.size) := (Array.getElem?_eq_some_iff.1 HX1.out).1
  clear hb1 HF
  go_upto_region 4 with fail
  have HS : Hid (WrS w w1.heap.size a b c e y m d h mi s K (w1.alloc (.cells #[.int .i64 (y : Int), .int .i64 (m : Int), .int .i64 (d : Int), .int .i64 (h : Int), .int .i64 (mi : Int), .int .i64 (s : Int), .int .i64 (K : Int)] 111))) :=
    ⟨HB1.out.alloc HB1.out.size _, HLT.out, (_root_.Go.heap_alloc_old _ _ HLT.out).trans HX1.out, _root_.Go.heap_alloc_new _ _⟩
  generalize (w1.alloc (.cells #[.int .i64 (y : Int), .int .i64 (m : Int), .int .i64 (d : Int), .int .i64 (h : Int), .int .i64 (mi : Int), .int .i64 (s : Int), .int .i64 (K : Int)] 111)) = W at *
  generalize w1.heap.size = B at *
  have H1 : Hid (∀ V, Hid (WrS w B a b c e y m d h mi s K V) → Calls Tryz.prog 88 #[.int .i64 (y : Int), .int .i64 4] V fun x w' => x = .returned (.string t1) ∧ w'.cell? ⟨w.heap.size, 0, none⟩ = some (.string a) ∧ w'.cell? ⟨B, 0, none⟩ = some (.int .i64 (y : Int)) ∧ w'.cell? ⟨B, 1, none⟩ = some (.int .i64 (m : Int)) ∧ w'.cell? ⟨B, 2, none⟩ = some (.int .i64 (d : Int)) ∧ Hid (WrS w B a b c e y m d h mi s K w')) := fun V hV => (HP1.out V (HG.out.below hV.out.bel)).mono fun x w' g => ⟨g.1, WrS.four (hV.out.next g.2)⟩
  have H2 : Hid (∀ V, Hid (WrS w B a b c e y m d h mi s K V) → Calls Tryz.prog 88 #[.int .i64 (m : Int), .int .i64 2] V fun x w' => x = .returned (.string t2) ∧ w'.cell? ⟨w.heap.size, 0, none⟩ = some (.string a) ∧ w'.cell? ⟨B, 0, none⟩ = some (.int .i64 (y : Int)) ∧ w'.cell? ⟨B, 1, none⟩ = some (.int .i64 (m : Int)) ∧ w'.cell? ⟨B, 2, none⟩ = some (.int .i64 (d : Int)) ∧ Hid (WrS w B a b c e y m d h mi s K w')) := fun V hV => (HP2.out V (HG.out.below hV.out.bel)).mono fun x w' g => ⟨g.1, WrS.four (hV.out.next g.2)⟩
  have H3 : Hid (∀ V, Hid (WrS w B a b c e y m d h mi s K V) → Calls Tryz.prog 88 #[.int .i64 (d : Int), .int .i64 2] V fun x w' => x = .returned (.string t3) ∧ w'.cell? ⟨w.heap.size, 0, none⟩ = some (.string a) ∧ w'.cell? ⟨B, 0, none⟩ = some (.int .i64 (y : Int)) ∧ w'.cell? ⟨B, 1, none⟩ = some (.int .i64 (m : Int)) ∧ w'.cell? ⟨B, 2, none⟩ = some (.int .i64 (d : Int)) ∧ Hid (WrS w B a b c e y m d h mi s K w')) := fun V hV => (HP3.out V (HG.out.below hV.out.bel)).mono fun x w' g => ⟨g.1, WrS.four (hV.out.next g.2)⟩
  have H4 : Hid (∀ V, Hid (WrS w B a b c e y m d h mi s K V) → Calls Tryz.prog 88 #[.int .i64 (h : Int), .int .i64 2] V fun x w' => x = .returned (.string t4) ∧ w'.cell? ⟨w.heap.size, 2, none⟩ = some (.string c) ∧ w'.cell? ⟨B, 3, none⟩ = some (.int .i64 (h : Int)) ∧ w'.cell? ⟨B, 4, none⟩ = some (.int .i64 (mi : Int)) ∧ w'.cell? ⟨B, 5, none⟩ = some (.int .i64 (s : Int)) ∧ Hid (WrS w B a b c e y m d h mi s K w')) := fun V hV => (HP4.out V (HG.out.below hV.out.bel)).mono fun x w' g => ⟨g.1, WrS.five (hV.out.next g.2)⟩
  have H5 : Hid (∀ V, Hid (WrS w B a b c e y m d h mi s K V) → Calls Tryz.prog 88 #[.int .i64 (mi : Int), .int .i64 2] V fun x w' => x = .returned (.string t5) ∧ w'.cell? ⟨w.heap.size, 2, none⟩ = some (.string c) ∧ w'.cell? ⟨B, 3, none⟩ = some (.int .i64 (h : Int)) ∧ w'.cell? ⟨B, 4, none⟩ = some (.int .i64 (mi : Int)) ∧ w'.cell? ⟨B, 5, none⟩ = some (.int .i64 (s : Int)) ∧ Hid (WrS w B a b c e y m d h mi s K w')) := fun V hV => (HP5.out V (HG.out.below hV.out.bel)).mono fun x w' g => ⟨g.1, WrS.five (hV.out.next g.2)⟩
  have H6 : Hid (∀ V, Hid (WrS w B a b c e y m d h mi s K V) → Calls Tryz.prog 88 #[.int .i64 (s : Int), .int .i64 2] V fun x w' => x = .returned (.string t6) ∧ w'.cell? ⟨w.heap.size, 2, none⟩ = some (.string c) ∧ w'.cell? ⟨B, 3, none⟩ = some (.int .i64 (h : Int)) ∧ w'.cell? ⟨B, 4, none⟩ = some (.int .i64 (mi : Int)) ∧ w'.cell? ⟨B, 5, none⟩ = some (.int .i64 (s : Int)) ∧ Hid (WrS w B a b c e y m d h mi s K w')) := fun V hV => (HP6.out V (HG.out.below hV.out.bel)).mono fun x w' g => ⟨g.1, WrS.five (hV.out.next g.2)⟩
  clear HP1 HP2 HP3 HP4 HP5 HP6 HB0 HX HB1 HX1 HLT
  have q1 : ¬ 9223372036854775807 < t1.size + a.size := by omega
  have q2 : ¬ 9223372036854775807 < t1.size + a.size + t2.size := by omega
  have q3 : ¬ 9223372036854775807 < t1.size + a.size + t2.size + a.size := by omega
  have q4 : ¬ 9223372036854775807 < t1.size + a.size + t2.size + a.size + t3.size := by omega
  have q5 : ¬ 9223372036854775807 < t4.size + c.size := by omega
  have q6 : ¬ 9223372036854775807 < t4.size + c.size + t5.size := by omega
  have q7 : ¬ 9223372036854775807 < t4.size + c.size + t5.size + c.size := by omega
  have q8 : ¬ 9223372036854775807 < t4.size + c.size + t5.size + c.size + t6.size := by omega
  obtain ⟨x1, x2, x3, x4, _⟩ := WrS.four HS.out
  go_region_held3 (fun w' => w'.cell? ⟨w.heap.size, 0, none⟩ = some (.string a) ∧ w'.cell? ⟨B, 0, none⟩ = some (.int .i64 (y : Int)) ∧ w'.cell? ⟨B, 1, none⟩ = some (.int .i64 (m : Int)) ∧ w'.cell? ⟨B, 2, none⟩ = some (.int .i64 (d : Int)) ∧ Hid (WrS w B a b c e y m d h mi s K w'))
    (first | exact hS3 | exact hS2 | exact hS1 | exact WrS.four (Hid.out (by repeat (first | exact hS3.2.2.2.2 | exact hS2.2.2.2.2 | exact hS1.2.2.2.2 | exact HS | apply WrS.drew | apply WrS.drewN))))
    (first
      | (go_at_call 88; with_reducible refine (H1.out _ (by repeat (first | exact hS3.2.2.2.2 | exact hS2.2.2.2.2 | exact hS1.2.2.2.2 | exact HS | apply WrS.drew | apply WrS.drewN))).mono ?_; rintro _ v1 ⟨rfl, hS1⟩)
      | (go_at_call 88; with_reducible refine (H2.out _ (by repeat (first | exact hS3.2.2.2.2 | exact hS2.2.2.2.2 | exact hS1.2.2.2.2 | exact HS | apply WrS.drew | apply WrS.drewN))).mono ?_; rintro _ v2 ⟨rfl, hS2⟩)
      | (go_at_call 88; with_reducible refine (H3.out _ (by repeat (first | exact hS3.2.2.2.2 | exact hS2.2.2.2.2 | exact hS1.2.2.2.2 | exact HS | apply WrS.drew | apply WrS.drewN))).mono ?_; rintro _ v3 ⟨rfl, hS3⟩))
  have HS3 := hS3.2.2.2.2
  have hDY : (t1 ++ a ++ t2 ++ a ++ t3).size ≤ 10 := by simp only [ByteArray.size_append]; omega
  have hTI : (t4 ++ c ++ t5 ++ c ++ t6).size ≤ 10 := by simp only [ByteArray.size_append]; omega
  clear hS1 hS2 hS3 H1 H2 H3 HS x1 x2 x3 x4 q1 q2 q3 q4
  generalize hDE : t1 ++ a ++ t2 ++ a ++ t3 = DY at *
  have HDE := hidM hDE
  clear hDE
  obtain ⟨x1, x2, x3, x4, _⟩ := WrS.five HS3.out
  go_upto_region 5 with fail
  go_region_held3 (fun w' => w'.cell? ⟨w.heap.size, 2, none⟩ = some (.string c) ∧ w'.cell? ⟨B, 3, none⟩ = some (.int .i64 (h : Int)) ∧ w'.cell? ⟨B, 4, none⟩ = some (.int .i64 (mi : Int)) ∧ w'.cell? ⟨B, 5, none⟩ = some (.int .i64 (s : Int)) ∧ Hid (WrS w B a b c e y m d h mi s K w'))
    (first | exact hS6 | exact hS5 | exact hS4 | exact WrS.five (Hid.out (by repeat (first | exact hS6.2.2.2.2 | exact hS5.2.2.2.2 | exact hS4.2.2.2.2 | exact HS3 | apply WrS.drew | apply WrS.drewN))))
    (first
      | (go_at_call 88; with_reducible refine (H4.out _ (by repeat (first | exact hS6.2.2.2.2 | exact hS5.2.2.2.2 | exact hS4.2.2.2.2 | exact HS3 | apply WrS.drew | apply WrS.drewN))).mono ?_; rintro _ v4 ⟨rfl, hS4⟩)
      | (go_at_call 88; with_reducible refine (H5.out _ (by repeat (first | exact hS6.2.2.2.2 | exact hS5.2.2.2.2 | exact hS4.2.2.2.2 | exact HS3 | apply WrS.drew | apply WrS.drewN))).mono ?_; rintro _ v5 ⟨rfl, hS5⟩)
      | (go_at_call 88; with_reducible refine (H6.out _ (by repeat (first | exact hS6.2.2.2.2 | exact hS5.2.2.2.2 | exact hS4.2.2.2.2 | exact HS3 | apply WrS.drew | apply WrS.drewN))).mono ?_; rintro _ v6 ⟨rfl, hS6⟩))
  have HS6 := hS6.2.2.2.2
  clear hS4 hS5 hS6 H4 H5 H6 HS3 x1 x2 x3 x4 q5 q6 q7 q8
  generalize hTE : t4 ++ c ++ t5 ++ c ++ t6 = TI at *
  have HTE := hidM hTE
  clear hTE
  obtain ⟨g0, g1, g2, g3, _⟩ := WrS.cells HS6.out
  have q1 : ¬ 9223372036854775807 < DY.size + b.size := by omega
  have q2 : ¬ 9223372036854775807 < DY.size + b.size + TI.size := by omega
  have q3 : ¬ 9223372036854775807 < DY.size + b.size + TI.size + e.size := by omega
  go_wp2
  go_ret2
  exact ⟨by rw [HDE.out, HTE.out]; rfl, HS6.out.bel⟩
set_option maxHeartbeats 1000000 in
set_option maxRecDepth 100000 in
theorem written_no (t : Int) (a b c e : ByteArray) (w : World) (ht : t < -62135596800 ∨ 253402300799 < t) :
    Calls Tryz.prog 58 #[.int .i64 t, .agg #[.string a, .string b, .string c, .string e]] w fun x w' => x = .returned (.tuple #[.string ⟨#[]⟩, .int .i64 1]) ∧ Below w.heap.size w w' := by
  have HB0 : Hid (Below w.heap.size w (w.alloc (.cells #[.string a, .string b, .string c, .string e] 93))) := (Below.refl _ w).alloc (Nat.le_refl _) _
  have HF := hidM (from_no t (w.alloc (.cells #[.string a, .string b, .string c, .string e] 93)) ht)
  clear ht
  go_enter Tryz.func58, Tryz.ntmps58
  go_wp2_with fail
  refine HF.out.mono ?_
  rintro _ w1 ⟨rfl, hb1⟩
  have HB1 := hidM (HB0.out.trans (hb1.mono HB0.out.size))
  clear hb1 HF
  go_wp2
  go_ret2
  exact ⟨rfl, HB1.out.alloc HB1.out.size _⟩
def stampT (y m d h mi s : Nat) : ByteArray := allT ⟨#[]⟩ ⟨#[]⟩ ⟨#[]⟩ ⟨#[]⟩ y m d h mi s
def textT (y m d h mi s : Nat) : ByteArray := allT ⟨#[45]⟩ ⟨#[84]⟩ ⟨#[58]⟩ ⟨#[90]⟩ y m d h mi s
set_option maxRecDepth 100000 in
theorem stamp_yes (T y m d h mi s : Nat) (w : World) (hG : GT w) (hd : IsDate T y m d h mi s) :
    Calls Tryz.prog 24 #[.int .i64 ((T : Int) - 62135596800)] w fun x w' => x = .returned (.tuple #[.string (stampT y m d h mi s), .int .i64 0]) ∧ Below w.heap.size w w' := by
  have HW := hidM (written_yes T y m d h mi s ⟨#[]⟩ ⟨#[]⟩ ⟨#[]⟩ ⟨#[]⟩ w hG hd (by decide) (by decide) (by decide) (by decide))
  have he : allT ⟨#[]⟩ ⟨#[]⟩ ⟨#[]⟩ ⟨#[]⟩ y m d h mi s = stampT y m d h mi s := rfl
  rw [he] at HW
  clear he hG hd
  generalize stampT y m d h mi s = R at *
  go_enter Tryz.func24, Tryz.ntmps24
  go_wp2_with fail
  refine HW.out.mono ?_
  rintro _ w1 ⟨rfl, hb1⟩
  have HB1 := hidM hb1
  clear hb1
  go_wp2
  go_ret2
  exact ⟨rfl, HB1.out⟩
set_option maxRecDepth 100000 in
theorem stamp_no (t : Int) (w : World) (ht : t < -62135596800 ∨ 253402300799 < t) :
    Calls Tryz.prog 24 #[.int .i64 t] w fun x w' => x = .returned (.tuple #[.string ⟨#[]⟩, .int .i64 1]) ∧ Below w.heap.size w w' := by
  have HW := hidM (written_no t ⟨#[]⟩ ⟨#[]⟩ ⟨#[]⟩ ⟨#[]⟩ w ht)
  clear ht
  go_enter Tryz.func24, Tryz.ntmps24
  go_wp2_with fail
  refine HW.out.mono ?_
  rintro _ w1 ⟨rfl, hb1⟩
  have HB1 := hidM hb1
  clear hb1
  go_wp2
  go_ret2
  exact ⟨rfl, HB1.out⟩
end Go.Proofs.YtmhjdahmmdfbcaaGreatDoor
