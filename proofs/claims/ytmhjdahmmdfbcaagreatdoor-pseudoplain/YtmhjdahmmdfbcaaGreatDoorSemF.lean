/-
  Walks of semver: Parse of any text, Compare.
-/
import Derived.Test.YtmhjdahmmdfbcaaGreatDoorSemC
import Derived.Test.YtmhjdahmmdfbcaaGreatDoorSemM
namespace Go.Proofs.YtmhjdahmmdfbcaaGreatDoor
open Go.RowKit
def noVer : Ver := ⟨⟨#[]⟩, ⟨#[]⟩, ⟨#[]⟩, ⟨#[]⟩, ⟨#[]⟩, 0⟩
theorem verV_eq (v : Option Ver) : verV v = .tuple #[.agg #[.string (v.getD noVer).major, .string (v.getD noVer).minor, .string (v.getD noVer).patch, .string (v.getD noVer).pre, .string (v.getD noVer).build, .int .i64 ((v.getD noVer).short : Int)], .bool v.isSome] := by
  cases v <;> rfl
theorem parse_any (s : ByteArray) (w : World) (hm : s.size ≤ 9223372036854775807) : Calls Tryz.prog 18 #[.string s] w fun x w' => x = .returned (.tuple #[.agg #[.string ((parseR s).getD noVer).major, .string ((parseR s).getD noVer).minor, .string ((parseR s).getD noVer).patch, .string ((parseR s).getD noVer).pre, .string ((parseR s).getD noVer).build, .int .i64 (((parseR s).getD noVer).short : Int)], .bool (parseR s).isSome]) ∧ Below w.heap.size w w' := by
  rw [← verV_eq]
  by_cases h : s.size ≤ 100
  · exact parse_short s w h
  · have hn : parseR s = none := by unfold parseR; rw [decide_eq_false h]; rfl
    rw [hn]
    exact parse_long s w (by omega) hm
theorem strOf_size (l : List UInt8) : (strOf l).size = l.length := by show l.toArray.size = _; simp
theorem pre_size (s : ByteArray) : ((parseR s).getD noVer).pre.size ≤ 200 := by
  unfold parseR
  split
  · rename_i h
    simp only [Bool.and_eq_true, decide_eq_true_eq] at h
    show (strOf (cutR 45 (cutR 43 (vCut s.data.toList).1).1).2.1).size ≤ 200
    rw [strOf_size]
    have h1 := (cutR_len 45 (cutR 43 (vCut s.data.toList).1).1).2
    have h2 := (cutR_len 43 (vCut s.data.toList).1).1
    have h3 : (vCut s.data.toList).1.length ≤ s.data.toList.length := by
      cases s.data.toList with
      | nil => exact Nat.le_refl _
      | cons c l => simp only [vCut]; split <;> simp
    rw [size_len] at h3
    omega
  · decide
noncomputable def cmpV (x y : Ver) : Int := orL [numC x.major y.major, numC x.minor y.minor, numC x.patch y.patch, preC x.pre y.pre]
noncomputable def cmpS (a b : ByteArray) : Int := cmpV ((parseR a).getD noVer) ((parseR b).getD noVer)
theorem orL_four (a b c d : Int) : orL [a, b, c, d] = if a = 0 then (if b = 0 then (if c = 0 then d else c) else b) else a := by
  simp only [orL]
  split
  · split
    · split
      · split
        · omega
        · rfl
      · rfl
    · rfl
  · rfl
theorem ord_ver : Ord3 cmpV := by
  have h := (ord_num.pull Ver.major).lex ((ord_num.pull Ver.minor).lex ((ord_num.pull Ver.patch).lex (ord_pre.pull Ver.pre)))
  have e : cmpV = fun x y => if numC x.major y.major = 0 then (if numC x.minor y.minor = 0 then (if numC x.patch y.patch = 0 then preC x.pre y.pre else numC x.patch y.patch) else numC x.minor y.minor) else numC x.major y.major := by
    funext x y
    exact orL_four _ _ _ _
  rw [e]
  exact h
theorem ord_text : Ord3 cmpS := ord_ver.pull fun s => (parseR s).getD noVer
/-- the two boxes of Compare -/
structure CmS (w : World) (B1 B2 : Nat) (x y : Ver) (V : World) : Prop where
  bel : Below w.heap.size w V
  b1 : V.heap[B1]? = some (.cells #[.string x.major, .string x.minor, .string x.patch, .string x.pre, .string x.build, .int .i64 (x.short : Int)] 43)
  b2 : V.heap[B2]? = some (.cells #[.string y.major, .string y.minor, .string y.patch, .string y.pre, .string y.build, .int .i64 (y.short : Int)] 43)
variable {w V w' : World} {B1 B2 : Nat} {x y : Ver}
theorem CmS.next (H : CmS w B1 B2 x y V) (hb : Below V.heap.size V w') : CmS w B1 B2 x y w' := ⟨H.bel.trans (hb.mono H.bel.size), box_kept H.b1 hb, box_kept H.b2 hb⟩
theorem CmS.alloc {o : Obj} (H : CmS w B1 B2 x y V) : CmS w B1 B2 x y (V.alloc o) := H.next ((Below.refl _ _).alloc (Nat.le_refl _) _)
theorem CmS.drew (H : Hid (CmS w B1 B2 x y V)) : Hid (CmS w B1 B2 x y V.drew) := ⟨H.out.bel.trans ⟨rfl, rfl, rfl, Nat.le_refl _, fun _ _ => rfl⟩, H.out.b1, H.out.b2⟩
theorem CmS.drewN (H : Hid (CmS w B1 B2 x y V)) (n : Nat) : Hid (CmS w B1 B2 x y (V.drewN n)) := ⟨below_drewN H.out.bel n, H.out.b1, H.out.b2⟩
theorem CmS.full (H : CmS w B1 B2 x y w') : w'.cell? ⟨B1, 0, none⟩ = some (.string x.major) ∧ w'.cell? ⟨B1, 1, none⟩ = some (.string x.minor) ∧ w'.cell? ⟨B1, 2, none⟩ = some (.string x.patch) ∧ w'.cell? ⟨B1, 3, none⟩ = some (.string x.pre) ∧ w'.cell? ⟨B2, 0, none⟩ = some (.string y.major) ∧ w'.cell? ⟨B2, 1, none⟩ = some (.string y.minor) ∧ w'.cell? ⟨B2, 2, none⟩ = some (.string y.patch) ∧ w'.cell? ⟨B2, 3, none⟩ = some (.string y.pre) ∧ Hid (CmS w B1 B2 x y w') := by
  refine ⟨?_, ?_, ?_, ?_, ?_, ?_, ?_, ?_, H⟩
  · rw [cell_of_row _ _ _ _ 43 (0, 0) H.b1]; rfl
  · rw [cell_of_row _ _ _ _ 43 (0, 0) H.b1]; rfl
  · rw [cell_of_row _ _ _ _ 43 (0, 0) H.b1]; rfl
  · rw [cell_of_row _ _ _ _ 43 (0, 0) H.b1]; rfl
  · rw [cell_of_row _ _ _ _ 43 (0, 0) H.b2]; rfl
  · rw [cell_of_row _ _ _ _ 43 (0, 0) H.b2]; rfl
  · rw [cell_of_row _ _ _ _ 43 (0, 0) H.b2]; rfl
  · rw [cell_of_row _ _ _ _ 43 (0, 0) H.b2]; rfl
set_option maxHeartbeats 4000000 in
set_option maxRecDepth 100000 in
theorem compare_any (a b : ByteArray) (w : World) (ha : a.size ≤ 9223372036854775807) (hb : b.size ≤ 9223372036854775807) :
    Calls Tryz.prog 16 #[.string a, .string b] w fun e w' => e = .returned (.int .i64 (cmpS a b)) ∧ Below w.heap.size w w' := by
  have HA := hidM (parse_any a w ha)
  have HB := hidM (fun V => parse_any b V hb)
  have hx := pre_size a
  have hy := pre_size b
  have HCS : Hid (cmpS a b = cmpV ((parseR a).getD noVer) ((parseR b).getD noVer)) := rfl
  generalize (parseR a).isSome = oa at *
  generalize (parseR b).isSome = ob at *
  generalize (parseR a).getD noVer = x at *
  generalize (parseR b).getD noVer = y at *
  have HN1 := hidM (fun V => byNumber_any x.major y.major V)
  have HN2 := hidM (fun V => byNumber_any x.minor y.minor V)
  have HN3 := hidM (fun V => byNumber_any x.patch y.patch V)
  have HN4 := hidM (fun V => byPre_any x.pre y.pre V hx hy)
  unfold cmpV at HCS
  clear hx hy
  generalize numC x.major y.major = r1 at *
  generalize numC x.minor y.minor = r2 at *
  generalize numC x.patch y.patch = r3 at *
  generalize preC x.pre y.pre = r4 at *
  have H5 : Hid (∀ V : World, Calls Tryz.prog 41 #[.slice (some ⟨V.heap.size, 0, none⟩) 4 4] (V.alloc (.cells #[.int .i64 r1, .int .i64 r2, .int .i64 r3, .int .i64 r4] 3)) fun e w' => e = .returned (.int .i64 (orL [r1, r2, r3, r4])) ∧ w' = V.alloc (.cells #[.int .i64 r1, .int .i64 r2, .int .i64 r3, .int .i64 r4] 3)) := fun V => or_any V.heap.size [r1, r2, r3, r4] _ (by simp) (_root_.Go.heap_alloc_new _ _)
  go_enter Tryz.func16, Tryz.ntmps16
  go_wp2_with fail
  refine HA.out.mono ?_
  rintro _ w1 ⟨rfl, hb1⟩
  have HB1 : Hid (Below w.heap.size w (w1.alloc (.cells #[.string x.major, .string x.minor, .string x.patch, .string x.pre, .string x.build, .int .i64 (x.short : Int)] 43))) := hb1.alloc hb1.size _
  have HX1 := hidM (_root_.Go.heap_alloc_new w1 (.cells #[.string x.major, .string x.minor, .string x.patch, .string x.pre, .string x.build, .int .i64 (x.short : Int)] 43))
  clear hb1
  go_wp2_with fail
  generalize (w1.alloc (.cells #[.string x.major, .string x.minor, .string x.patch, .string x.pre, .string x.build, .int .i64 (x.short : Int)] 43)) = W1 at *
  generalize w1.heap.size = B1 at *
  refine (HB.out W1).mono ?_
  rintro _ w2 ⟨rfl, hb2⟩
  have HB2 := hidM (HB1.out.trans (hb2.mono HB1.out.size))
  have HX2 := hidM (box_kept HX1.out hb2)
  have HS0 : Hid (CmS w B1 w2.heap.size x y (w2.alloc (.cells #[.string y.major, .string y.minor, .string y.patch, .string y.pre, .string y.build, .int .i64 (y.short : Int)] 43))) := ⟨HB2.out.alloc HB2.out.size _, (_root_.Go.heap_alloc_old _ _ (Array.getElem?_eq_some_iff.1 HX2.out).1).trans HX2.out, _root_.Go.heap_alloc_new _ _⟩
  clear hb2 HA HB HB1 HX1 HB2 HX2
  go_upto_region 3 with fail
  generalize (w2.alloc (.cells #[.string y.major, .string y.minor, .string y.patch, .string y.pre, .string y.build, .int .i64 (y.short : Int)] 43)) = W2 at *
  generalize w2.heap.size = B2 at *
  have H1 : Hid (∀ V, Hid (CmS w B1 B2 x y V) → Calls Tryz.prog 42 #[.string x.major, .string y.major] V fun e w' => e = .returned (.int .i64 r1) ∧ w'.cell? ⟨B1, 0, none⟩ = some (.string x.major) ∧ w'.cell? ⟨B1, 1, none⟩ = some (.string x.minor) ∧ w'.cell? ⟨B1, 2, none⟩ = some (.string x.patch) ∧ w'.cell? ⟨B1, 3, none⟩ = some (.string x.pre) ∧ w'.cell? ⟨B2, 0, none⟩ = some (.string y.major) ∧ w'.cell? ⟨B2, 1, none⟩ = some (.string y.minor) ∧ w'.cell? ⟨B2, 2, none⟩ = some (.string y.patch) ∧ w'.cell? ⟨B2, 3, none⟩ = some (.string y.pre) ∧ Hid (CmS w B1 B2 x y w')) := fun V hV => (HN1.out V).mono fun e w' g => ⟨g.1, CmS.full (hV.out.next g.2)⟩
  have H2 : Hid (∀ V, Hid (CmS w B1 B2 x y V) → Calls Tryz.prog 42 #[.string x.minor, .string y.minor] V fun e w' => e = .returned (.int .i64 r2) ∧ w'.cell? ⟨B1, 0, none⟩ = some (.string x.major) ∧ w'.cell? ⟨B1, 1, none⟩ = some (.string x.minor) ∧ w'.cell? ⟨B1, 2, none⟩ = some (.string x.patch) ∧ w'.cell? ⟨B1, 3, none⟩ = some (.string x.pre) ∧ w'.cell? ⟨B2, 0, none⟩ = some (.string y.major) ∧ w'.cell? ⟨B2, 1, none⟩ = some (.string y.minor) ∧ w'.cell? ⟨B2, 2, none⟩ = some (.string y.patch) ∧ w'.cell? ⟨B2, 3, none⟩ = some (.string y.pre) ∧ Hid (CmS w B1 B2 x y w')) := fun V hV => (HN2.out V).mono fun e w' g => ⟨g.1, CmS.full (hV.out.next g.2)⟩
  have H3 : Hid (∀ V, Hid (CmS w B1 B2 x y V) → Calls Tryz.prog 42 #[.string x.patch, .string y.patch] V fun e w' => e = .returned (.int .i64 r3) ∧ w'.cell? ⟨B1, 0, none⟩ = some (.string x.major) ∧ w'.cell? ⟨B1, 1, none⟩ = some (.string x.minor) ∧ w'.cell? ⟨B1, 2, none⟩ = some (.string x.patch) ∧ w'.cell? ⟨B1, 3, none⟩ = some (.string x.pre) ∧ w'.cell? ⟨B2, 0, none⟩ = some (.string y.major) ∧ w'.cell? ⟨B2, 1, none⟩ = some (.string y.minor) ∧ w'.cell? ⟨B2, 2, none⟩ = some (.string y.patch) ∧ w'.cell? ⟨B2, 3, none⟩ = some (.string y.pre) ∧ Hid (CmS w B1 B2 x y w')) := fun V hV => (HN3.out V).mono fun e w' g => ⟨g.1, CmS.full (hV.out.next g.2)⟩
  have H4 : Hid (∀ V, Hid (CmS w B1 B2 x y V) → Calls Tryz.prog 43 #[.string x.pre, .string y.pre] V fun e w' => e = .returned (.int .i64 r4) ∧ w'.cell? ⟨B1, 0, none⟩ = some (.string x.major) ∧ w'.cell? ⟨B1, 1, none⟩ = some (.string x.minor) ∧ w'.cell? ⟨B1, 2, none⟩ = some (.string x.patch) ∧ w'.cell? ⟨B1, 3, none⟩ = some (.string x.pre) ∧ w'.cell? ⟨B2, 0, none⟩ = some (.string y.major) ∧ w'.cell? ⟨B2, 1, none⟩ = some (.string y.minor) ∧ w'.cell? ⟨B2, 2, none⟩ = some (.string y.patch) ∧ w'.cell? ⟨B2, 3, none⟩ = some (.string y.pre) ∧ Hid (CmS w B1 B2 x y w')) := fun V hV => (HN4.out V).mono fun e w' g => ⟨g.1, CmS.full (hV.out.next g.2)⟩
  clear HN1 HN2 HN3 HN4
  obtain ⟨y0, y1, y2, y3, y4, y5, y6, y7, _⟩ := CmS.full HS0.out
  go_region_held3 (fun w' => w'.cell? ⟨B1, 0, none⟩ = some (.string x.major) ∧ w'.cell? ⟨B1, 1, none⟩ = some (.string x.minor) ∧ w'.cell? ⟨B1, 2, none⟩ = some (.string x.patch) ∧ w'.cell? ⟨B1, 3, none⟩ = some (.string x.pre) ∧ w'.cell? ⟨B2, 0, none⟩ = some (.string y.major) ∧ w'.cell? ⟨B2, 1, none⟩ = some (.string y.minor) ∧ w'.cell? ⟨B2, 2, none⟩ = some (.string y.patch) ∧ w'.cell? ⟨B2, 3, none⟩ = some (.string y.pre) ∧ Hid (CmS w B1 B2 x y w'))
    (first | exact hS4 | exact hS3 | exact hS2 | exact hS1 | exact CmS.full (CmS.alloc (Hid.out (by repeat (first | exact hS4.2.2.2.2.2.2.2.2 | exact hS3.2.2.2.2.2.2.2.2 | exact hS2.2.2.2.2.2.2.2.2 | exact hS1.2.2.2.2.2.2.2.2 | exact HS0 | apply CmS.drew | apply CmS.drewN)))) | exact CmS.full (Hid.out (by repeat (first | exact hS4.2.2.2.2.2.2.2.2 | exact hS3.2.2.2.2.2.2.2.2 | exact hS2.2.2.2.2.2.2.2.2 | exact hS1.2.2.2.2.2.2.2.2 | exact HS0 | apply CmS.drew | apply CmS.drewN))))
    (first
      | (go_at_call 42; with_reducible refine (H1.out _ (by repeat (first | exact hS4.2.2.2.2.2.2.2.2 | exact hS3.2.2.2.2.2.2.2.2 | exact hS2.2.2.2.2.2.2.2.2 | exact hS1.2.2.2.2.2.2.2.2 | exact HS0 | apply CmS.drew | apply CmS.drewN))).mono ?_; rintro _ v1 ⟨rfl, hS1⟩)
      | (go_at_call 42; with_reducible refine (H2.out _ (by repeat (first | exact hS4.2.2.2.2.2.2.2.2 | exact hS3.2.2.2.2.2.2.2.2 | exact hS2.2.2.2.2.2.2.2.2 | exact hS1.2.2.2.2.2.2.2.2 | exact HS0 | apply CmS.drew | apply CmS.drewN))).mono ?_; rintro _ v2 ⟨rfl, hS2⟩)
      | (go_at_call 42; with_reducible refine (H3.out _ (by repeat (first | exact hS4.2.2.2.2.2.2.2.2 | exact hS3.2.2.2.2.2.2.2.2 | exact hS2.2.2.2.2.2.2.2.2 | exact hS1.2.2.2.2.2.2.2.2 | exact HS0 | apply CmS.drew | apply CmS.drewN))).mono ?_; rintro _ v3 ⟨rfl, hS3⟩)
      | (go_at_call 43; with_reducible refine (H4.out _ (by repeat (first | exact hS4.2.2.2.2.2.2.2.2 | exact hS3.2.2.2.2.2.2.2.2 | exact hS2.2.2.2.2.2.2.2.2 | exact hS1.2.2.2.2.2.2.2.2 | exact HS0 | apply CmS.drew | apply CmS.drewN))).mono ?_; rintro _ v4 ⟨rfl, hS4⟩)
      | (go_at_call 41; with_reducible refine (H5.out _).mono ?_; rintro _ v5 ⟨rfl, rfl⟩))
  have HE := hidM (CmS.alloc (o := .cells #[.int .i64 r1, .int .i64 r2, .int .i64 r3, .int .i64 r4] 3) hS4.2.2.2.2.2.2.2.2.out).bel
  clear hS1 hS2 hS3 hS4
  go_wp2
  go_ret
  exact ⟨by rw [HCS.out]; rfl, HE.out⟩
end Go.Proofs.YtmhjdahmmdfbcaaGreatDoor
