/-
  Walks of the document's semver: Compare, of two versions.
-/
import Derived.Test.YtdbkmcjdkiljaaaDoorRefH
namespace Go.Proofs.YtdbkmcjdkiljaaaDoor
open Go.RowKit

theorem pre_100 {s : ByteArray} {v : Ver} (h : parseR s = some v) : v.pre.size ≤ 100 := by
  unfold parseR at h
  split at h
  · rename_i hc
    simp only [Bool.and_eq_true, decide_eq_true_eq] at hc
    have e := Option.some.inj h
    subst e
    show (strOf (cutR 45 (cutR 43 (vCut s.data.toList).1).1).2.1).size ≤ 100
    rw [strOf_size]
    have h1 := (cutR_len 45 (cutR 43 (vCut s.data.toList).1).1).2
    have h2 := (cutR_len 43 (vCut s.data.toList).1).1
    have h3 : (vCut s.data.toList).1.length ≤ s.data.toList.length := by
      cases s.data.toList with
      | nil => exact Nat.le_refl _
      | cons c l => simp only [vCut]; split <;> simp
    rw [size_len] at h3
    omega
  · cases h
theorem cmpS_both {a b : ByteArray} {x y : Ver} (ha : parseR a = some x) (hb : parseR b = some y) : cmpS a b = orL [numC x.major y.major, numC x.minor y.minor, numC x.patch y.patch, preC x.pre y.pre] := by
  show cmpV ((parseR a).getD noVer) ((parseR b).getD noVer) = _
  rw [ha, hb]; rfl
set_option maxHeartbeats 8000000 in
set_option maxRecDepth 100000 in
theorem rcompare_both (a b : ByteArray) (x y : Ver) (w : World) (ha : a.size ≤ 9223372036854775807) (hb : b.size ≤ 9223372036854775807) (hx : parseR a = some x) (hy : parseR b = some y) :
    Calls Tryd.prog 17 #[.string a, .string b] w fun e w' => e = .returned (.int .i64 (cmpS a b)) ∧ Below w.heap.size w w' := by
  have HA := hidM (rparse_any a w ha)
  have HB := hidM (fun V => rparse_any b V hb)
  have HCS := hidM (cmpS_both hx hy)
  have sx := ver_small hx
  have sy := ver_small hy
  have nx := ver_right hx
  have ny := ver_right hy
  rw [hx] at HA
  rw [hy] at HB
  simp only [Option.getD_some, Option.isSome_some] at HA HB
  have HN1 := hidM (fun V => rbyNumber_any x.major y.major V sx.1 sy.1 nx.major ny.major)
  have HN2 := hidM (fun V => rbyNumber_any x.minor y.minor V sx.2.1 sy.2.1 nx.minor ny.minor)
  have HN3 := hidM (fun V => rbyNumber_any x.patch y.patch V sx.2.2.1 sy.2.2.1 nx.patch ny.patch)
  have hxp := pre_100 hx
  have hyp := pre_100 hy
  have HXP := hidM nx.pre
  have HYP := hidM ny.pre
  clear sx sy nx ny hx hy
  generalize numC x.major y.major = r1 at *
  generalize numC x.minor y.minor = r2 at *
  generalize numC x.patch y.patch = r3 at *
  go_enter Tryd.func17, Tryd.ntmps17
  go_wp2_with fail
  refine HA.out.mono ?_
  rintro _ w1 ⟨rfl, hb1⟩
  have HB1 : Hid (Below w.heap.size w (w1.alloc (.cells #[.string x.major, .string x.minor, .string x.patch, .string x.pre, .string x.build, .int .i64 (x.short : Int)] 26))) := hb1.alloc hb1.size _
  have HX1 := hidM (_root_.Go.heap_alloc_new w1 (.cells #[.string x.major, .string x.minor, .string x.patch, .string x.pre, .string x.build, .int .i64 (x.short : Int)] 26))
  clear hb1
  go_wp2_with fail
  generalize (w1.alloc (.cells #[.string x.major, .string x.minor, .string x.patch, .string x.pre, .string x.build, .int .i64 (x.short : Int)] 26)) = W1 at *
  generalize w1.heap.size = B1 at *
  refine (HB.out W1).mono ?_
  rintro _ w2 ⟨rfl, hb2⟩
  have HB2 := hidM (HB1.out.trans (hb2.mono HB1.out.size))
  have HX2 := hidM (box_kept HX1.out hb2)
  have HS0 : Hid (CmR w B1 w2.heap.size x y (w2.alloc (.cells #[.string y.major, .string y.minor, .string y.patch, .string y.pre, .string y.build, .int .i64 (y.short : Int)] 26))) := ⟨HB2.out.alloc HB2.out.size _, (_root_.Go.heap_alloc_old _ _ (Array.getElem?_eq_some_iff.1 HX2.out).1).trans HX2.out, _root_.Go.heap_alloc_new _ _⟩
  clear hb2 HA HB HB1 HX1 HB2 HX2
  go_upto_region 9 with fail
  generalize (w2.alloc (.cells #[.string y.major, .string y.minor, .string y.patch, .string y.pre, .string y.build, .int .i64 (y.short : Int)] 26)) = W2 at *
  generalize w2.heap.size = B2 at *
  have H1 : Hid (∀ V, Hid (CmR w B1 B2 x y V) → Calls Tryd.prog 34 #[.string x.major, .string y.major] V fun e w' => e = .returned (.int .i64 r1) ∧ w'.cell? ⟨B1, 0, none⟩ = some (.string x.major) ∧ w'.cell? ⟨B1, 1, none⟩ = some (.string x.minor) ∧ w'.cell? ⟨B1, 2, none⟩ = some (.string x.patch) ∧ w'.cell? ⟨B1, 3, none⟩ = some (.string x.pre) ∧ w'.cell? ⟨B2, 0, none⟩ = some (.string y.major) ∧ w'.cell? ⟨B2, 1, none⟩ = some (.string y.minor) ∧ w'.cell? ⟨B2, 2, none⟩ = some (.string y.patch) ∧ w'.cell? ⟨B2, 3, none⟩ = some (.string y.pre) ∧ Hid (CmR w B1 B2 x y w')) := fun V hV => (HN1.out V).mono fun e w' ⟨he, hw⟩ => ⟨he, by rw [hw]; exact CmR.full hV.out⟩
  have H2 : Hid (∀ V, Hid (CmR w B1 B2 x y V) → Calls Tryd.prog 34 #[.string x.minor, .string y.minor] V fun e w' => e = .returned (.int .i64 r2) ∧ w'.cell? ⟨B1, 0, none⟩ = some (.string x.major) ∧ w'.cell? ⟨B1, 1, none⟩ = some (.string x.minor) ∧ w'.cell? ⟨B1, 2, none⟩ = some (.string x.patch) ∧ w'.cell? ⟨B1, 3, none⟩ = some (.string x.pre) ∧ w'.cell? ⟨B2, 0, none⟩ = some (.string y.major) ∧ w'.cell? ⟨B2, 1, none⟩ = some (.string y.minor) ∧ w'.cell? ⟨B2, 2, none⟩ = some (.string y.patch) ∧ w'.cell? ⟨B2, 3, none⟩ = some (.string y.pre) ∧ Hid (CmR w B1 B2 x y w')) := fun V hV => (HN2.out V).mono fun e w' ⟨he, hw⟩ => ⟨he, by rw [hw]; exact CmR.full hV.out⟩
  have H3 : Hid (∀ V, Hid (CmR w B1 B2 x y V) → Calls Tryd.prog 34 #[.string x.patch, .string y.patch] V fun e w' => e = .returned (.int .i64 r3) ∧ w'.cell? ⟨B1, 0, none⟩ = some (.string x.major) ∧ w'.cell? ⟨B1, 1, none⟩ = some (.string x.minor) ∧ w'.cell? ⟨B1, 2, none⟩ = some (.string x.patch) ∧ w'.cell? ⟨B1, 3, none⟩ = some (.string x.pre) ∧ w'.cell? ⟨B2, 0, none⟩ = some (.string y.major) ∧ w'.cell? ⟨B2, 1, none⟩ = some (.string y.minor) ∧ w'.cell? ⟨B2, 2, none⟩ = some (.string y.patch) ∧ w'.cell? ⟨B2, 3, none⟩ = some (.string y.pre) ∧ Hid (CmR w B1 B2 x y w')) := fun V hV => (HN3.out V).mono fun e w' ⟨he, hw⟩ => ⟨he, by rw [hw]; exact CmR.full hV.out⟩
  clear HN1 HN2 HN3
  obtain ⟨y0, y1, y2, y3, y4, y5, y6, y7, _⟩ := CmR.full HS0.out
  go_region_held3 (fun w' => w'.cell? ⟨B1, 0, none⟩ = some (.string x.major) ∧ w'.cell? ⟨B1, 1, none⟩ = some (.string x.minor) ∧ w'.cell? ⟨B1, 2, none⟩ = some (.string x.patch) ∧ w'.cell? ⟨B1, 3, none⟩ = some (.string x.pre) ∧ w'.cell? ⟨B2, 0, none⟩ = some (.string y.major) ∧ w'.cell? ⟨B2, 1, none⟩ = some (.string y.minor) ∧ w'.cell? ⟨B2, 2, none⟩ = some (.string y.patch) ∧ w'.cell? ⟨B2, 3, none⟩ = some (.string y.pre) ∧ Hid (CmR w B1 B2 x y w'))
    (first | exact hS3 | exact hS2 | exact hS1 | exact CmR.full (CmR.alloc (Hid.out (by repeat (first | exact hS3.2.2.2.2.2.2.2.2 | exact hS2.2.2.2.2.2.2.2.2 | exact hS1.2.2.2.2.2.2.2.2 | exact HS0 | apply CmR.drew | apply CmR.drewN)))) | exact CmR.full (Hid.out (by repeat (first | exact hS3.2.2.2.2.2.2.2.2 | exact hS2.2.2.2.2.2.2.2.2 | exact hS1.2.2.2.2.2.2.2.2 | exact HS0 | apply CmR.drew | apply CmR.drewN))))
    (first
      | (go_at_call 34; with_reducible refine (H1.out _ (by repeat (first | exact hS3.2.2.2.2.2.2.2.2 | exact hS2.2.2.2.2.2.2.2.2 | exact hS1.2.2.2.2.2.2.2.2 | exact HS0 | apply CmR.drew | apply CmR.drewN))).mono ?_; rintro _ v1 ⟨rfl, hS1⟩)
      | (go_at_call 34; with_reducible refine (H2.out _ (by repeat (first | exact hS3.2.2.2.2.2.2.2.2 | exact hS2.2.2.2.2.2.2.2.2 | exact hS1.2.2.2.2.2.2.2.2 | exact HS0 | apply CmR.drew | apply CmR.drewN))).mono ?_; rintro _ v2 ⟨rfl, hS2⟩)
      | (go_at_call 34; with_reducible refine (H3.out _ (by repeat (first | exact hS3.2.2.2.2.2.2.2.2 | exact hS2.2.2.2.2.2.2.2.2 | exact hS1.2.2.2.2.2.2.2.2 | exact HS0 | apply CmR.drew | apply CmR.drewN))).mono ?_; rintro _ v3 ⟨rfl, hS3⟩))
  have HS3 := hidM (CmR.alloc (o := .cells #[.int .i64 r1, .int .i64 r2, .int .i64 r3] 3) hS3.2.2.2.2.2.2.2.2.out)
  have HRW : Hid ((v3.alloc (.cells #[.int .i64 r1, .int .i64 r2, .int .i64 r3] 3)).heap[v3.heap.size]? = some (.cells #[.int .i64 r1, .int .i64 r2, .int .i64 r3] 3)) := _root_.Go.heap_alloc_new _ _
  clear hS1 hS2 hS3 HS0 H1 H2 H3 y0 y1 y2 y3 y4 y5 y6 y7
  generalize v3.alloc (.cells #[.int .i64 r1, .int .i64 r2, .int .i64 r3] 3) = W3 at *
  generalize v3.heap.size = G at *
  have q0 : W3.cell? ⟨G, 0, none⟩ = some (.int .i64 r1) := by rw [cell_of_row _ _ _ _ 3 (0, 0) HRW.out]; rfl
  have q1 : W3.cell? ⟨G, 1, none⟩ = some (.int .i64 r2) := by rw [cell_of_row _ _ _ _ 3 (0, 0) HRW.out]; rfl
  have q2 : W3.cell? ⟨G, 2, none⟩ = some (.int .i64 r3) := by rw [cell_of_row _ _ _ _ 3 (0, 0) HRW.out]; rfl
  clear HRW
  rw [orL_four] at HCS
  go_wp2
  go_loopw [10, 51] (fun _ iv wr => ∃ k : Nat, k ≤ 3 ∧ iv = .int .i64 (k : Int) ∧ (1 ≤ k → r1 = 0) ∧ (2 ≤ k → r2 = 0) ∧ (3 ≤ k → r3 = 0) ∧ W3 = wr) (fun _ i _ => 3 - (intOf i).toNat)
  case atStart => exact ⟨0, by decide, rfl, (fun h => by omega), (fun h => by omega), (fun h => by omega), rfl⟩
  case round =>
    obtain ⟨k, hk, rfl, z1, z2, z3, hwr⟩ := hrel
    subst hwr
    have Z1 := hidM z1
    have Z2 := hidM z2
    have Z3 := hidM z3
    clear z1 z2 z3
    by_cases hk3 : k < 3
    · have HK : Hid (∃ r q : Int, W3.cell? ⟨G, k, none⟩ = some (.int .i64 r) ∧ (r ≠ 0 → cmpS a b = r) ∧ (r = 0 → (1 ≤ k + 1 → r1 = 0) ∧ (2 ≤ k + 1 → r2 = 0) ∧ (3 ≤ k + 1 → r3 = 0))) := by
        unfold Hid
        rcases (by omega : k = 0 ∨ k = 1 ∨ k = 2) with rfl | rfl | rfl
        · exact ⟨r1, 0, q0, fun h => by rw [HCS.out, if_neg h], fun h => ⟨fun _ => h, fun h => by omega, fun h => by omega⟩⟩
        · exact ⟨r2, 0, q1, fun h => by rw [HCS.out, if_pos (Z1.out (by omega)), if_neg h], fun h => ⟨fun _ => Z1.out (by omega), fun _ => h, fun h => by omega⟩⟩
        · exact ⟨r3, 0, q2, fun h => by rw [HCS.out, if_pos (Z1.out (by omega)), if_pos (Z2.out (by omega)), if_neg h], fun h => ⟨fun _ => Z1.out (by omega), fun _ => Z2.out (by omega), fun _ => h⟩⟩
      obtain ⟨r, _, ck, hhit, hnx⟩ := HK.out
      have HHIT := hidM hhit
      have HNX := hidM hnx
      have gk : (k : Int) < 3 := by omega
      have gk2 : decide ((k : Int) < 3) = true := decide_eq_true gk
      clear HK hhit hnx q0 q1 q2 HCS
      by_cases h0 : r = 0
      · have HN := hidM (HNX.out h0)
        subst h0
        clear HHIT HNX
        go_wp2
        go_roundw
        case rel => exact ⟨k + 1, by omega, by go_num, HN.out.1, HN.out.2.1, HN.out.2.2, by first | rfl | trivial⟩
        case measure => simp [intOf]; omega
      · have HR := hidM (HHIT.out h0)
        have HBL := hidM HS3.out.bel
        have b1 : (r != 0) = true := by simpa using h0
        have b0 : (r == 0) = false := by simpa using h0
        clear h0 HHIT HNX
        go_wp2
        go_ret
        exact ⟨by rw [HR.out]; rfl, HBL.out⟩
    · have HCP : Hid (cmpS a b = preC x.pre y.pre) := by
        unfold Hid
        rw [HCS.out, if_pos (Z1.out (by omega)), if_pos (Z2.out (by omega)), if_pos (Z3.out (by omega))]
      have gk : ¬ (k : Int) < 3 := by omega
      have gk2 : decide ((k : Int) < 3) = false := decide_eq_false gk
      clear q0 q1 q2 HCS Z1 Z2 Z3
      obtain ⟨_, _, _, p3, _, _, _, p7, _⟩ := CmR.full HS3.out
      have ex := empty_beq x.pre
      have ey := empty_beq y.pre
      rw [preC_eq] at HCP
      have HBL := hidM HS3.out.bel
      cases h1 : x.pre.data.toList.isEmpty with
      | true =>
        rw [h1] at ex HCP
        cases h2 : y.pre.data.toList.isEmpty with
        | true =>
          rw [h2] at ey HCP
          have HR : Hid (cmpS a b = 0) := HCP.out
          have exy : (x.pre.toList == y.pre.toList) = true := by
            rw [List.isEmpty_iff] at ex ey
            rw [ex, ey]; rfl
          clear h1 h2 HCP
          generalize x.pre = xp at *
          generalize y.pre = yp at *
          go_wp2
          go_ret
          exact ⟨by rw [HR.out]; rfl, HBL.out⟩
        | false =>
          rw [h2] at ey HCP
          have HR : Hid (cmpS a b = 1) := HCP.out
          have exy : (x.pre.toList == y.pre.toList) = false := by
            rw [beq_eq_false_iff_ne]
            intro e
            rw [e, ey] at ex; cases ex
          clear h1 h2 HCP
          generalize x.pre = xp at *
          generalize y.pre = yp at *
          go_wp2
          go_ret
          exact ⟨by rw [HR.out]; rfl, HBL.out⟩
      | false =>
        rw [h1] at ex HCP
        cases h2 : y.pre.data.toList.isEmpty with
        | true =>
          rw [h2] at ey HCP
          have HR : Hid (cmpS a b = -1) := HCP.out
          have exy : (x.pre.toList == y.pre.toList) = false := by
            rw [beq_eq_false_iff_ne]
            intro e
            rw [e, ey] at ex; cases ex
          clear h1 h2 HCP
          generalize x.pre = xp at *
          generalize y.pre = yp at *
          go_wp2
          go_ret
          exact ⟨by rw [HR.out]; rfl, HBL.out⟩
        | false =>
          rw [h2] at ey HCP
          have HR : Hid (cmpS a b = lexC (partsB x.pre) (partsB y.pre)) := HCP.out
          have PX := hidM (HXP.out h1)
          have PY := hidM (HYP.out h2)
          clear h1 h2 HCP HXP HYP
          have HC1 : Hid (∀ V, Calls Tryd.prog 32 #[.string x.pre, .int .u8 46] V fun e w' => SlRet w' V.heap.size (partsB x.pre) e ∧ Below V.heap.size V w') := fun V => by have h := rcut_any x.pre 46 V (by omega); rw [cutB_parts] at h; exact h
          have HC2 : Hid (∀ V, Calls Tryd.prog 32 #[.string y.pre, .int .u8 46] V fun e w' => SlRet w' V.heap.size (partsB y.pre) e ∧ Below V.heap.size V w') := fun V => by have h := rcut_any y.pre 46 V (by omega); rw [cutB_parts] at h; exact h
          have XN : Hid (partsB x.pre ≠ []) := by rw [parts_eq]; intro h; exact cutL_ne _ _ (List.map_eq_nil_iff.1 h)
          have YN : Hid (partsB y.pre ≠ []) := by rw [parts_eq]; intro h; exact cutL_ne _ _ (List.map_eq_nil_iff.1 h)
          have XS : Hid (∀ z ∈ partsB x.pre, z.size ≤ 200) := fun z hz => by have := parts_size hz; omega
          have YS : Hid (∀ z ∈ partsB y.pre, z.size ≤ 200) := fun z hz => by have := parts_size hz; omega
          have xl : (partsB x.pre).length ≤ 101 := by have := parts_len x.pre; omega
          have yl : (partsB y.pre).length ≤ 101 := by have := parts_len y.pre; omega
          have HTW : Hid (∀ V, CmR w B1 B2 x y V → V.cell? ⟨B1, 3, none⟩ = some (.string x.pre) ∧ V.cell? ⟨B2, 3, none⟩ = some (.string y.pre) ∧ Hid (CmR w B1 B2 x y V)) := fun V h => by
            obtain ⟨_, _, _, z3, _, _, _, z7, _⟩ := CmR.full h
            exact ⟨z3, z7, h⟩
          generalize partsB x.pre = X at *
          generalize partsB y.pre = Y at *
          generalize hgx : x.pre = xp at *
          generalize hgy : y.pre = yp at *
          clear hgx hgy
          go_upto_region 21 with fail
          refine wp_region_noPanic ?_
          refine wp_region_held_drew (S := (fun w' => w'.cell? ⟨B1, 3, none⟩ = some (.string xp) ∧ w'.cell? ⟨B2, 3, none⟩ = some (.string yp) ∧ Hid (CmR w B1 B2 x y w'))) (by kernel_rfl) ?_ (fun hHeld => ?_)
          · exact HTW.out _ (CmR.drew (hidM HS3.out)).out
          refine wpAnyH_take (i := 0) (v := ?_) rfl (by kernel_rfl) (by kernel_rfl) (by kernel_rfl) (fun _ _ _ h => h) (Or.inl ⟨by kernel_rfl, ?_⟩) (by assumption) ?_
          rotate_left
          · intro w hSw
            clear hSw
            go_simp
            try with_reducible rfl
          change wpAnyH _ _ _ _ _ _ _ (⟨#[_, _, _, _, _, _, _, _, _, _, _, _, _, _, _, _, _, _, _, _, _, _, _, _, _, _, _, _, _, _, _, _, _, _, _, _, _, _, _, _, _, _, _, _, _, _, _, _, _, _, _, _, _, _, _, _, _, _, _, _, _, _, _, _, _, _, _, _, _, _, _, _, _, _, _, _, _, _, _, _, _, _, _, _, _, _, _, _, _, _, _, _, _, _, _, _, _, _, _, _, _, _, _, _, _, _, _, _, _, _, _, _, _, _, _, _, _, _, _, _, _, _, _, _, _, _, _, _, _, _, _, _, _, _, _, _, _, _, _, _, _, _, _, _, _, _, _, _, _], _⟩ : Act) _
          refine wpAnyH_take (i := 1) (v := ?_) rfl (by kernel_rfl) (by kernel_rfl) (by kernel_rfl) (fun _ _ _ h => h) (Or.inl ⟨by kernel_rfl, ?_⟩) (by assumption) ?_
          rotate_left
          · intro w hSw
            obtain ⟨d3, d7, _⟩ := hSw
            go_simp
            try with_reducible rfl
          change wpAnyH _ _ _ _ _ _ _ (⟨#[_, _, _, _, _, _, _, _, _, _, _, _, _, _, _, _, _, _, _, _, _, _, _, _, _, _, _, _, _, _, _, _, _, _, _, _, _, _, _, _, _, _, _, _, _, _, _, _, _, _, _, _, _, _, _, _, _, _, _, _, _, _, _, _, _, _, _, _, _, _, _, _, _, _, _, _, _, _, _, _, _, _, _, _, _, _, _, _, _, _, _, _, _, _, _, _, _, _, _, _, _, _, _, _, _, _, _, _, _, _, _, _, _, _, _, _, _, _, _, _, _, _, _, _, _, _, _, _, _, _, _, _, _, _, _, _, _, _, _, _, _, _, _, _, _, _, _, _, _], _⟩ : Act) _
          refine wpAnyH_take (i := 3) (v := ?_) rfl (by kernel_rfl) (by kernel_rfl) (by kernel_rfl) (fun _ _ _ h => h) (Or.inl ⟨by kernel_rfl, ?_⟩) (by assumption) ?_
          rotate_left
          · intro w hSw
            clear hSw
            go_simp
            try with_reducible rfl
          change wpAnyH _ _ _ _ _ _ _ (⟨#[_, _, _, _, _, _, _, _, _, _, _, _, _, _, _, _, _, _, _, _, _, _, _, _, _, _, _, _, _, _, _, _, _, _, _, _, _, _, _, _, _, _, _, _, _, _, _, _, _, _, _, _, _, _, _, _, _, _, _, _, _, _, _, _, _, _, _, _, _, _, _, _, _, _, _, _, _, _, _, _, _, _, _, _, _, _, _, _, _, _, _, _, _, _, _, _, _, _, _, _, _, _, _, _, _, _, _, _, _, _, _, _, _, _, _, _, _, _, _, _, _, _, _, _, _, _, _, _, _, _, _, _, _, _, _, _, _, _, _, _, _, _, _, _, _, _, _, _, _], _⟩ : Act) _
          refine wpAnyH_take (i := 4) (v := ?_) rfl (by kernel_rfl) (by kernel_rfl) (by kernel_rfl) (fun _ _ _ h => h) (Or.inl ⟨by kernel_rfl, ?_⟩) (by assumption) ?_
          rotate_left
          · intro w hSw
            obtain ⟨d3, d7, _⟩ := hSw
            go_simp
            try with_reducible rfl
          change wpAnyH _ _ _ _ _ _ _ (⟨#[_, _, _, _, _, _, _, _, _, _, _, _, _, _, _, _, _, _, _, _, _, _, _, _, _, _, _, _, _, _, _, _, _, _, _, _, _, _, _, _, _, _, _, _, _, _, _, _, _, _, _, _, _, _, _, _, _, _, _, _, _, _, _, _, _, _, _, _, _, _, _, _, _, _, _, _, _, _, _, _, _, _, _, _, _, _, _, _, _, _, _, _, _, _, _, _, _, _, _, _, _, _, _, _, _, _, _, _, _, _, _, _, _, _, _, _, _, _, _, _, _, _, _, _, _, _, _, _, _, _, _, _, _, _, _, _, _, _, _, _, _, _, _, _, _, _, _, _, _], _⟩ : Act) _
          refine wpAnyH_ready (rs := [2]) (by kernel_rfl) (by simp) ?_
          refine AllReadyH.cons rfl (fun K hK => ?_) AllReadyH.nil
          go_simp
          with_reducible refine (HC1.out _).mono ?_
          rintro _ v1 ⟨⟨u1, ho1, rfl⟩, hb1⟩
          refine hK.out _ _ (HTW.out _ (hHeld.2.2.out.next hb1)) (fun hHeld => ?_)
          clear hK K
          change wpAnyH _ _ _ _ _ _ _ (⟨#[_, _, _, _, _, _, _, _, _, _, _, _, _, _, _, _, _, _, _, _, _, _, _, _, _, _, _, _, _, _, _, _, _, _, _, _, _, _, _, _, _, _, _, _, _, _, _, _, _, _, _, _, _, _, _, _, _, _, _, _, _, _, _, _, _, _, _, _, _, _, _, _, _, _, _, _, _, _, _, _, _, _, _, _, _, _, _, _, _, _, _, _, _, _, _, _, _, _, _, _, _, _, _, _, _, _, _, _, _, _, _, _, _, _, _, _, _, _, _, _, _, _, _, _, _, _, _, _, _, _, _, _, _, _, _, _, _, _, _, _, _, _, _, _, _, _, _, _, _], _⟩ : Act) _
          refine wpAnyH_ready (rs := [5]) (by kernel_rfl) (by simp) ?_
          refine AllReadyH.cons rfl (fun K hK => ?_) AllReadyH.nil
          go_simp
          with_reducible refine (HC2.out _).mono ?_
          rintro _ v2 ⟨⟨u2, ho2, rfl⟩, hb2⟩
          refine hK.out _ _ (HTW.out _ (hHeld.2.2.out.next hb2)) (fun hHeld => ?_)
          clear hK K
          change wpAnyH _ _ _ _ _ _ _ (⟨#[_, _, _, _, _, _, _, _, _, _, _, _, _, _, _, _, _, _, _, _, _, _, _, _, _, _, _, _, _, _, _, _, _, _, _, _, _, _, _, _, _, _, _, _, _, _, _, _, _, _, _, _, _, _, _, _, _, _, _, _, _, _, _, _, _, _, _, _, _, _, _, _, _, _, _, _, _, _, _, _, _, _, _, _, _, _, _, _, _, _, _, _, _, _, _, _, _, _, _, _, _, _, _, _, _, _, _, _, _, _, _, _, _, _, _, _, _, _, _, _, _, _, _, _, _, _, _, _, _, _, _, _, _, _, _, _, _, _, _, _, _, _, _, _, _, _, _, _, _], _⟩ : Act) _
          refine wpAnyH_take (i := 6) (v := ?_) rfl (by kernel_rfl) (by kernel_rfl) (by kernel_rfl) (fun _ _ _ h => h) (Or.inl ⟨by kernel_rfl, ?_⟩) (by assumption) ?_
          rotate_left
          · intro w hSw
            clear hSw
            go_simp
            try with_reducible rfl
          change wpAnyH _ _ _ _ _ _ _ (⟨#[_, _, _, _, _, _, _, _, _, _, _, _, _, _, _, _, _, _, _, _, _, _, _, _, _, _, _, _, _, _, _, _, _, _, _, _, _, _, _, _, _, _, _, _, _, _, _, _, _, _, _, _, _, _, _, _, _, _, _, _, _, _, _, _, _, _, _, _, _, _, _, _, _, _, _, _, _, _, _, _, _, _, _, _, _, _, _, _, _, _, _, _, _, _, _, _, _, _, _, _, _, _, _, _, _, _, _, _, _, _, _, _, _, _, _, _, _, _, _, _, _, _, _, _, _, _, _, _, _, _, _, _, _, _, _, _, _, _, _, _, _, _, _, _, _, _, _, _, _], _⟩ : Act) _
          refine wpAnyH_take (i := 7) (v := ?_) rfl (by kernel_rfl) (by kernel_rfl) (by kernel_rfl) (fun _ _ _ h => h) (Or.inl ⟨by kernel_rfl, ?_⟩) (by assumption) ?_
          rotate_left
          · intro w hSw
            clear hSw
            go_simp
            try with_reducible rfl
          change wpAnyH _ _ _ _ _ _ _ (⟨#[_, _, _, _, _, _, _, _, _, _, _, _, _, _, _, _, _, _, _, _, _, _, _, _, _, _, _, _, _, _, _, _, _, _, _, _, _, _, _, _, _, _, _, _, _, _, _, _, _, _, _, _, _, _, _, _, _, _, _, _, _, _, _, _, _, _, _, _, _, _, _, _, _, _, _, _, _, _, _, _, _, _, _, _, _, _, _, _, _, _, _, _, _, _, _, _, _, _, _, _, _, _, _, _, _, _, _, _, _, _, _, _, _, _, _, _, _, _, _, _, _, _, _, _, _, _, _, _, _, _, _, _, _, _, _, _, _, _, _, _, _, _, _, _, _, _, _, _, _], _⟩ : Act) _
          refine wpAnyH_done (by kernel_rfl) ?_ _
          refine NoPanic.normal ?_
          obtain ⟨_, c1, rfl, hs1⟩ := ho1.shape
          obtain ⟨g1, rfl, _, hg1, hst1⟩ := hs1 XN.out
          obtain ⟨_, c2, rfl, hs2⟩ := ho2.shape
          obtain ⟨g2, rfl, _, hg2, hst2⟩ := hs2 YN.out
          have HX1 : Hid (StrsAt v2 g1 X) := hst1.below hb2 hg1
          have HX2 : Hid (StrsAt v2 g2 Y) := hst2
          have hg1' : g1 < v2.heap.size := Nat.lt_of_lt_of_le hg1 hb2.size
          have HBV := hidM hHeld.2.2.out.bel
          clear hHeld ho1 ho2 hs1 hs2 hst1 hst2 hb1 hb2 HC1 HC2 HTW HS3 p3 p7 hg1 HBL
          have HD := hidM (fun z V (h : z.size ≤ 200) => rdigits_any z V (by omega))
          have HL := hidM (fun A B (V : World) => level_any A B V)
          have HNB := hidM (fun (A B : ByteArray) V ha hb hna hnb => rbyNumber_any A B V ha hb hna hnb)
          go_wp2
          go_loopw [13] (fun iv wr => ∃ k : Nat, k ≤ X.length ∧ k ≤ Y.length ∧ iv = .int .i64 (k : Int) ∧ (∀ j (h1 : j < X.length) (h2 : j < Y.length), j < k → X[j] = Y[j]) ∧ Below v2.heap.size v2 wr) (fun i _ => X.length - (intOf i).toNat)
          case atStart => exact ⟨0, Nat.zero_le _, Nat.zero_le _, rfl, (fun j _ _ hj => by omega), Below.refl _ _⟩
          case round =>
            obtain ⟨k, hk1, hk2, rfl, hno, hbr⟩ := hrel
            have HNO := hidM hno
            have HBR := hidM hbr
            clear hno hbr
            by_cases hlt : k < X.length ∧ k < Y.length
            · obtain ⟨hlx, hly⟩ := hlt
              have gk1 : (k : Int) < (X.length : Int) := by omega
              have gk2 : (k : Int) < (Y.length : Int) := by omega
              have gk3 : decide ((k : Int) < (X.length : Int)) = true := decide_eq_true gk1
              have gk4 : decide ((k : Int) < (Y.length : Int)) = true := decide_eq_true gk2
              have HCX : Hid (∀ V, Below v2.heap.size v2 V → V.cell? ⟨g1, k, none⟩ = some (.string X[k]) ∧ V.cell? ⟨g2, k, none⟩ = some (.string Y[k])) := fun V hV => ⟨(HX1.out.below hV hg1') k hlx, (HX2.out.below hV hg2) k hly⟩
              have sx := XS.out X[k] (List.getElem_mem hlx)
              have sy := YS.out Y[k] (List.getElem_mem hly)
              have PXk : Hid (preL X[k].data.toList = true) := List.all_eq_true.1 PX.out X[k] (List.getElem_mem hlx)
              have PYk : Hid (preL Y[k].data.toList = true) := List.all_eq_true.1 PY.out Y[k] (List.getElem_mem hly)
              have HHI : Hid (wordCmp X[k] Y[k] ≠ 0 → cmpS a b = wordCmp X[k] Y[k]) := fun h => by rw [HR.out]; exact lex_hit hlx hly HNO.out h
              have HNX : Hid (X[k] = Y[k] → ∀ j (h1 : j < X.length) (h2 : j < Y.length), j < k + 1 → X[j] = Y[j]) := fun h j h1 h2 hj => by
                rcases Nat.lt_or_ge j k with h3 | h3
                · exact HNO.out j h1 h2 h3
                · obtain rfl : j = k := by omega
                  exact h
              obtain ⟨cx, cy⟩ := HCX.out wr HBR.out
              clear HNO HR
              generalize X[k] = p at *
              generalize Y[k] = q at *
              by_cases hpq : p = q
              · as_aux_lemma =>
                have HN := hidM (HNX.out hpq)
                have e1 : (p.toList == q.toList) = true := by rw [hpq]; simp
                clear hpq HHI HNX PXk PYk
                go_upto_region 25 with fail
                go_quiet (fail)
                have HB9 := hidM (below_drewN HBR.out nq)
                generalize wr.drewN nq = wz at *
                go_wp2
                go_roundw
                case rel => exact ⟨k + 1, by omega, by omega, by go_num, HN.out, HB9.out⟩
                case measure => simp [intOf]; omega
              · have HRW : Hid (cmpS a b = wordCmp p q) := HHI.out (fun h => hpq (word_zero h))
                have e1 : (p.toList == q.toList) = false := by
                  rw [beq_eq_false_iff_ne, Lib.toList_data, Lib.toList_data]
                  exact fun h => hpq (bytes_ext h)
                clear hpq HHI HNX
                go_upto_region 25 with fail
                go_quiet (fail)
                have HB9 := hidM (below_drewN HBR.out nq)
                generalize wr.drewN nq = wz at *
                clear cx cy HBR
                obtain ⟨cx, cy⟩ := HCX.out wz HB9.out
                have HDP := hidM (HD.out p wz sx)
                have HDQ := hidM (HD.out q wz sy)
                have HFIN := hidM (HBV.out.trans (HB9.out.mono HBV.out.size))
                unfold wordCmp at HRW
                have HNP : Hid (digL p.data.toList = true → numL p.data.toList = true) := fun h => by
                  have := PXk.out
                  unfold preL at this
                  rw [h] at this
                  simp at this
                  exact this.2
                have HNQ : Hid (digL q.data.toList = true → numL q.data.toList = true) := fun h => by
                  have := PYk.out
                  unfold preL at this
                  rw [h] at this
                  simp at this
                  exact this.2
                cases hdp : digL p.data.toList with
                | true =>
                  cases hdq : digL q.data.toList with
                  | true =>
                    as_aux_lemma =>
                    have HQ : Hid (∀ V, Calls Tryd.prog 34 #[.string p, .string q] V fun e w' => e = .returned (.int .i64 (numC p q)) ∧ ∃ m, w' = V.drewN m) := fun V => (HNB.out p q V sx sy (HNP.out hdp) (HNQ.out hdq)).mono fun e w' ⟨he, hw⟩ => ⟨he, 0, hw⟩
                    rw [hdp, hdq] at HRW
                    rw [hdp] at HDP
                    rw [hdq] at HDQ
                    have HRX : Hid (cmpS a b = numC p q) := HRW.out
                    clear hdp hdq HRW HNP HNQ PXk PYk
                    generalize numC p q = r at *
                    go_wp2_with fail
                    refine HDP.out.mono ?_
                    rintro _ w9 ⟨rfl, h9⟩
                    rw [h9]
                    clear h9
                    go_wp2_with fail
                    refine HDQ.out.mono ?_
                    rintro _ w9 ⟨rfl, h9⟩
                    rw [h9]
                    clear h9
                    go_upto_region 27 with fail
                    go_quiet ((go_at_call 34; with_reducible exact Calls.quiet_of (HQ.out _)))
                    have HFN := hidM (below_drewN HFIN.out nq)
                    go_wp2
                    go_ret
                    exact ⟨by rw [HRX.out]; rfl, HFN.out⟩
                  | false =>
                    as_aux_lemma =>
                    rw [hdp, hdq] at HRW
                    rw [hdp] at HDP
                    rw [hdq] at HDQ
                    have HRX : Hid (cmpS a b = -1) := HRW.out
                    clear hdp hdq HRW HNP HNQ PXk PYk
                    go_wp2_with fail
                    refine HDP.out.mono ?_
                    rintro _ w9 ⟨rfl, h9⟩
                    rw [h9]
                    clear h9
                    go_wp2_with fail
                    refine HDQ.out.mono ?_
                    rintro _ w9 ⟨rfl, h9⟩
                    rw [h9]
                    clear h9
                    go_wp2_with fail
                    refine HDP.out.mono ?_
                    rintro _ w9 ⟨rfl, h9⟩
                    rw [h9]
                    clear h9
                    go_wp2
                    go_ret
                    exact ⟨by rw [HRX.out]; rfl, HFIN.out⟩
                | false =>
                  cases hdq : digL q.data.toList with
                  | true =>
                    as_aux_lemma =>
                    rw [hdp, hdq] at HRW
                    rw [hdp] at HDP
                    rw [hdq] at HDQ
                    have HRX : Hid (cmpS a b = 1) := HRW.out
                    clear hdp hdq HRW HNP HNQ PXk PYk
                    go_wp2_with fail
                    refine HDP.out.mono ?_
                    rintro _ w9 ⟨rfl, h9⟩
                    rw [h9]
                    clear h9
                    go_wp2_with fail
                    refine HDP.out.mono ?_
                    rintro _ w9 ⟨rfl, h9⟩
                    rw [h9]
                    clear h9
                    go_wp2_with fail
                    refine HDQ.out.mono ?_
                    rintro _ w9 ⟨rfl, h9⟩
                    rw [h9]
                    clear h9
                    go_wp2
                    go_ret
                    exact ⟨by rw [HRX.out]; rfl, HFIN.out⟩
                  | false =>
                    as_aux_lemma =>
                    have HQ : Hid (∀ V, Calls Tryd.prog 36 #[.string p, .string q] V fun e w' => e = .returned (.int .i64 (Lib.compareBytes p.data.toList q.data.toList)) ∧ ∃ m, w' = V.drewN m) := fun V => (HL.out p q V).mono fun e w' ⟨he, hw⟩ => ⟨he, 0, hw⟩
                    rw [hdp, hdq] at HRW
                    rw [hdp] at HDP
                    rw [hdq] at HDQ
                    have HRX : Hid (cmpS a b = Lib.compareBytes p.data.toList q.data.toList) := HRW.out
                    clear hdp hdq HRW HNP HNQ PXk PYk
                    generalize Lib.compareBytes p.data.toList q.data.toList = r at *
                    go_wp2_with fail
                    refine HDP.out.mono ?_
                    rintro _ w9 ⟨rfl, h9⟩
                    rw [h9]
                    clear h9
                    go_wp2_with fail
                    refine HDP.out.mono ?_
                    rintro _ w9 ⟨rfl, h9⟩
                    rw [h9]
                    clear h9
                    go_wp2_with fail
                    refine HDQ.out.mono ?_
                    rintro _ w9 ⟨rfl, h9⟩
                    rw [h9]
                    clear h9
                    go_upto_region 32 with fail
                    go_quiet ((go_at_call 36; with_reducible exact Calls.quiet_of (HQ.out _)))
                    have HFN := hidM (below_drewN HFIN.out nq)
                    go_wp2
                    go_ret
                    exact ⟨by rw [HRX.out]; rfl, HFN.out⟩
            · have hor : k = X.length ∨ k = Y.length := by omega
              have HRX : Hid (cmpS a b = cmpI (X.length : Int) (Y.length : Int)) := by unfold Hid; rw [HR.out]; exact lex_end hk1 hk2 hor HNO.out
              have HE1 := hidM (fun V => rdec_any X.length V (by omega))
              have HE2 := hidM (fun V => rdec_any Y.length V (by omega))
              have hd1 := dec_is (n := X.length) (by omega)
              have hd2 := dec_is (n := Y.length) (by omega)
              have HE3 := hidM (fun V => HNB.out (decB X.length) (decB Y.length) V hd1.2 hd2.2 hd1.1 hd2.1)
              have hdc := dec_cmp (n := X.length) (m := Y.length) (by omega) (by omega)
              rw [hdc, ← HRX.out] at HE3
              clear HRX HR hd1 hd2 hdc HNO
              obtain ⟨r, hr⟩ : ∃ r, r = cmpS a b := ⟨_, rfl⟩
              rw [← hr] at HE3
              have HRE := hidM hr
              clear hr
              generalize decB X.length = D1 at *
              generalize decB Y.length = D2 at *
              have HTST : Hid ((k : Int) < (X.length : Int) → ¬ (k : Int) < (Y.length : Int)) := fun h => by omega
              by_cases h1 : k < X.length
              · have g1 : (k : Int) < (X.length : Int) := by omega
                have g2 : ¬ (k : Int) < (Y.length : Int) := by omega
                have g3 : decide ((k : Int) < (X.length : Int)) = true := decide_eq_true g1
                have g4 : decide ((k : Int) < (Y.length : Int)) = false := decide_eq_false g2
                as_aux_lemma =>
                clear hor HTST h1 hlt
                go_wp2_with fail
                refine (HE1.out _).mono ?_
                rintro _ z1 ⟨rfl, hz1⟩
                have HZ1 := hidM (HBR.out.trans (hz1.mono HBR.out.size))
                clear hz1
                go_wp2_with fail
                refine (HE2.out _).mono ?_
                rintro _ z2 ⟨rfl, hz2⟩
                have HZ2 := hidM (HZ1.out.trans (hz2.mono HZ1.out.size))
                clear hz2
                go_wp2_with fail
                refine (HE3.out _).mono ?_
                rintro _ z3 ⟨rfl, hz3⟩
                rw [hz3]
                clear hz3
                have HFN := hidM (HBV.out.trans (HZ2.out.mono HBV.out.size))
                go_wp2
                go_ret
                exact ⟨by rw [← HRE.out]; rfl, HFN.out⟩
              · have g1 : ¬ (k : Int) < (X.length : Int) := by omega
                have g3 : decide ((k : Int) < (X.length : Int)) = false := decide_eq_false g1
                as_aux_lemma =>
                clear hor HTST h1 hlt
                go_wp2_with fail
                refine (HE1.out _).mono ?_
                rintro _ z1 ⟨rfl, hz1⟩
                have HZ1 := hidM (HBR.out.trans (hz1.mono HBR.out.size))
                clear hz1
                go_wp2_with fail
                refine (HE2.out _).mono ?_
                rintro _ z2 ⟨rfl, hz2⟩
                have HZ2 := hidM (HZ1.out.trans (hz2.mono HZ1.out.size))
                clear hz2
                go_wp2_with fail
                refine (HE3.out _).mono ?_
                rintro _ z3 ⟨rfl, hz3⟩
                rw [hz3]
                clear hz3
                have HFN := hidM (HBV.out.trans (HZ2.out.mono HBV.out.size))
                go_wp2
                go_ret
                exact ⟨by rw [← HRE.out]; rfl, HFN.out⟩
end Go.Proofs.YtdbkmcjdkiljaaaDoor
