/-
  Walks of pseudo: baseOf.
-/
import Derived.Test.YtmhjdahmmdfbcaaGreatDoorPsE
namespace Go.Proofs.YtmhjdahmmdfbcaaGreatDoor
open Go.RowKit

def lessV (v : Ver) : Ver := ⟨v.major, v.minor, ⟨(lessL v.patch.data.toList).toArray⟩, ⟨#[]⟩, v.build, v.short⟩
def preV (v : Ver) (p : ByteArray) : Ver := ⟨v.major, v.minor, v.patch, p, v.build, v.short⟩
def baseR (v : Ver) (front : ByteArray) : ByteArray × Bool :=
  if front.toList.isEmpty then (⟨#[]⟩, (v.minor.toList == [48]) && (v.patch.toList == [48]) && v.build.toList.isEmpty)
  else if front.toList == [48, 46] then (if v.patch.toList == [48] then (⟨#[]⟩, false) else (wriV (lessV v), true))
  else if Lib.hasSuffix front.data.toList [46, 48, 46] then (wriV (preV v ⟨(Lib.trimSuffix front.data.toList [46, 48, 46]).toArray⟩), true) else (⟨#[]⟩, false)

theorem trim_len (l : List UInt8) : (trim0 l).length ≤ l.length := by
  unfold trim0
  split
  · split <;> simp
  · exact Nat.le_refl _
theorem less_len (l : List UInt8) : (lessL l).length ≤ l.length + 1 := by
  unfold lessL
  refine Nat.le_trans (trim_len _) ?_
  unfold lessAt
  simp
  omega
theorem box6_one {V : World} {B : Nat} {a b c d e n y : Value} (h : V.heap[B]? = some (.cells #[a, b, c, d, e, n] 43 (0, 0))) :
    (V.setCell ⟨B, 3, none⟩ y).heap[B]? = some (.cells #[a, b, c, y, e, n] 43 (0, 0)) := by
  rw [setCell_eq_setRow V _ 3 #[a, b, c, d, e, n] 43 (0, 0) y h]
  exact setRow_heap V _ _ _ 43 (0, 0) h
theorem box6_two {V : World} {B : Nat} {a b c d e n x y : Value} (h : V.heap[B]? = some (.cells #[a, b, c, d, e, n] 43 (0, 0))) :
    ((V.setCell ⟨B, 2, none⟩ x).setCell ⟨B, 3, none⟩ y).heap[B]? = some (.cells #[a, b, x, y, e, n] 43 (0, 0)) := by
  refine box6_one (d := d) ?_
  rw [setCell_eq_setRow V _ 2 #[a, b, c, d, e, n] 43 (0, 0) x h]
  exact setRow_heap V _ _ _ 43 (0, 0) h
set_option maxHeartbeats 2000000 in
set_option maxRecDepth 100000 in
theorem baseOf_any (v : Ver) (front : ByteArray) (w : World) (z1 : v.major.size ≤ 200) (z2 : v.minor.size ≤ 200) (z3 : v.patch.size ≤ 200) (z5 : v.build.size ≤ 200) (z6 : front.size ≤ 200)
    (hp0 : 0 < v.patch.size) (hpd : ∀ c ∈ v.patch.data.toList, 1 ≤ c.toNat) :
    Calls Tryz.prog 34 #[verA v, .string front] w fun e w' => e = .returned (.tuple #[.string (baseR v front).1, .bool (baseR v front).2]) ∧ Below w.heap.size w w' := by
  have HB0 : Hid (Below w.heap.size w (w.alloc (.cells #[.string v.major, .string v.minor, .string v.patch, .string v.pre, .string v.build, .int .i64 (v.short : Int)] 43))) := (Below.refl _ w).alloc (Nat.le_refl _) _
  have HX0 := hidM (heap_alloc_new w (.cells #[.string v.major, .string v.minor, .string v.patch, .string v.pre, .string v.build, .int .i64 (v.short : Int)] 43))
  cases hF : front.toList.isEmpty with
  | true =>
    have HR : Hid (baseR v front = (⟨#[]⟩, (v.minor.toList == [48]) && (v.patch.toList == [48]) && v.build.toList.isEmpty)) := by unfold Hid baseR; rw [hF, if_pos rfl]
    unfold verA
    have HF := hidM hF
    generalize baseR v front = R at *
    generalize hm : (v.minor.toList == [48]) = bm at *
    generalize hp : (v.patch.toList == [48]) = bp at *
    generalize hbu : v.build.toList.isEmpty = bb at *
    generalize v.major = a at *
    generalize v.minor = b at *
    generalize v.patch = c at *
    generalize v.pre = d at *
    generalize v.build = e at *
    generalize (v.short : Int) = n at *
    go_enter Tryz.func34, Tryz.ntmps34
    go_wp2_with fail
    have HX1 := HX0
    generalize w.alloc (.cells #[.string a, .string b, .string c, .string d, .string e, .int .i64 n] 43) = W at *
    have c1 : W.cell? ⟨w.heap.size, 1, none⟩ = some (.string b) := by rw [cell_of_row _ _ _ _ 43 (0, 0) HX1.out]; rfl
    have c2 : W.cell? ⟨w.heap.size, 2, none⟩ = some (.string c) := by rw [cell_of_row _ _ _ _ 43 (0, 0) HX1.out]; rfl
    have c4 : W.cell? ⟨w.heap.size, 4, none⟩ = some (.string e) := by rw [cell_of_row _ _ _ _ 43 (0, 0) HX1.out]; rfl
    cases bm <;> cases bp <;> cases bb
    all_goals as_aux_lemma =>
      go_quiet (fail)
      go_wp2
      refine bodyPost_ret (results_tmp2 rfl _ _ _) rfl ?_
      exact ⟨by rw [HR.out]; rfl, below_drewN HB0.out _⟩
  | false =>
    cases h0 : front.toList == [48, 46] with
    | true =>
      cases hp : v.patch.toList == [48] with
      | true =>
        as_aux_lemma =>
        have HR : Hid (baseR v front = (⟨#[]⟩, false)) := by unfold Hid baseR; rw [hF, h0, hp]; rfl
        unfold verA
        generalize baseR v front = R at *
        generalize v.major = a at *
        generalize v.minor = b at *
        generalize v.patch = c at *
        generalize v.pre = d at *
        generalize v.build = e at *
        generalize (v.short : Int) = n at *
        go_enter Tryz.func34, Tryz.ntmps34
        go_wp2
        refine bodyPost_ret (results_tmp2 rfl _ _ _) rfl ?_
        exact ⟨by rw [HR.out]; rfl, HB0.out⟩
      | false =>
        as_aux_lemma =>
        have HR : Hid (baseR v front = (wriV (lessV v), true)) := by unfold Hid baseR; rw [hF, h0, hp]; rfl
        have HL := hidM (fun V => oneLess_any v.patch V (by omega) hp0 hpd)
        have HW : Hid (∀ V, Calls Tryz.prog 28 #[.agg #[.string v.major, .string v.minor, .string ⟨(lessL v.patch.data.toList).toArray⟩, .string ⟨#[]⟩, .string v.build, .int .i64 (v.short : Int)]] V fun e w' => e = .returned (.string (wriV (lessV v))) ∧ Below V.heap.size V w') :=
          fun V => written_any (lessV v) V (by show v.major.size ≤ _; omega) (by show v.minor.size ≤ _; omega) (by
            show (lessL v.patch.data.toList).toArray.size ≤ _
            have := less_len v.patch.data.toList
            have := len_size v.patch
            rw [List.size_toArray]; omega) (Nat.zero_le _) (by show v.build.size ≤ _; omega)
        unfold verA
        clear hpd
        generalize baseR v front = R at *
        generalize wriV (lessV v) = T at *
        generalize (⟨(lessL v.patch.data.toList).toArray⟩ : ByteArray) = u at *
        generalize v.major = a at *
        generalize v.minor = b at *
        generalize v.patch = c at *
        generalize v.pre = d at *
        generalize v.build = e at *
        generalize (v.short : Int) = n at *
        go_enter Tryz.func34, Tryz.ntmps34
        go_wp2_with fail
        refine (HL.out _).mono ?_
        rintro _ w2 ⟨rfl, hb2⟩
        have HX2 := hidM (box_kept HX0.out hb2)
        have HB2 := hidM (HB0.out.trans (hb2.mono HB0.out.size))
        have c2 : w2.cell? ⟨w.heap.size, 2, none⟩ = some (.string c) := by rw [cell_of_row _ _ _ _ 43 (0, 0) HX2.out]; rfl
        have c3 : w2.cell? ⟨w.heap.size, 3, none⟩ = some (.string d) := by rw [cell_of_row _ _ _ _ 43 (0, 0) HX2.out]; rfl
        have f2 : w2.frozen? ⟨w.heap.size, 2, none⟩ = false := by simp [World.frozen?, HX2.out]
        have f3 : w2.frozen? ⟨w.heap.size, 3, none⟩ = false := by simp [World.frozen?, HX2.out]
        have HX3 := hidM (box6_two (x := .string u) (y := .string ⟨#[]⟩) HX2.out)
        have HB3 : Hid (Below w.heap.size w ((w2.setCell ⟨w.heap.size, 2, none⟩ (.string u)).setCell ⟨w.heap.size, 3, none⟩ (.string ⟨#[]⟩))) := (HB2.out.setCell (Nat.le_refl _) _).setCell (Nat.le_refl _) _
        clear hb2 HX0 HB0 HL HB2
        go_wp2_with (refine wpList_load_row rfl 43 (.tmp 2) rfl w.heap.size rfl 43 #[.string a, .string b, .string u, .string ⟨#[]⟩, .string e, .int .i64 n] (0, 0) _ HX3.out Tryz.underlying43 rfl size23 ?_)
        refine (HW.out _).mono ?_
        rintro _ w4 ⟨rfl, hb4⟩
        have HB4 := hidM (HB3.out.trans (hb4.mono HB3.out.size))
        go_wp2
        refine bodyPost_ret (results_tmp2 rfl _ _ _) rfl ?_
        exact ⟨by rw [HR.out]; rfl, HB4.out⟩
    | false =>
      have HCS := hidM (fun V => Tryz.strings_CutSuffix front ⟨#[46, 48, 46]⟩ V (by omega))
      cases hs : Lib.hasSuffix front.data.toList [46, 48, 46] with
      | true =>
        as_aux_lemma =>
        have HR : Hid (baseR v front = (wriV (preV v ⟨(Lib.trimSuffix front.data.toList [46, 48, 46]).toArray⟩), true)) := by unfold Hid baseR; rw [hF, h0, hs]; rfl
        have HW : Hid (∀ V, Calls Tryz.prog 28 #[.agg #[.string v.major, .string v.minor, .string v.patch, .string ⟨(Lib.trimSuffix front.data.toList [46, 48, 46]).toArray⟩, .string v.build, .int .i64 (v.short : Int)]] V fun e w' => e = .returned (.string (wriV (preV v ⟨(Lib.trimSuffix front.data.toList [46, 48, 46]).toArray⟩))) ∧ Below V.heap.size V w') :=
          fun V => written_any (preV v _) V (by show v.major.size ≤ _; omega) (by show v.minor.size ≤ _; omega) (by show v.patch.size ≤ _; omega) (by
            show (Lib.trimSuffix front.data.toList [46, 48, 46]).toArray.size ≤ _
            have h1 : (Lib.trimSuffix front.data.toList [46, 48, 46]).length ≤ front.data.toList.length := by
              unfold Lib.trimSuffix
              rw [hs, if_pos rfl, List.length_take]
              omega
            have := len_size front
            rw [List.size_toArray]; omega) (by show v.build.size ≤ _; omega)
        unfold verA
        clear hpd
        have hs' : Lib.hasSuffix front.data.toList (⟨#[46, 48, 46]⟩ : ByteArray).data.toList = true := hs
        have hu : (⟨(Lib.trimSuffix front.data.toList (⟨#[46, 48, 46]⟩ : ByteArray).data.toList).toArray⟩ : ByteArray) = ⟨(Lib.trimSuffix front.data.toList [46, 48, 46]).toArray⟩ := rfl
        rw [hs', hu] at HCS
        clear hu hs' hs
        generalize baseR v front = R at *
        generalize wriV (preV v ⟨(Lib.trimSuffix front.data.toList [46, 48, 46]).toArray⟩) = T at *
        generalize (⟨(Lib.trimSuffix front.data.toList [46, 48, 46]).toArray⟩ : ByteArray) = u at *
        generalize v.major = a at *
        generalize v.minor = b at *
        generalize v.patch = c at *
        generalize v.pre = d at *
        generalize v.build = e at *
        generalize (v.short : Int) = n at *
        go_enter Tryz.func34, Tryz.ntmps34
        go_wp2_with fail
        refine (HCS.out _).mono ?_
        rintro _ w1 ⟨rfl, hw1⟩
        rw [hw1]
        clear hw1 HCS
        generalize w.alloc (.cells #[.string a, .string b, .string c, .string d, .string e, .int .i64 n] 43) = w2 at *
        have c3 : w2.cell? ⟨w.heap.size, 3, none⟩ = some (.string d) := by rw [cell_of_row _ _ _ _ 43 (0, 0) HX0.out]; rfl
        have f3 : w2.frozen? ⟨w.heap.size, 3, none⟩ = false := by simp [World.frozen?, HX0.out]
        have HX3 := hidM (box6_one (y := .string u) HX0.out)
        have HB3 : Hid (Below w.heap.size w (w2.setCell ⟨w.heap.size, 3, none⟩ (.string u))) := HB0.out.setCell (Nat.le_refl _) _
        clear HX0 HB0
        go_wp2_with (refine wpList_load_row rfl 43 (.tmp 2) rfl w.heap.size rfl 43 #[.string a, .string b, .string c, .string u, .string e, .int .i64 n] (0, 0) _ HX3.out Tryz.underlying43 rfl size23 ?_)
        refine (HW.out _).mono ?_
        rintro _ w4 ⟨rfl, hb4⟩
        have HB4 := hidM (HB3.out.trans (hb4.mono HB3.out.size))
        go_wp2
        refine bodyPost_ret (results_tmp2 rfl _ _ _) rfl ?_
        exact ⟨by rw [HR.out]; rfl, HB4.out⟩
      | false =>
        as_aux_lemma =>
        have HR : Hid (baseR v front = (⟨#[]⟩, false)) := by unfold Hid baseR; rw [hF, h0, hs]; rfl
        unfold verA
        generalize baseR v front = R at *
        generalize v.major = a at *
        generalize v.minor = b at *
        generalize v.patch = c at *
        generalize v.pre = d at *
        generalize v.build = e at *
        generalize (v.short : Int) = n at *
        go_enter Tryz.func34, Tryz.ntmps34
        go_wp2_with fail
        refine (HCS.out _).mono ?_
        rintro _ w1 ⟨rfl, hw1⟩
        rw [hw1]
        clear hw1
        have hs' : Lib.hasSuffix front.data.toList (⟨#[46, 48, 46]⟩ : ByteArray).data.toList = false := hs
        rw [hs']
        clear hs' HCS
        generalize (⟨(Lib.trimSuffix front.data.toList (⟨#[46, 48, 46]⟩ : ByteArray).data.toList).toArray⟩ : ByteArray) = u at *
        go_wp2
        refine bodyPost_ret (results_tmp2 rfl _ _ _) rfl ?_
        exact ⟨by rw [HR.out]; rfl, HB0.out⟩
end Go.Proofs.YtmhjdahmmdfbcaaGreatDoor
