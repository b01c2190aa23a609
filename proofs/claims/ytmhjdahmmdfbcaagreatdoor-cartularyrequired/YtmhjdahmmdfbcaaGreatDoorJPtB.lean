/-
  Walks of pseudo: below and Make without a base.
  Walks of pseudo: Make without a base.
  What is made of a base, a stamp and twelve digits is read back.
  The versions that Make makes: they are versions, and their parts are read back.
  Walks of the document's words on pseudo-versions: Make.
  Walks of the document's words on pseudo-versions: Make above a base.
-/
import Derived.Test.YtmhjdahmmdfbcaaGreatDoorPsV
namespace Go.Proofs.YtmhjdahmmdfbcaaGreatDoor
open Go.RowKit

set_option maxHeartbeats 4000000 in
set_option maxRecDepth 100000 in
theorem below_none (major : ByteArray) (w : World) (hs : major.size ≤ 9223372036854775807) :
    Calls Tryz.prog 26 #[.string major, .string ⟨#[]⟩] w fun x w' => x = .returned (.tuple #[verA ((parseR major).getD noVer), .bool ((parseR major).isSome && (((parseR major).getD noVer).short == 2))]) ∧ Below w.heap.size w w' := by
  have HP := hidM (fun V => parse_any major V hs)
  have HX0 := hidM (heap_alloc_new w (.cells #[.string ⟨#[]⟩, .string ⟨#[]⟩, .string ⟨#[]⟩, .string ⟨#[]⟩, .string ⟨#[]⟩, .int .i64 0] 43))
  have HB0 : Hid (Below w.heap.size w (w.alloc (.cells #[.string ⟨#[]⟩, .string ⟨#[]⟩, .string ⟨#[]⟩, .string ⟨#[]⟩, .string ⟨#[]⟩, .int .i64 0] 43))) := (Below.refl _ w).alloc (Nat.le_refl _) _
  unfold verA
  obtain ⟨q, hq⟩ : ∃ q, q = (((parseR major).getD noVer).short == 2) := ⟨_, rfl⟩
  have bq : ((((parseR major).getD noVer).short : Int) == 2) = q := by
    rw [hq, Bool.eq_iff_iff, beq_iff_eq, beq_iff_eq]; omega
  rw [← hq]
  clear hq
  generalize (parseR major).isSome = ok at *
  generalize ((parseR major).getD noVer).major = a at *
  generalize ((parseR major).getD noVer).minor = b at *
  generalize ((parseR major).getD noVer).patch = c at *
  generalize ((parseR major).getD noVer).pre = d at *
  generalize ((parseR major).getD noVer).build = e at *
  generalize (((parseR major).getD noVer).short : Int) = n at *
  go_enter Tryz.func26, Tryz.ntmps26
  go_wp2_with fail
  refine (HP.out _).mono ?_
  rintro _ w1 ⟨rfl, hb1⟩
  have HX1 := hidM (box_kept HX0.out hb1)
  have HB1 := hidM (HB0.out.trans (hb1.mono HB0.out.size))
  have hlt : w.heap.size < w1.heap.size := (Array.getElem?_eq_some_iff.1 HX1.out).1
  have HA := hidM (heap_alloc_new w1 (.cells #[.string ⟨#[]⟩, .string ⟨#[]⟩, .string ⟨#[]⟩, .string ⟨#[]⟩, .string ⟨#[]⟩, .int .i64 0] 43))
  have HAB : Hid (Below w1.heap.size w1 ((w1.alloc (.cells #[.string ⟨#[]⟩, .string ⟨#[]⟩, .string ⟨#[]⟩, .string ⟨#[]⟩, .string ⟨#[]⟩, .int .i64 0] 43)).setRow w1.heap.size #[.string a, .string b, .string c, .string d, .string e, .int .i64 n])) := below_setRow ((Below.refl _ _).alloc (Nat.le_refl _) _) (Nat.le_refl _)
  have HV2 : Hid (((w1.alloc (.cells #[.string ⟨#[]⟩, .string ⟨#[]⟩, .string ⟨#[]⟩, .string ⟨#[]⟩, .string ⟨#[]⟩, .int .i64 0] 43)).setRow w1.heap.size #[.string a, .string b, .string c, .string d, .string e, .int .i64 n]).heap[w1.heap.size]? = some (.cells #[.string a, .string b, .string c, .string d, .string e, .int .i64 n] 43 (0, 0))) := setRow_heap _ _ _ _ 43 _ HA.out
  have HX2 := hidM (box_kept HX1.out HAB.out)
  have HB2 := hidM (HB1.out.trans (HAB.out.mono HB1.out.size))
  clear hb1 HX0 HB0 HP HX1 HB1
  go_upto_region 4 with (refine wpList_store_row rfl 43 (.tmp 6) (.tmp 17) rfl w1.heap.size #[.string a, .string b, .string c, .string d, .string e, .int .i64 n] rfl rfl 43 #[.string ⟨#[]⟩, .string ⟨#[]⟩, .string ⟨#[]⟩, .string ⟨#[]⟩, .string ⟨#[]⟩, .int .i64 0] HA.out size23 rfl (ones23v _ _ _ _ _ _) ?_)
  clear HA HAB
  generalize (w1.alloc (.cells #[.string ⟨#[]⟩, .string ⟨#[]⟩, .string ⟨#[]⟩, .string ⟨#[]⟩, .string ⟨#[]⟩, .int .i64 0] 43)).setRow w1.heap.size #[.string a, .string b, .string c, .string d, .string e, .int .i64 n] = W at *
  generalize w1.heap.size = B at *
  have c0 : W.cell? ⟨B, 0, none⟩ = some (.string a) := by rw [cell_of_row _ _ _ _ 43 (0, 0) HV2.out]; rfl
  have c1 : W.cell? ⟨B, 1, none⟩ = some (.string b) := by rw [cell_of_row _ _ _ _ 43 (0, 0) HV2.out]; rfl
  have c2 : W.cell? ⟨B, 2, none⟩ = some (.string c) := by rw [cell_of_row _ _ _ _ 43 (0, 0) HV2.out]; rfl
  have c3 : W.cell? ⟨B, 3, none⟩ = some (.string d) := by rw [cell_of_row _ _ _ _ 43 (0, 0) HV2.out]; rfl
  have c4 : W.cell? ⟨B, 4, none⟩ = some (.string e) := by rw [cell_of_row _ _ _ _ 43 (0, 0) HV2.out]; rfl
  have c5 : W.cell? ⟨B, 5, none⟩ = some (.int .i64 n) := by rw [cell_of_row _ _ _ _ 43 (0, 0) HV2.out]; rfl
  have ne1 : ¬ w.heap.size = B := by omega
  have ne2 : ¬ B = w.heap.size := by omega
  have HX3 : Hid ((W.drew.setRow w.heap.size #[.string a, .string b, .string c, .string d, .string e, .int .i64 n]).heap[w.heap.size]? = some (.cells #[.string a, .string b, .string c, .string d, .string e, .int .i64 n] 43 (0, 0))) := setRow_heap _ _ _ _ 43 _ HX2.out
  have HB3 : Hid (Below w.heap.size w (W.drew.setRow w.heap.size #[.string a, .string b, .string c, .string d, .string e, .int .i64 n])) := below_setRow HB2.out.drew (Nat.le_refl _)
  have HV3 : Hid ((W.drew.setRow w.heap.size #[.string a, .string b, .string c, .string d, .string e, .int .i64 n]).heap[B]? = some (.cells #[.string a, .string b, .string c, .string d, .string e, .int .i64 n] 43 (0, 0))) := by
    unfold Hid World.setRow
    rw [Array.getElem?_modify, if_neg ne1]
    exact HV2.out
  have HS3 : Hid ((W.drew.setRow w.heap.size #[.string a, .string b, .string c, .string d, .string e, .int .i64 n]).cell? ⟨B, 0, none⟩ = some (.string a) ∧ (W.drew.setRow w.heap.size #[.string a, .string b, .string c, .string d, .string e, .int .i64 n]).cell? ⟨B, 1, none⟩ = some (.string b) ∧ (W.drew.setRow w.heap.size #[.string a, .string b, .string c, .string d, .string e, .int .i64 n]).cell? ⟨B, 2, none⟩ = some (.string c) ∧ (W.drew.setRow w.heap.size #[.string a, .string b, .string c, .string d, .string e, .int .i64 n]).cell? ⟨B, 3, none⟩ = some (.string d) ∧ (W.drew.setRow w.heap.size #[.string a, .string b, .string c, .string d, .string e, .int .i64 n]).cell? ⟨B, 4, none⟩ = some (.string e) ∧ (W.drew.setRow w.heap.size #[.string a, .string b, .string c, .string d, .string e, .int .i64 n]).cell? ⟨B, 5, none⟩ = some (.int .i64 n)) := by
    refine ⟨?_, ?_, ?_, ?_, ?_, ?_⟩ <;> rw [cell_of_row _ _ _ _ 43 (0, 0) HV3.out] <;> rfl
  cases ok
  · as_aux_lemma =>
    have bq2 := bq
    clear bq2
    refine wp_region_noPanic ?_
    refine wp_region_held_drew (S := (fun w' => w'.cell? ⟨B, 0, none⟩ = some (.string a) ∧ w'.cell? ⟨B, 1, none⟩ = some (.string b) ∧ w'.cell? ⟨B, 2, none⟩ = some (.string c) ∧ w'.cell? ⟨B, 3, none⟩ = some (.string d) ∧ w'.cell? ⟨B, 4, none⟩ = some (.string e) ∧ w'.cell? ⟨B, 5, none⟩ = some (.int .i64 n))) (by kernel_rfl) ?_ (fun hHeld => ?_)
    · exact ⟨c0, c1, c2, c3, c4, c5⟩
    refine wpAnyH_take (i := 1) (v := ?_) rfl (by kernel_rfl) (by kernel_rfl) (by kernel_rfl) (fun _ _ _ h => h) (Or.inl ⟨by kernel_rfl, ?_⟩) (by assumption) ?_
    rotate_left
    · intro w hSw
      clear hSw
      go_simp
      try with_reducible rfl
    change wpAnyH _ _ _ _ _ _ _ (⟨#[_,_,_,_,_,_,_,_,_,_,_,_,_,_,_,_,_,_,_,_,_,_,_,_,_,_], _⟩ : Act) _
    refine wpAnyH_take (i := 2) (v := ?_) rfl (by kernel_rfl) (by kernel_rfl) (by kernel_rfl) (fun _ _ _ h => h) (Or.inl ⟨by kernel_rfl, ?_⟩) (by assumption) ?_
    rotate_left
    · intro w hSw
      clear hSw
      go_simp
      try with_reducible rfl
    change wpAnyH _ _ _ _ _ _ _ (⟨#[_,_,_,_,_,_,_,_,_,_,_,_,_,_,_,_,_,_,_,_,_,_,_,_,_,_], _⟩ : Act) _
    refine wpAnyH_take (i := 3) (v := undef) rfl (by kernel_rfl) (by kernel_rfl) (by kernel_rfl) (fun _ _ _ h => h) (Or.inr ⟨by kernel_rfl, rfl⟩) (by assumption) ?_
    change wpAnyH _ _ _ _ _ _ _ (⟨#[_,_,_,_,_,_,_,_,_,_,_,_,_,_,_,_,_,_,_,_,_,_,_,_,_,_], _⟩ : Act) _
    refine wpAnyH_take (i := 0) (v := ?_) rfl (by kernel_rfl) (by kernel_rfl) (by kernel_rfl) (fun _ _ _ h => h) (Or.inl ⟨by kernel_rfl, ?_⟩) (by assumption) ?_
    rotate_left
    · intro w hSw
      obtain ⟨k0, k1, k2, k3, k4, k5⟩ := hSw
      go_simp
      try with_reducible rfl
    change wpAnyH _ _ _ _ _ _ _ (⟨#[_,_,_,_,_,_,_,_,_,_,_,_,_,_,_,_,_,_,_,_,_,_,_,_,_,_], _⟩ : Act) _
    refine wpAnyH_take (i := 4) (v := undef) rfl (by kernel_rfl) (by kernel_rfl) (by kernel_rfl) (fun _ _ _ h => h) (Or.inr ⟨by kernel_rfl, rfl⟩) (by assumption) ?_
    change wpAnyH _ _ _ _ _ _ _ (⟨#[_,_,_,_,_,_,_,_,_,_,_,_,_,_,_,_,_,_,_,_,_,_,_,_,_,_], _⟩ : Act) _
    refine wpAnyH_take (i := 5) (v := undef) rfl (by kernel_rfl) (by kernel_rfl) (by kernel_rfl) (fun _ _ _ h => h) (Or.inr ⟨by kernel_rfl, rfl⟩) (by assumption) ?_
    change wpAnyH _ _ _ _ _ _ _ (⟨#[_,_,_,_,_,_,_,_,_,_,_,_,_,_,_,_,_,_,_,_,_,_,_,_,_,_], _⟩ : Act) _
    refine wpAnyH_take (i := 6) (v := ?_) rfl (by kernel_rfl) (by kernel_rfl) (by kernel_rfl) (fun _ _ _ h => h) (Or.inl ⟨by kernel_rfl, ?_⟩) (by assumption) ?_
    rotate_left
    · intro w hSw
      clear hSw
      go_simp
      try with_reducible rfl
    change wpAnyH _ _ _ _ _ _ _ (⟨#[_,_,_,_,_,_,_,_,_,_,_,_,_,_,_,_,_,_,_,_,_,_,_,_,_,_], _⟩ : Act) _
    refine wpAnyH_ready (rs := [7]) (by kernel_rfl) (by simp) ?_
    refine AllReadyH.cons rfl (fun K hK => ?_) AllReadyH.nil
    rw [if_pos (by kernel_rfl)]
    refine wp_store_row 43 (.tmp 4) (.tmp 19) rfl w.heap.size #[.string a, .string b, .string c, .string d, .string e, .int .i64 n] rfl rfl 43 #[.string ⟨#[]⟩, .string ⟨#[]⟩, .string ⟨#[]⟩, .string ⟨#[]⟩, .string ⟨#[]⟩, .int .i64 0] HX2.out size23 rfl (ones23v _ _ _ _ _ _) ?_
    refine hK.out _ _ HS3.out (fun hHeld => ?_)
    clear hK K
    change wpAnyH _ _ _ _ _ _ _ (⟨#[_,_,_,_,_,_,_,_,_,_,_,_,_,_,_,_,_,_,_,_,_,_,_,_,_,_], _⟩ : Act) _
    refine wpAnyH_take (i := 8) (v := ?_) rfl (by kernel_rfl) (by kernel_rfl) (by kernel_rfl) (fun _ _ _ h => h) (Or.inl ⟨by kernel_rfl, ?_⟩) (by assumption) ?_
    rotate_left
    · intro w hSw
      clear hSw
      go_simp
      try with_reducible rfl
    change wpAnyH _ _ _ _ _ _ _ (⟨#[_,_,_,_,_,_,_,_,_,_,_,_,_,_,_,_,_,_,_,_,_,_,_,_,_,_], _⟩ : Act) _
    refine wpAnyH_done (by kernel_rfl) ?_ _
    refine NoPanic.normal ?_
    go_wp2
    exact bodyPost_ret (results_box rfl _ _ w.heap.size #[.string a, .string b, .string c, .string d, .string e, .int .i64 n] rfl (run_loadVar_row _ w.heap.size 43 43 _ (0, 0) _ HX3.out Tryz.underlying43 rfl size23)) rfl ⟨rfl, HB3.out⟩
  · as_aux_lemma =>
    refine wp_region_noPanic ?_
    refine wp_region_held_drew (S := (fun w' => w'.cell? ⟨B, 0, none⟩ = some (.string a) ∧ w'.cell? ⟨B, 1, none⟩ = some (.string b) ∧ w'.cell? ⟨B, 2, none⟩ = some (.string c) ∧ w'.cell? ⟨B, 3, none⟩ = some (.string d) ∧ w'.cell? ⟨B, 4, none⟩ = some (.string e) ∧ w'.cell? ⟨B, 5, none⟩ = some (.int .i64 n))) (by kernel_rfl) ?_ (fun hHeld => ?_)
    · exact ⟨c0, c1, c2, c3, c4, c5⟩
    refine wpAnyH_take (i := 1) (v := ?_) rfl (by kernel_rfl) (by kernel_rfl) (by kernel_rfl) (fun _ _ _ h => h) (Or.inl ⟨by kernel_rfl, ?_⟩) (by assumption) ?_
    rotate_left
    · intro w hSw
      clear hSw
      go_simp
      try with_reducible rfl
    change wpAnyH _ _ _ _ _ _ _ (⟨#[_,_,_,_,_,_,_,_,_,_,_,_,_,_,_,_,_,_,_,_,_,_,_,_,_,_], _⟩ : Act) _
    refine wpAnyH_take (i := 2) (v := ?_) rfl (by kernel_rfl) (by kernel_rfl) (by kernel_rfl) (fun _ _ _ h => h) (Or.inl ⟨by kernel_rfl, ?_⟩) (by assumption) ?_
    rotate_left
    · intro w hSw
      clear hSw
      go_simp
      try with_reducible rfl
    change wpAnyH _ _ _ _ _ _ _ (⟨#[_,_,_,_,_,_,_,_,_,_,_,_,_,_,_,_,_,_,_,_,_,_,_,_,_,_], _⟩ : Act) _
    refine wpAnyH_take (i := 3) (v := ?_) rfl (by kernel_rfl) (by kernel_rfl) (by kernel_rfl) (fun _ _ _ h => h) (Or.inl ⟨by kernel_rfl, ?_⟩) (by assumption) ?_
    rotate_left
    · intro w hSw
      clear hSw
      go_simp
      try with_reducible rfl
    change wpAnyH _ _ _ _ _ _ _ (⟨#[_,_,_,_,_,_,_,_,_,_,_,_,_,_,_,_,_,_,_,_,_,_,_,_,_,_], _⟩ : Act) _
    refine wpAnyH_take (i := 0) (v := ?_) rfl (by kernel_rfl) (by kernel_rfl) (by kernel_rfl) (fun _ _ _ h => h) (Or.inl ⟨by kernel_rfl, ?_⟩) (by assumption) ?_
    rotate_left
    · intro w hSw
      obtain ⟨k0, k1, k2, k3, k4, k5⟩ := hSw
      go_simp
      try with_reducible rfl
    change wpAnyH _ _ _ _ _ _ _ (⟨#[_,_,_,_,_,_,_,_,_,_,_,_,_,_,_,_,_,_,_,_,_,_,_,_,_,_], _⟩ : Act) _
    refine wpAnyH_take (i := 4) (v := ?_) rfl (by kernel_rfl) (by kernel_rfl) (by kernel_rfl) (fun _ _ _ h => h) (Or.inl ⟨by kernel_rfl, ?_⟩) (by assumption) ?_
    rotate_left
    · intro w hSw
      obtain ⟨k0, k1, k2, k3, k4, k5⟩ := hSw
      go_simp
      try with_reducible rfl
    change wpAnyH _ _ _ _ _ _ _ (⟨#[_,_,_,_,_,_,_,_,_,_,_,_,_,_,_,_,_,_,_,_,_,_,_,_,_,_], _⟩ : Act) _
    refine wpAnyH_take (i := 5) (v := ?_) rfl (by kernel_rfl) (by kernel_rfl) (by kernel_rfl) (fun _ _ _ h => h) (Or.inl ⟨by kernel_rfl, ?_⟩) (by assumption) ?_
    rotate_left
    · intro w hSw
      clear hSw
      go_simp
      try with_reducible rfl
    change wpAnyH _ _ _ _ _ _ _ (⟨#[_,_,_,_,_,_,_,_,_,_,_,_,_,_,_,_,_,_,_,_,_,_,_,_,_,_], _⟩ : Act) _
    refine wpAnyH_take (i := 6) (v := ?_) rfl (by kernel_rfl) (by kernel_rfl) (by kernel_rfl) (fun _ _ _ h => h) (Or.inl ⟨by kernel_rfl, ?_⟩) (by assumption) ?_
    rotate_left
    · intro w hSw
      clear hSw
      go_simp
      try with_reducible rfl
    change wpAnyH _ _ _ _ _ _ _ (⟨#[_,_,_,_,_,_,_,_,_,_,_,_,_,_,_,_,_,_,_,_,_,_,_,_,_,_], _⟩ : Act) _
    refine wpAnyH_ready (rs := [7]) (by kernel_rfl) (by simp) ?_
    refine AllReadyH.cons rfl (fun K hK => ?_) AllReadyH.nil
    rw [if_pos (by kernel_rfl)]
    refine wp_store_row 43 (.tmp 4) (.tmp 19) rfl w.heap.size #[.string a, .string b, .string c, .string d, .string e, .int .i64 n] rfl rfl 43 #[.string ⟨#[]⟩, .string ⟨#[]⟩, .string ⟨#[]⟩, .string ⟨#[]⟩, .string ⟨#[]⟩, .int .i64 0] HX2.out size23 rfl (ones23v _ _ _ _ _ _) ?_
    refine hK.out _ _ HS3.out (fun hHeld => ?_)
    clear hK K
    change wpAnyH _ _ _ _ _ _ _ (⟨#[_,_,_,_,_,_,_,_,_,_,_,_,_,_,_,_,_,_,_,_,_,_,_,_,_,_], _⟩ : Act) _
    refine wpAnyH_take (i := 8) (v := ?_) rfl (by kernel_rfl) (by kernel_rfl) (by kernel_rfl) (fun _ _ _ h => h) (Or.inl ⟨by kernel_rfl, ?_⟩) (by assumption) ?_
    rotate_left
    · intro w hSw
      clear hSw
      go_simp
      try with_reducible rfl
    change wpAnyH _ _ _ _ _ _ _ (⟨#[_,_,_,_,_,_,_,_,_,_,_,_,_,_,_,_,_,_,_,_,_,_,_,_,_,_], _⟩ : Act) _
    refine wpAnyH_done (by kernel_rfl) ?_ _
    refine NoPanic.normal ?_
    go_wp2
    exact bodyPost_ret (results_box rfl _ _ w.heap.size #[.string a, .string b, .string c, .string d, .string e, .int .i64 n] rfl (run_loadVar_row _ w.heap.size 43 43 _ (0, 0) _ HX3.out Tryz.underlying43 rfl size23)) rfl ⟨rfl, HB3.out⟩
end Go.Proofs.YtmhjdahmmdfbcaaGreatDoor
namespace Go.Proofs.YtmhjdahmmdfbcaaGreatDoor
open Go.RowKit

def okN (major : ByteArray) : Bool := (parseR major).isSome && (((parseR major).getD noVer).short == 2)
def makeN (major st id : ByteArray) (er : Int) : ByteArray × Int :=
  if er = 0 then (if revB id then (if okN major then bigR (wriV (preV ((parseR major).getD noVer) (st ++ ⟨#[45]⟩ ++ id))) else (⟨#[]⟩, 4)) else (⟨#[]⟩, 1)) else (⟨#[]⟩, 1)
set_option maxHeartbeats 4000000 in
set_option maxRecDepth 100000 in
theorem make_none (major : ByteArray) (time : Int) (id st : ByteArray) (er : Int) (w : World) (hG : GT w) (hs : major.size ≤ 9223372036854775807) (hst : StpQ time st er) (hz : st.size ≤ 14) :
    Calls Tryz.prog 8 #[.string major, .string ⟨#[]⟩, .int .i64 time, .string id] w fun x w' => x = .returned (.tuple #[.string (makeN major st id er).1, .int .i64 (makeN major st id er).2]) ∧ Below w.heap.size w w' := by
  have HST := hidM (hst w hG)
  have HRV := hidM (fun V => rev_any id V)
  have HBL := hidM (fun V => below_none major V hs)
  have HR0 : Hid (makeN major st id er = if er = 0 then (if revB id then (if okN major then bigR (wriV (preV ((parseR major).getD noVer) (st ++ ⟨#[45]⟩ ++ id))) else (⟨#[]⟩, 4)) else (⟨#[]⟩, 1)) else (⟨#[]⟩, 1)) := rfl
  have hsid : revB id = true → id.size = 12 := fun h => by unfold revB at h; rw [Bool.and_eq_true] at h; exact of_decide_eq_true h.1
  clear hst hG
  generalize makeN major st id er = R at *
  go_enter Tryz.func8, Tryz.ntmps8
  go_wp2_with fail
  refine HST.out.mono ?_
  rintro _ w1 ⟨rfl, hb1⟩
  have HB1 := hidM hb1
  clear hb1 HST
  by_cases her : er = 0
  · subst her
    rw [if_pos rfl] at HR0
    go_wp2_with fail
    refine (HRV.out _).mono ?_
    rintro _ w2 ⟨rfl, hb2⟩
    have HB2 := hidM (HB1.out.trans (hb2.mono HB1.out.size))
    clear hb2 HRV HB1
    cases hrv : revB id with
    | false =>
      as_aux_lemma =>
      have HR : Hid (R = (⟨#[]⟩, 1)) := by unfold Hid; rw [HR0.out, hrv]; rfl
      clear hsid hrv
      go_wp2
      refine bodyPost_ret (results_tmp2 rfl _ _ _) rfl ?_
      exact ⟨by rw [HR.out]; rfl, HB2.out⟩
    | true =>
      rw [hrv, if_pos rfl] at HR0
      have hid := hsid hrv
      have hid' : id.size ≤ 12 := by omega
      clear hsid hrv hid
      have HBL' : Hid (∀ V', Calls Tryz.prog 26 #[.string major, .string ⟨#[]⟩] V' fun x w' => x = .returned (.tuple #[verA ((parseR major).getD noVer), .bool (okN major)]) ∧ Below V'.heap.size V' w') := HBL.out
      clear HBL
      go_wp2_with fail
      refine (HBL'.out _).mono ?_
      rintro _ w3 ⟨rfl, hb3⟩
      have HB3 := hidM (HB2.out.trans (hb3.mono HB2.out.size))
      clear hb3 HBL' HB2
      unfold verA
      cases hok : okN major with
      | false =>
        as_aux_lemma =>
        have HR : Hid (R = (⟨#[]⟩, 4)) := by unfold Hid; rw [HR0.out, hok]; rfl
        clear hok HR0
        generalize ((parseR major).getD noVer).major = a at *
        generalize ((parseR major).getD noVer).minor = b at *
        generalize ((parseR major).getD noVer).patch = c at *
        generalize ((parseR major).getD noVer).pre = d at *
        generalize ((parseR major).getD noVer).build = e at *
        generalize (((parseR major).getD noVer).short : Int) = n at *
        have HA4 := hidM (heap_alloc_new w3 (.cells #[.string ⟨#[]⟩, .string ⟨#[]⟩, .string ⟨#[]⟩, .string ⟨#[]⟩, .string ⟨#[]⟩, .int .i64 0] 43))
        have HAB4 : Hid (Below w3.heap.size w3 ((w3.alloc (.cells #[.string ⟨#[]⟩, .string ⟨#[]⟩, .string ⟨#[]⟩, .string ⟨#[]⟩, .string ⟨#[]⟩, .int .i64 0] 43)).setRow w3.heap.size #[.string a, .string b, .string c, .string d, .string e, .int .i64 n])) := below_setRow ((Below.refl _ _).alloc (Nat.le_refl _) _) (Nat.le_refl _)
        have HB4 := hidM (HB3.out.trans (HAB4.out.mono HB3.out.size))
        have HQ4 : Hid (((w3.alloc (.cells #[.string ⟨#[]⟩, .string ⟨#[]⟩, .string ⟨#[]⟩, .string ⟨#[]⟩, .string ⟨#[]⟩, .int .i64 0] 43)).setRow w3.heap.size #[.string a, .string b, .string c, .string d, .string e, .int .i64 n]).heap[w3.heap.size]? = some (.cells #[.string a, .string b, .string c, .string d, .string e, .int .i64 n] 43 (0, 0))) := setRow_heap _ _ _ _ 43 _ HA4.out
        go_wp2_with (refine wpList_store_row rfl 43 (.tmp 12) (.tmp 32) rfl w3.heap.size #[.string a, .string b, .string c, .string d, .string e, .int .i64 n] rfl rfl 43 #[.string ⟨#[]⟩, .string ⟨#[]⟩, .string ⟨#[]⟩, .string ⟨#[]⟩, .string ⟨#[]⟩, .int .i64 0] HA4.out size23 rfl (ones23v _ _ _ _ _ _) ?_)
        refine bodyPost_ret (results_tmp2 rfl _ _ _) rfl ?_
        exact ⟨by rw [HR.out]; rfl, HB4.out⟩
      | true =>
        as_aux_lemma =>
        obtain ⟨v, hv⟩ : ∃ v, parseR major = some v := by
          cases hv : parseR major with
          | none => unfold okN at hok; rw [hv] at hok; cases hok
          | some v => exact ⟨v, rfl⟩
        obtain ⟨z1, z2, z3, z4⟩ := ver_small hv
        have z5 := build_small hv
        have HV : ((parseR major).getD noVer) = v := by rw [hv]; rfl
        rw [← HV] at z1 z2 z3 z4 z5
        have HRs : Hid (R = bigR (wriV (preV ((parseR major).getD noVer) (st ++ (⟨#[45]⟩ : ByteArray) ++ id)))) := by unfold Hid; rw [HR0.out, hok]; rfl
        clear hv HR0 HV hok
        have hsz : (st ++ (⟨#[45]⟩ : ByteArray) ++ id).size ≤ 27 := by simp only [ByteArray.size_append]; show st.size + 1 + id.size ≤ 27; omega
        have HW : Hid (∀ V', Calls Tryz.prog 28 #[.agg #[.string ((parseR major).getD noVer).major, .string ((parseR major).getD noVer).minor, .string ((parseR major).getD noVer).patch, .string (st ++ (⟨#[45]⟩ : ByteArray) ++ id), .string ((parseR major).getD noVer).build, .int .i64 (((parseR major).getD noVer).short : Int)]] V' fun x w' => x = .returned (.string (wriV (preV ((parseR major).getD noVer) (st ++ (⟨#[45]⟩ : ByteArray) ++ id)))) ∧ Below V'.heap.size V' w') :=
          fun V' => written_any (preV ((parseR major).getD noVer) (st ++ (⟨#[45]⟩ : ByteArray) ++ id)) V' (by show ((parseR major).getD noVer).major.size ≤ _; omega) (by show ((parseR major).getD noVer).minor.size ≤ _; omega) (by show ((parseR major).getD noVer).patch.size ≤ _; omega) (by show (st ++ (⟨#[45]⟩ : ByteArray) ++ id).size ≤ _; omega) (by show ((parseR major).getD noVer).build.size ≤ _; omega)
        unfold bigR at HRs
        generalize wriV (preV ((parseR major).getD noVer) (st ++ (⟨#[45]⟩ : ByteArray) ++ id)) = T at *
        have HR := HRs
        clear HRs
        have hge : w.heap.size ≤ w3.heap.size := HB3.out.size
        generalize ((parseR major).getD noVer).major = a at *
        generalize ((parseR major).getD noVer).minor = b at *
        generalize ((parseR major).getD noVer).patch = c at *
        generalize ((parseR major).getD noVer).pre = d at *
        generalize ((parseR major).getD noVer).build = e at *
        generalize (((parseR major).getD noVer).short : Int) = n at *
        have HA4 := hidM (heap_alloc_new w3 (.cells #[.string ⟨#[]⟩, .string ⟨#[]⟩, .string ⟨#[]⟩, .string ⟨#[]⟩, .string ⟨#[]⟩, .int .i64 0] 43))
        have HAB4 : Hid (Below w3.heap.size w3 ((w3.alloc (.cells #[.string ⟨#[]⟩, .string ⟨#[]⟩, .string ⟨#[]⟩, .string ⟨#[]⟩, .string ⟨#[]⟩, .int .i64 0] 43)).setRow w3.heap.size #[.string a, .string b, .string c, .string d, .string e, .int .i64 n])) := below_setRow ((Below.refl _ _).alloc (Nat.le_refl _) _) (Nat.le_refl _)
        have HB4 := hidM (HB3.out.trans (HAB4.out.mono HB3.out.size))
        have HQ4 : Hid (((w3.alloc (.cells #[.string ⟨#[]⟩, .string ⟨#[]⟩, .string ⟨#[]⟩, .string ⟨#[]⟩, .string ⟨#[]⟩, .int .i64 0] 43)).setRow w3.heap.size #[.string a, .string b, .string c, .string d, .string e, .int .i64 n]).heap[w3.heap.size]? = some (.cells #[.string a, .string b, .string c, .string d, .string e, .int .i64 n] 43 (0, 0))) := setRow_heap _ _ _ _ 43 _ HA4.out
        have c3 : ((w3.alloc (.cells #[.string ⟨#[]⟩, .string ⟨#[]⟩, .string ⟨#[]⟩, .string ⟨#[]⟩, .string ⟨#[]⟩, .int .i64 0] 43)).setRow w3.heap.size #[.string a, .string b, .string c, .string d, .string e, .int .i64 n]).cell? ⟨w3.heap.size, 3, none⟩ = some (.string d) := by rw [cell_of_row _ _ _ _ 43 (0, 0) HQ4.out]; rfl
        have f3 : ((w3.alloc (.cells #[.string ⟨#[]⟩, .string ⟨#[]⟩, .string ⟨#[]⟩, .string ⟨#[]⟩, .string ⟨#[]⟩, .int .i64 0] 43)).setRow w3.heap.size #[.string a, .string b, .string c, .string d, .string e, .int .i64 n]).frozen? ⟨w3.heap.size, 3, none⟩ = false := by simp only [World.frozen?, HQ4.out]; rfl
        have HQ6 := hidM (box6_one (y := .string (st ++ (⟨#[45]⟩ : ByteArray) ++ id)) HQ4.out)
        have HB6 : Hid (Below w.heap.size w (((w3.alloc (.cells #[.string ⟨#[]⟩, .string ⟨#[]⟩, .string ⟨#[]⟩, .string ⟨#[]⟩, .string ⟨#[]⟩, .int .i64 0] 43)).setRow w3.heap.size #[.string a, .string b, .string c, .string d, .string e, .int .i64 n]).setCell ⟨w3.heap.size, 3, none⟩ (.string (st ++ (⟨#[45]⟩ : ByteArray) ++ id)))) := HB4.out.setCell hge _
        go_wp2_with (first | (refine wpList_store_row rfl 43 (.tmp 12) (.tmp 32) rfl w3.heap.size #[.string a, .string b, .string c, .string d, .string e, .int .i64 n] rfl rfl 43 #[.string ⟨#[]⟩, .string ⟨#[]⟩, .string ⟨#[]⟩, .string ⟨#[]⟩, .string ⟨#[]⟩, .int .i64 0] HA4.out size23 rfl (ones23v _ _ _ _ _ _) ?_) | (refine wpList_load_row rfl 43 (.tmp 12) rfl w3.heap.size rfl 43 #[.string a, .string b, .string c, .string (st ++ (⟨#[45]⟩ : ByteArray) ++ id), .string e, .int .i64 n] (0, 0) _ HQ6.out Tryz.underlying43 rfl size23 ?_))
        refine (HW.out _).mono ?_
        rintro _ w9 ⟨rfl, hb9⟩
        have HB9 := hidM (HB6.out.trans (hb9.mono HB6.out.size))
        clear hb9
        by_cases hbig : 100 < T.size
        · have b9 : (100 : Int) < (T.size : Int) := by omega
          have HRR : Hid (R = (⟨#[]⟩, 2)) := by unfold Hid; rw [HR.out, if_pos hbig]
          go_wp2
          refine bodyPost_ret (results_tmp2 rfl _ _ _) rfl ?_
          exact ⟨by rw [HRR.out]; rfl, HB9.out⟩
        · have b9 : ¬ (100 : Int) < (T.size : Int) := by omega
          have HRR : Hid (R = (T, 0)) := by unfold Hid; rw [HR.out, if_neg hbig]
          go_wp2
          refine bodyPost_ret (results_tmp2 rfl _ _ _) rfl ?_
          exact ⟨by rw [HRR.out]; rfl, HB9.out⟩
  · as_aux_lemma =>
    have HR : Hid (R = (⟨#[]⟩, 1)) := by unfold Hid; rw [HR0.out, if_neg her]
    have b1 : (er != 0) = true := by simp only [bne_iff_ne, ne_eq]; exact her
    clear her
    go_wp2
    refine bodyPost_ret (results_tmp2 rfl _ _ _) rfl ?_
    exact ⟨by rw [HR.out]; rfl, HB1.out⟩
end Go.Proofs.YtmhjdahmmdfbcaaGreatDoor
namespace Go.Proofs.YtmhjdahmmdfbcaaGreatDoor
open Go.RowKit

/-- a stamp of the second t and twelve digits -/
structure SegOk (st id : ByteArray) (t : Int) : Prop where
  size : st.size = 14
  dig : ∀ c ∈ st.data.toList, digC c = true
  time : uns st = (t, 0)
  rev : revB id = true
def segL (st id : ByteArray) : List UInt8 := st.data.toList ++ 45 :: id.data.toList
theorem seg_list (st id : ByteArray) : (st ++ (⟨#[45]⟩ : ByteArray) ++ id).data.toList = segL st id := by
  unfold segL; simp [ByteArray.data_append]
theorem seg_len {st id : ByteArray} {t : Int} (h : SegOk st id t) : (segL st id).length = 27 := by
  unfold segL
  rw [List.length_append, List.length_cons, size_len, size_len, h.size, (rev_parts h.rev).1]

theorem stamp_14 (y m d h mi s : Nat) : (stampT y m d h mi s).data.toList = [dig (y / 1000), dig (y / 100 % 10), dig (y / 10 % 10), dig (y % 10), dig (m / 10), dig (m % 10), dig (d / 10), dig (d % 10), dig (h / 10), dig (h % 10), dig (mi / 10), dig (mi % 10), dig (s / 10), dig (s % 10)] := by
  rw [stamp_list]; rfl
theorem dig_is (n : Nat) (h : n < 10) : digC (dig n) = true := by
  unfold digC
  rw [dig_nat n h]
  exact decide_eq_true (by omega)
theorem stamp_seg {T y m d h mi s : Nat} (H : IsDate T y m d h mi s) : (stampT y m d h mi s).size = 14 ∧ (∀ c ∈ (stampT y m d h mi s).data.toList, digC c = true) ∧ uns (stampT y m d h mi s) = ((T : Int) - 62135596800, 0) := by
  obtain ⟨s1, s2, s3, s4, s5, s6⟩ := H.small
  have hs : (stampT y m d h mi s).size = 14 := by rw [← size_len, stamp_14]; rfl
  have hd : ∀ c ∈ (stampT y m d h mi s).data.toList, digC c = true := by
    intro c hc
    rw [stamp_14] at hc
    simp only [List.mem_cons, List.not_mem_nil, or_false] at hc
    rcases hc with rfl | rfl | rfl | rfl | rfl | rfl | rfl | rfl | rfl | rfl | rfl | rfl | rfl | rfl <;> exact dig_is _ (by omega)
  refine ⟨hs, hd, ?_⟩
  have hq : digQ (stampT y m d h mi s) = true := by
    unfold digQ
    rw [List.all_eq_true]
    intro c hc
    have := hd c hc
    unfold digC at this
    rw [← Bool.decide_and]
    exact this
  have e0 : two (stampT y m d h mi s) 0 * 100 + two (stampT y m d h mi s) 2 = y := by
    unfold two; rw [stamp_14]
    simp only [List.getD_cons_zero, List.getD_cons_succ]
    rw [dig_nat _ (by omega), dig_nat _ (by omega), dig_nat _ (by omega), dig_nat _ (by omega)]
    omega
  have e4 : two (stampT y m d h mi s) 4 = m := by
    unfold two; rw [stamp_14]
    simp only [List.getD_cons_zero, List.getD_cons_succ]
    rw [dig_nat _ (by omega), dig_nat _ (by omega)]
    omega
  have e6 : two (stampT y m d h mi s) 6 = d := by
    unfold two; rw [stamp_14]
    simp only [List.getD_cons_zero, List.getD_cons_succ]
    rw [dig_nat _ (by omega), dig_nat _ (by omega)]
    omega
  have e8 : two (stampT y m d h mi s) 8 = h := by
    unfold two; rw [stamp_14]
    simp only [List.getD_cons_zero, List.getD_cons_succ]
    rw [dig_nat _ (by omega), dig_nat _ (by omega)]
    omega
  have e10 : two (stampT y m d h mi s) 10 = mi := by
    unfold two; rw [stamp_14]
    simp only [List.getD_cons_zero, List.getD_cons_succ]
    rw [dig_nat _ (by omega), dig_nat _ (by omega)]
    omega
  have e12 : two (stampT y m d h mi s) 12 = s := by
    unfold two; rw [stamp_14]
    simp only [List.getD_cons_zero, List.getD_cons_succ]
    rw [dig_nat _ (by omega), dig_nat _ (by omega)]
    omega
  unfold uns
  rw [if_pos ⟨hs, hq⟩, e0, e4, e6, e8, e10, e12]
  unfold unixF
  obtain ⟨_, a, b, c⟩ := clock (Nat.mod_lt T (by decide)) H.h2 H.mi2 H.s2
  have hday : dayB (y : Int) (m : Int) (d : Int) = true := by
    have h1 := H.day.y1; have h2 := H.day.y2; have h3 := H.day.d1; have h4 := H.day.d2
    refine decide_eq_true ⟨by omega, by omega, by omega, ?_⟩
    rw [days_cast]; omega
  have htime : timeB (h : Int) (mi : Int) (s : Int) = true := by
    unfold timeB
    rw [decide_eq_true ⟨by omega, by omega⟩, decide_eq_true ⟨by omega, by omega⟩, decide_eq_true ⟨by omega, by omega⟩]
    rfl
  rw [hday, htime, Bool.and_true, if_pos rfl, ← H.back]

theorem hex_word {c : UInt8} (h : isHex c = true) : wordC c = true ∧ c ≠ 43 ∧ c ≠ 46 := by
  revert h
  have key : ∀ n : Fin 256, isHex (UInt8.ofNat n.val) = true → wordC (UInt8.ofNat n.val) = true ∧ UInt8.ofNat n.val ≠ 43 ∧ UInt8.ofNat n.val ≠ 46 := by decide +kernel
  have := key ⟨c.toNat, c.toNat_lt⟩
  rw [show UInt8.ofNat (⟨c.toNat, c.toNat_lt⟩ : Fin 256).val = c from UInt8.ofNat_toNat] at this
  exact this
theorem dig_word {c : UInt8} (h : digC c = true) : wordC c = true ∧ c ≠ 43 ∧ c ≠ 46 := by
  revert h
  have key : ∀ n : Fin 256, digC (UInt8.ofNat n.val) = true → wordC (UInt8.ofNat n.val) = true ∧ UInt8.ofNat n.val ≠ 43 ∧ UInt8.ofNat n.val ≠ 46 := by decide +kernel
  have := key ⟨c.toNat, c.toNat_lt⟩
  rw [show UInt8.ofNat (⟨c.toNat, c.toNat_lt⟩ : Fin 256).val = c from UInt8.ofNat_toNat] at this
  exact this
theorem seg_word {st id : ByteArray} {t : Int} (h : SegOk st id t) : preL (segL st id) = true ∧ (43 : UInt8) ∉ segL st id ∧ (46 : UInt8) ∉ segL st id := by
  have hall : ∀ c ∈ segL st id, wordC c = true ∧ c ≠ 43 ∧ c ≠ 46 := by
    intro c hc
    unfold segL at hc
    rcases List.mem_append.1 hc with hc | hc
    · exact dig_word (h.dig c hc)
    · rcases List.mem_cons.1 hc with rfl | hc
      · decide
      · have hh := (rev_parts h.rev).2
        unfold hexed at hh
        rw [Bool.and_eq_true, List.all_eq_true] at hh
        exact hex_word (hh.1 c hc)
  refine ⟨?_, fun hc => (hall _ hc).2.1 rfl, fun hc => (hall _ hc).2.2 rfl⟩
  unfold preL
  have hw : wordL (segL st id) = true := by
    unfold wordL
    rw [Bool.and_eq_true, List.all_eq_true]
    refine ⟨fun c hc => (hall c hc).1, ?_⟩
    have := seg_len h
    cases hs : segL st id with
    | nil => rw [hs] at this; simp at this
    | cons a b => rfl
  have hd : digL (segL st id) = false := by
    unfold digL
    have : (segL st id).all digC = false := by
      rw [List.all_eq_false]
      exact ⟨45, by unfold segL; simp, by decide⟩
    rw [this]; rfl
  rw [hw, hd]; rfl

theorem strOf_data (l : List UInt8) : (strOf l).data.toList = l := rfl
theorem ext_mid (s : ByteArray) (i j : Nat) : (s.extract i j).data.toList = (s.data.toList.take j).drop i := by
  rw [ByteArray.data_extract, Array.toList_extract, List.extract_eq_take_drop, List.drop_take]
/-- a prerelease that ends in such a segment is cut there -/
theorem cut_seg {p st id : ByteArray} {t : Int} {F : List UInt8} (h : SegOk st id t) (hp : p.data.toList = F ++ segL st id) : cutPre p = ⟨strOf F, t, id, true⟩ := by
  have hl := seg_len h
  have hn : p.size = F.length + 27 := by rw [← size_len, hp, List.length_append, hl]
  have hst : st.data.toList.length = 14 := by rw [size_len]; exact h.size
  have e1 : p.extract (p.size - 12) p.size = id := by
    apply bytes_ext
    rw [ext_tail, hp, hn]
    unfold segL
    rw [show F ++ (st.data.toList ++ 45 :: id.data.toList) = (F ++ st.data.toList ++ [45]) ++ id.data.toList by simp]
    rw [List.drop_left' (by simp [hst])]
  have e2 : p.extract (p.size - 27) (p.size - 13) = st := by
    apply bytes_ext
    rw [ext_mid, hp, hn]
    unfold segL
    rw [show F.length + 27 - 13 = (F ++ st.data.toList).length by simp [hst], show F ++ (st.data.toList ++ 45 :: id.data.toList) = (F ++ st.data.toList) ++ 45 :: id.data.toList by simp, List.take_left, show F.length + 27 - 27 = F.length by omega, List.drop_left]
  have e3 : p.extract 0 (p.size - 27) = strOf F := by
    apply bytes_ext
    rw [list_extract, hp, hn, show F.length + 27 - 27 = F.length by omega, List.take_left]
    rfl
  have e4 : ((p.data[p.size - 13]!).toNat : Int) = 45 := by
    have hlt : p.size - 13 < p.size := by omega
    rw [byte_bang p _ hlt]
    have : p.data.toList[p.size - 13]? = some 45 := by
      rw [hp, hn]
      unfold segL
      rw [show F ++ (st.data.toList ++ 45 :: id.data.toList) = (F ++ st.data.toList) ++ 45 :: id.data.toList by simp]
      rw [List.getElem?_append_right (by simp [hst])]
      rw [show F.length + 27 - 13 - (F ++ st.data.toList).length = 0 by simp [hst]]
      rfl
    rw [Array.getElem?_toList, Array.getElem?_eq_getElem hlt] at this
    rw [Option.some.inj this]; rfl
  rw [cut_last (by omega) e4 (by rw [e1]; exact h.rev), e1, e2, e3, h.time]
  rfl
end Go.Proofs.YtmhjdahmmdfbcaaGreatDoor
namespace Go.Proofs.YtmhjdahmmdfbcaaGreatDoor
open Go.RowKit

theorem nine_le (l : List UInt8) : ∀ k, nineK l k ≤ k
  | 0 => Nat.le_refl _
  | k + 1 => by
    rw [nineK_succ]
    split
    · exact Nat.le_trans (nine_le l k) (Nat.le_succ k)
    · exact Nat.le_refl _
theorem nine_at (l : List UInt8) : ∀ k m, nineK l k = m + 1 → l.getD m 0 ≠ 57
  | 0, m, h => by cases h
  | k + 1, m, h => by
    rw [nineK_succ] at h
    by_cases h9 : l.getD k 0 = 57
    · rw [if_pos h9] at h; exact nine_at l k m h
    · rw [if_neg h9] at h
      obtain rfl : k = m := by omega
      exact h9
theorem more_num {l : List UInt8} (h : numL l = true) : numL (moreL l) = true ∧ moreL l ≠ [48] ∧ (l.length < (moreL l).length ∨ (l.length = (moreL l).length ∧ Lib.compareBytes l (moreL l) = -1)) := by
  obtain ⟨hd, hn⟩ := num_digs h
  have hk := nine_le l l.length
  have hat := nine_at l l.length
  unfold moreL
  generalize nineK l l.length = k at *
  cases k with
  | zero =>
    have hdig : ∀ c ∈ (49 : UInt8) :: List.replicate l.length 48, 48 ≤ c.toNat ∧ c.toNat ≤ 57 := by
      intro c hc
      rcases List.mem_cons.1 hc with rfl | hc
      · decide
      · rw [List.eq_of_mem_replicate hc]; decide
    show numL (49 :: List.replicate l.length 48) = true ∧ 49 :: List.replicate l.length 48 ≠ [48] ∧ (l.length < (49 :: List.replicate l.length (48 : UInt8)).length ∨ _)
    exact ⟨num_mk hdig (by simp) (Or.inr (by simp)), (fun e => by cases e), Or.inl (by simp)⟩
  | succ m =>
    have hml : m < l.length := by omega
    have hx := hat m rfl
    rw [moreAt_succ]
    rw [getD_in l m hml] at hx ⊢
    have hxd := hd l[m] (List.getElem_mem hml)
    have hxn : l[m].toNat ≠ 57 := fun e => hx (UInt8.toNat_inj.1 e)
    have hinc := byte_inc l[m] hxd.2
    have hlt : l[m] < l[m] + 1 := by rw [UInt8.lt_iff_toNat_lt, hinc]; omega
    have hl : l = l.take m ++ l[m] :: l.drop (m + 1) := by rw [← List.drop_eq_getElem_cons hml, List.take_append_drop]
    have hcmp : Lib.compareBytes l (l.take m ++ (l[m] + 1) :: List.replicate (l.length - (m + 1)) 48) = -1 := by
      conv => lhs; arg 1; rw [hl]
      exact cmp_pre _ hlt
    have hlen : l.length = (l.take m ++ (l[m] + 1) :: List.replicate (l.length - (m + 1)) 48).length := by simp; omega
    have hdig : ∀ c ∈ l.take m ++ (l[m] + 1) :: List.replicate (l.length - (m + 1)) 48, 48 ≤ c.toNat ∧ c.toNat ≤ 57 := by
      intro c hc
      rcases List.mem_append.1 hc with hc | hc
      · exact hd c (List.mem_of_mem_take hc)
      · rcases List.mem_cons.1 hc with rfl | hc
        · omega
        · rw [List.eq_of_mem_replicate hc]; decide
    have hhead : (l.take m ++ (l[m] + 1) :: List.replicate (l.length - (m + 1)) 48).getD 0 0 ≠ 48 := by
      cases m with
      | zero =>
        show l[0] + 1 ≠ 48
        intro e
        have := congrArg UInt8.toNat e
        rw [hinc] at this
        have h48 : (48 : UInt8).toNat = 48 := rfl
        omega
      | succ p =>
        have h1 : l.getD 0 0 ≠ 48 := num_ahead h (fun e => by rw [e] at hml; simp at hml)
        cases l with
        | nil => simp at hml
        | cons a r => simpa using h1
    exact ⟨num_mk hdig (by rw [← hlen]; exact hn) (Or.inr hhead), (fun e => hhead (by rw [e]; rfl)), Or.inr ⟨hlen, hcmp⟩⟩

theorem parts_all_seg {p : ByteArray} {q sg : List UInt8} (hp : p.data.toList = q ++ 46 :: (48 :: 46 :: sg)) (hq : ((partsB (strOf q)).all fun x => preL x.data.toList) = true) (hs : preL sg = true) (h46 : (46 : UInt8) ∉ sg) :
    ((partsB p).all fun x => preL x.data.toList) = true := by
  rw [parts_eq] at hq
  rw [parts_eq, hp, cutL_join, List.map_append, List.all_append, Bool.and_eq_true]
  refine ⟨hq, ?_⟩
  rw [show (48 : UInt8) :: 46 :: sg = [48] ++ 46 :: sg from rfl, cutL_app (by decide), cutL_one h46]
  simp only [List.map_cons, List.map_nil, List.all_cons, List.all_nil, strOf_data, hs]
  decide
theorem parts_seg0 {p : ByteArray} {sg : List UInt8} (hp : p.data.toList = 48 :: 46 :: sg) (hs : preL sg = true) (h46 : (46 : UInt8) ∉ sg) : ((partsB p).all fun x => preL x.data.toList) = true := by
  rw [parts_eq, hp, show (48 : UInt8) :: 46 :: sg = [48] ++ 46 :: sg from rfl, cutL_app (by decide), cutL_one h46]
  simp only [List.map_cons, List.map_nil, List.all_cons, List.all_nil, strOf_data, hs]
  decide
theorem parts_seg1 {p : ByteArray} {sg : List UInt8} (hp : p.data.toList = sg) (hs : preL sg = true) (h46 : (46 : UInt8) ∉ sg) : ((partsB p).all fun x => preL x.data.toList) = true := by
  rw [parts_eq, hp, cutL_one h46]
  simp only [List.map_cons, List.map_nil, List.all_cons, List.all_nil, strOf_data, hs]
  rfl

/-- what is made above a base -/
theorem make_right {base : ByteArray} {v : Ver} {st id : ByteArray} {t : Int} (h : parseR base = some v) (hs : SegOk st id t) :
    Right (makeV v (st ++ ⟨#[45]⟩ ++ id)) ∧ BuildOk (makeV v (st ++ ⟨#[45]⟩ ++ id)) ∧ ∃ F, (makeV v (st ++ ⟨#[45]⟩ ++ id)).pre.data.toList = F ++ segL st id ∧
      ((v.pre.toList.isEmpty = true ∧ F = [48, 46]) ∨ (v.pre.toList.isEmpty = false ∧ F = v.pre.data.toList ++ [46, 48, 46])) := by
  have hr := ver_right h
  have hbo : BuildOk v := build_right h
  obtain ⟨w1, w2, w3⟩ := seg_word hs
  unfold makeV
  cases hp : v.pre.toList.isEmpty with
  | true =>
    rw [if_pos rfl]
    have hl : ((⟨#[48, 46]⟩ : ByteArray) ++ (st ++ ⟨#[45]⟩ ++ id)).data.toList = 48 :: 46 :: segL st id := by rw [ByteArray.data_append, Array.toList_append, seg_list]; rfl
    refine ⟨⟨hr.major, hr.minor, (more_num hr.patch).1, ?_, fun _ => parts_seg0 hl w1 w3⟩, hbo, [48, 46], hl, Or.inl ⟨rfl, rfl⟩⟩
    show (43 : UInt8) ∉ ((⟨#[48, 46]⟩ : ByteArray) ++ (st ++ ⟨#[45]⟩ ++ id)).data.toList
    rw [hl]
    exact not_cons (by decide) (not_cons (by decide) w2)
  | false =>
    rw [if_neg Bool.false_ne_true]
    have hl : (v.pre ++ ((⟨#[46, 48, 46]⟩ : ByteArray) ++ (st ++ ⟨#[45]⟩ ++ id))).data.toList = v.pre.data.toList ++ 46 :: (48 :: 46 :: segL st id) := by
      rw [ByteArray.data_append, Array.toList_append, ByteArray.data_append, Array.toList_append, seg_list]; rfl
    have hpe : v.pre.data.toList.isEmpty = false := by rw [← empty_beq]; exact hp
    have hplus : ∀ p : ByteArray, p.data.toList = v.pre.data.toList ++ 46 :: (48 :: 46 :: segL st id) → (43 : UInt8) ∉ p.data.toList := fun p e => by
      rw [e]
      exact not_app hr.plus (not_cons (by decide) (not_cons (by decide) (not_cons (by decide) w2)))
    refine ⟨⟨hr.major, hr.minor, hr.patch, hplus _ hl, fun _ => parts_all_seg hl (hr.pre hpe) w1 w3⟩, hbo, v.pre.data.toList ++ [46, 48, 46], by rw [hl]; simp, Or.inr ⟨rfl, rfl⟩⟩
theorem wri_some (v : Ver) : (wriV v).toList.isEmpty = false := by
  rw [empty_beq, wri_text, ByteArray.data_append, Array.toList_append, can_list]
  rfl
theorem make_told {base : ByteArray} {v : Ver} {st id : ByteArray} {t : Int} (h : parseR base = some v) (hs : SegOk st id t) (hz : (wriV (makeV v (st ++ ⟨#[45]⟩ ++ id))).size ≤ 100) :
    parseR (wriV (makeV v (st ++ ⟨#[45]⟩ ++ id))) = some (full (makeV v (st ++ ⟨#[45]⟩ ++ id))) ∧
    ∃ b, told (wriV (makeV v (st ++ ⟨#[45]⟩ ++ id))) = ⟨b, t, id, 0⟩ ∧ b.toList.isEmpty = false := by
  obtain ⟨hr, hb, F, hF, hc⟩ := make_right h hs
  have hp := parse_wri hr hb hz
  refine ⟨hp, ?_⟩
  have hcut := cut_seg hs hF
  unfold told
  rw [hp]
  show ∃ b, toldV (full (makeV v (st ++ ⟨#[45]⟩ ++ id))) = ⟨b, t, id, 0⟩ ∧ _
  unfold toldV
  rw [if_neg (by show ¬ 0 < 0; omega), show (full (makeV v (st ++ ⟨#[45]⟩ ++ id))).pre = (makeV v (st ++ ⟨#[45]⟩ ++ id)).pre from rfl, hcut, if_pos rfl]
  rcases hc with ⟨he, rfl⟩ | ⟨he, rfl⟩
  · have hbr : baseR (full (makeV v (st ++ ⟨#[45]⟩ ++ id))) (strOf [48, 46]) = (wriV (lessV (full (makeV v (st ++ ⟨#[45]⟩ ++ id)))), true) := by
      unfold baseR
      rw [show (strOf [48, 46]).toList.isEmpty = false by decide +kernel, if_neg Bool.false_ne_true, show ((strOf [48, 46]).toList == [48, 46]) = true by decide +kernel, if_pos rfl]
      have : ((full (makeV v (st ++ ⟨#[45]⟩ ++ id))).patch.toList == [48]) = false := by
        rw [Lib.toList_data, beq_eq_false_iff_ne]
        unfold makeV
        rw [he, if_pos rfl]
        exact (more_num (ver_right h).patch).2.1
      rw [this]; rfl
    exact ⟨_, by rw [hbr]; rfl, wri_some _⟩
  · have hbr : baseR (full (makeV v (st ++ ⟨#[45]⟩ ++ id))) (strOf (v.pre.data.toList ++ [46, 48, 46])) = (wriV (preV (full (makeV v (st ++ ⟨#[45]⟩ ++ id))) ⟨(Lib.trimSuffix (strOf (v.pre.data.toList ++ [46, 48, 46])).data.toList [46, 48, 46]).toArray⟩), true) := by
      unfold baseR
      have h1 : (strOf (v.pre.data.toList ++ [46, 48, 46])).toList.isEmpty = false := by rw [empty_beq, strOf_data]; cases v.pre.data.toList <;> rfl
      have h2 : ((strOf (v.pre.data.toList ++ [46, 48, 46])).toList == [48, 46]) = false := by
        rw [Lib.toList_data, strOf_data, beq_eq_false_iff_ne]
        intro e
        have := congrArg List.length e
        simp at this
      have h3 : Lib.hasSuffix (strOf (v.pre.data.toList ++ [46, 48, 46])).data.toList [46, 48, 46] = true := by
        rw [strOf_data]
        exact List.isSuffixOf_iff_suffix.2 ⟨_, rfl⟩
      rw [h1, if_neg Bool.false_ne_true, h2, if_neg Bool.false_ne_true, h3, if_pos rfl]
    exact ⟨_, by rw [hbr]; rfl, wri_some _⟩

theorem cutL_two {l : List UInt8} (h : (46 : UInt8) ∈ l) : 2 ≤ (cutL 46 l).length := by
  obtain ⟨a, b, rfl⟩ := List.append_of_mem h
  rw [cutL_join, List.length_append]
  have h1 := List.length_pos_iff.2 (cutL_ne 46 a)
  have h2 := List.length_pos_iff.2 (cutL_ne 46 b)
  omega
theorem cutR_whole {c : UInt8} {l : List UInt8} (h : (cutR c l).2.2 = false) : (cutR c l).1 = l := by
  unfold cutR at h ⊢
  split
  · rfl
  · rename_i p q hs; rw [hs] at h; cases h
/-- a major version: v and a number -/
theorem okN_iff (major : ByteArray) : okN major = true ↔ ∃ n : ByteArray, major = (⟨#[118]⟩ : ByteArray) ++ n ∧ numL n.data.toList = true ∧ n.size ≤ 99 := by
  constructor
  · intro h
    unfold okN at h
    rw [Bool.and_eq_true] at h
    obtain ⟨h1, h2⟩ := h
    obtain ⟨v, hv⟩ := Option.isSome_iff_exists.1 h1
    rw [hv] at h2
    have hsh : v.short = 2 := by simpa using h2
    obtain ⟨hmn, hms⟩ := major_num hv
    refine ⟨v.major, ?_, hmn, hms⟩
    unfold parseR at hv
    split at hv
    · rename_i hc
      simp only [Bool.and_eq_true, decide_eq_true_eq] at hc
      obtain ⟨_, hok⟩ := hc
      have e := Option.some.inj hv
      subst e
      have hp1 : (partsB (cutsOf major).nums).length = 1 := by
        have h3 : 3 - (partsB (cutsOf major).nums).length = 2 := hsh
        omega
      unfold okC at hok
      simp only [Bool.and_eq_true] at hok
      obtain ⟨⟨⟨⟨⟨hm, _⟩, hpb⟩, _⟩, _⟩, _⟩ := hok
      rw [hp1] at hpb
      have hpb2 : (cutsOf major).hasPre = false ∧ (cutsOf major).hasBuild = false := by
        cases hq : (cutsOf major).hasPre <;> cases hw : (cutsOf major).hasBuild <;> rw [hq, hw] at hpb <;> first | exact ⟨rfl, rfl⟩ | exact absurd hpb (by decide)
      have hb2 : (cutR 43 (vCut major.data.toList).1).2.2 = false := hpb2.2
      have hb1 := cutR_whole hb2
      have hp2 : (cutR 45 (cutR 43 (vCut major.data.toList).1).1).2.2 = false := hpb2.1
      have hpw := cutR_whole hp2
      rw [hb1] at hpw
      have hn : (cutsOf major).nums = strOf (vCut major.data.toList).1 := by
        show strOf (cutR 45 (cutR 43 (vCut major.data.toList).1).1).1 = _
        rw [hb1, hpw]
      have h46 : (46 : UInt8) ∉ (vCut major.data.toList).1 := by
        intro hc
        have := cutL_two hc
        rw [hn, parts_eq, List.length_map, strOf_data] at hp1
        omega
      have hmj : (verC (cutsOf major)).major = strOf (vCut major.data.toList).1 := by
        unfold verC
        simp only [hn]
        rw [parts_eq, strOf_data, cutL_one h46]
        rfl
      rw [hmj]
      apply bytes_ext
      rw [ByteArray.data_append, Array.toList_append, strOf_data]
      have hm' : (vCut major.data.toList).2 = true := hm
      cases hl : major.data.toList with
      | nil => rw [hl] at hm'; cases hm'
      | cons c l =>
        rw [hl] at hm'
        by_cases h118 : c = 118
        · simp [vCut, h118]
        · simp [vCut, h118] at hm'
    · cases hv
  · rintro ⟨n, rfl, hn, hz⟩
    unfold okN
    rw [parse_v n hn hz]
    rfl
theorem none_told {n st id : ByteArray} {t : Int} (hn : numL n.data.toList = true) (hz : n.size ≤ 99) (hs : SegOk st id t) :
    wriV (preV ((parseR ((⟨#[118]⟩ : ByteArray) ++ n)).getD noVer) (st ++ ⟨#[45]⟩ ++ id)) = (⟨#[118]⟩ : ByteArray) ++ n ++ (⟨#[46, 48, 46, 48, 45]⟩ : ByteArray) ++ (st ++ ⟨#[45]⟩ ++ id) ∧
    ((wriV (preV ((parseR ((⟨#[118]⟩ : ByteArray) ++ n)).getD noVer) (st ++ ⟨#[45]⟩ ++ id))).size ≤ 100 →
      parseR (wriV (preV ((parseR ((⟨#[118]⟩ : ByteArray) ++ n)).getD noVer) (st ++ ⟨#[45]⟩ ++ id))) = some ⟨n, nought, nought, st ++ ⟨#[45]⟩ ++ id, strOf [], 0⟩ ∧
      told (wriV (preV ((parseR ((⟨#[118]⟩ : ByteArray) ++ n)).getD noVer) (st ++ ⟨#[45]⟩ ++ id))) = ⟨⟨#[]⟩, t, id, 0⟩) := by
  rw [parse_v n hn hz]
  obtain ⟨w1, w2, w3⟩ := seg_word hs
  have hl := seg_list st id
  have hne : (st ++ (⟨#[45]⟩ : ByteArray) ++ id).data.toList.isEmpty = false := by
    rw [hl]; unfold segL
    cases st.data.toList <;> rfl
  refine ⟨?_, fun hsz => ?_⟩
  · show wriV (preV ⟨n, nought, nought, strOf [], strOf [], 2⟩ _) = _
    rw [pre_text _ _ hne]
    apply bytes_ext
    unfold headT headB buildB nought
    rw [show (strOf []).toList.isEmpty = true by decide +kernel, if_pos rfl]
    simp [ByteArray.data_append]
  · have hr : Right (preV ⟨n, nought, nought, strOf [], strOf [], 2⟩ (st ++ ⟨#[45]⟩ ++ id)) := ⟨hn, (show numL nought.data.toList = true by decide +kernel), (show numL nought.data.toList = true by decide +kernel), by show (43 : UInt8) ∉ (st ++ (⟨#[45]⟩ : ByteArray) ++ id).data.toList; rw [hl]; exact w2, fun _ => parts_seg1 hl w1 w3⟩
    have hp := parse_wri hr (fun he => by cases he) hsz
    refine ⟨hp, ?_⟩
    unfold told
    rw [show ((some (⟨n, nought, nought, strOf [], strOf [], 2⟩ : Ver)).getD noVer) = ⟨n, nought, nought, strOf [], strOf [], 2⟩ from rfl, hp]
    show toldV (full (preV ⟨n, nought, nought, strOf [], strOf [], 2⟩ (st ++ ⟨#[45]⟩ ++ id))) = _
    unfold toldV
    have hcut := cut_seg (p := st ++ ⟨#[45]⟩ ++ id) (F := []) hs hl
    rw [if_neg (by show ¬ 0 < 0; omega), show (full (preV ⟨n, nought, nought, strOf [], strOf [], 2⟩ (st ++ ⟨#[45]⟩ ++ id))).pre = st ++ ⟨#[45]⟩ ++ id from rfl, hcut, if_pos rfl]
    have hbr : baseR (full (preV ⟨n, nought, nought, strOf [], strOf [], 2⟩ (st ++ ⟨#[45]⟩ ++ id))) (strOf []) = (⟨#[]⟩, true) := by
      unfold baseR
      rw [show (strOf []).toList.isEmpty = true by decide +kernel, if_pos rfl]
      show ((⟨#[]⟩ : ByteArray), (nought.toList == [48]) && (nought.toList == [48]) && (strOf []).toList.isEmpty) = _
      rw [show (nought.toList == [48]) = true by decide +kernel, show (strOf []).toList.isEmpty = true by decide +kernel]
      rfl
    rw [hbr]; rfl
end Go.Proofs.YtmhjdahmmdfbcaaGreatDoor
namespace Go.Proofs.YtmhjdahmmdfbcaaGreatDoor
open Go.RowKit

/-- what the stamp of a second is, and whether there is one -/
def Sec (t : Int) (st : ByteArray) (er : Int) : Prop :=
  (er = 0 ∧ ∃ T y m d h mi s : Nat, t = (T : Int) - 62135596800 ∧ IsDate T y m d h mi s ∧ st = stampT y m d h mi s) ∨ (er = 1 ∧ st = ⟨#[]⟩ ∧ (t < -62135596800 ∨ 253402300799 < t))
theorem sec_ex (t : Int) : ∃ st er, Sec t st er := by
  by_cases h : t < -62135596800 ∨ 253402300799 < t
  · exact ⟨_,_, Or.inr ⟨rfl, rfl, h⟩⟩
  · obtain ⟨T, hT⟩ : ∃ T : Nat, t = (T : Int) - 62135596800 := ⟨(t + 62135596800).toNat, by omega⟩
    obtain ⟨y, m, d, hd⟩ := date_ex T (by omega)
    exact ⟨_,_, Or.inl ⟨rfl, T, y, m, d, _,_,_, hT, hd, rfl⟩⟩
theorem Sec.stp {t : Int} {st : ByteArray} {er : Int} (h : Sec t st er) : StpQ t st er ∧ st.size ≤ 14 := by
  rcases h with ⟨rfl, T, y, m, d, hh, mi, s, rfl, hd, rfl⟩ | ⟨rfl, rfl, h⟩
  · exact ⟨fun V hV => stamp_yes T y m d hh mi s V hV hd, Nat.le_of_eq (stamp_seg hd).1⟩
  · exact ⟨fun V _ => stamp_no t V h, Nat.zero_le _⟩
theorem Sec.seg {t : Int} {st id : ByteArray} (h : Sec t st 0) (hr : revB id = true) : SegOk st id t := by
  rcases h with ⟨_, T, y, m, d, hh, mi, s, rfl, hd, rfl⟩ | ⟨h, _⟩
  · obtain ⟨a, b, c⟩ := stamp_seg hd
    exact ⟨a, b, c, hr⟩
  · cases h
end Go.Proofs.YtmhjdahmmdfbcaaGreatDoor
namespace Go.Proofs.YtmhjdahmmdfbcaaGreatDoor
open Go.RowKit

end Go.Proofs.YtmhjdahmmdfbcaaGreatDoor
