/-
  Walks of pseudo: Is, below a base.
  Walks of pseudo: Make above a base.
  Walks of the law of pseudo: awake.
-/
import Derived.Test.YtmhjdahmmdfbcaaGreatDoorJPsG
namespace Go.Proofs.YtmhjdahmmdfbcaaGreatDoor
open Go.RowKit

set_option maxHeartbeats 2000000 in
set_option maxRecDepth 100000 in
theorem below_base (major base : ByteArray) (w : World) (hs : base.size ≤ 9223372036854775807) (hb : base.toList.isEmpty = false) :
    Calls Tryz.prog 26 #[.string major, .string base] w fun x w' => x = .returned (.tuple #[verA ((parseR base).getD noVer), .bool (parseR base).isSome]) ∧ Below w.heap.size w w' := by
  have HP := hidM (fun V => parse_any base V hs)
  have HX0 := hidM (heap_alloc_new w (.cells #[.string ⟨#[]⟩, .string ⟨#[]⟩, .string ⟨#[]⟩, .string ⟨#[]⟩, .string ⟨#[]⟩, .int .i64 0] 43))
  have HB0 : Hid (Below w.heap.size w (w.alloc (.cells #[.string ⟨#[]⟩, .string ⟨#[]⟩, .string ⟨#[]⟩, .string ⟨#[]⟩, .string ⟨#[]⟩, .int .i64 0] 43))) := (Below.refl _ w).alloc (Nat.le_refl _) _
  unfold verA
  generalize (parseR base).isSome = ok at *
  generalize ((parseR base).getD noVer).major = a at *
  generalize ((parseR base).getD noVer).minor = b at *
  generalize ((parseR base).getD noVer).patch = c at *
  generalize ((parseR base).getD noVer).pre = d at *
  generalize ((parseR base).getD noVer).build = e at *
  generalize (((parseR base).getD noVer).short : Int) = n at *
  go_enter Tryz.func26, Tryz.ntmps26
  go_wp2_with fail
  refine (HP.out _).mono ?_
  rintro _ w1 ⟨rfl, hb1⟩
  have HX1 := hidM (box_kept HX0.out hb1)
  have HB1 := hidM (HB0.out.trans (hb1.mono HB0.out.size))
  clear hb1 HX0 HB0 HP
  go_wp2_with (refine wpList_store_row rfl 43 (.tmp 4) (.tmp 12) rfl w.heap.size #[.string a, .string b, .string c, .string d, .string e, .int .i64 n] rfl rfl 43 #[.string ⟨#[]⟩, .string ⟨#[]⟩, .string ⟨#[]⟩, .string ⟨#[]⟩, .string ⟨#[]⟩, .int .i64 0] HX1.out size23 rfl (ones23v _ _ _ _ _ _) ?_)
  exact bodyPost_ret (results_box rfl _ _ w.heap.size #[.string a, .string b, .string c, .string d, .string e, .int .i64 n] rfl (run_loadVar_row _ w.heap.size 43 43 _ (0, 0) _ (setRow_heap _ _ _ _ 43 _ HX1.out) Tryz.underlying43 rfl size23)) rfl ⟨rfl, below_setRow HB1.out (Nat.le_refl _)⟩
end Go.Proofs.YtmhjdahmmdfbcaaGreatDoor
namespace Go.Proofs.YtmhjdahmmdfbcaaGreatDoor
open Go.RowKit

def makeV (v : Ver) (seg : ByteArray) : Ver :=
  if v.pre.toList.isEmpty then ⟨v.major, v.minor, ⟨(moreL v.patch.data.toList).toArray⟩, (⟨#[48, 46]⟩ : ByteArray) ++ seg, v.build, v.short⟩ else ⟨v.major, v.minor, v.patch, v.pre ++ (⟨#[46, 48, 46]⟩ ++ seg), v.build, v.short⟩
def bigR (s : ByteArray) : ByteArray × Int := if 100 < s.size then (⟨#[]⟩, 2) else (s, 0)
def makeR (base st id : ByteArray) (er : Int) : ByteArray × Int :=
  if er = 0 then (if revB id then (match parseR base with | none => (⟨#[]⟩, 4) | some v => bigR (wriV (makeV v (st ++ ⟨#[45]⟩ ++ id)))) else (⟨#[]⟩, 1)) else (⟨#[]⟩, 1)
def StpQ (t : Int) (st : ByteArray) (er : Int) : Prop := ∀ V, GT V → Calls Tryz.prog 24 #[.int .i64 t] V fun x w' => x = .returned (.tuple #[.string st, .int .i64 er]) ∧ Below V.heap.size V w'
theorem moreAt_len (l : List UInt8) (k : Nat) : (moreAt l k).length ≤ l.length + 1 := by
  cases k with
  | zero => simp [moreAt]
  | succ m => rw [moreAt_succ]; simp; omega
theorem more_len (l : List UInt8) : (moreL l).length ≤ l.length + 1 := moreAt_len l _

set_option maxHeartbeats 4000000 in
set_option maxRecDepth 100000 in
theorem make_base (major base : ByteArray) (time : Int) (id st : ByteArray) (er : Int) (w : World) (hG : GT w) (hs : base.size ≤ 9223372036854775807) (hb : base.toList.isEmpty = false) (hst : StpQ time st er) (hz : st.size ≤ 14) :
    Calls Tryz.prog 8 #[.string major, .string base, .int .i64 time, .string id] w fun x w' => x = .returned (.tuple #[.string (makeR base st id er).1, .int .i64 (makeR base st id er).2]) ∧ Below w.heap.size w w' := by
  have HST := hidM (hst w hG)
  have HRV := hidM (fun V => rev_any id V)
  have HBL := hidM (fun V => below_base major base V hs hb)
  have HR0 : Hid (makeR base st id er = if er = 0 then (if revB id then (match parseR base with | none => (⟨#[]⟩, 4) | some v => bigR (wriV (makeV v (st ++ ⟨#[45]⟩ ++ id)))) else (⟨#[]⟩, 1)) else (⟨#[]⟩, 1)) := rfl
  have hsid : revB id = true → id.size = 12 := fun h => by unfold revB at h; rw [Bool.and_eq_true] at h; exact of_decide_eq_true h.1
  clear hst hG
  generalize makeR base st id er = R at *
  go_enter Tryz.func8, Tryz.ntmps8
  go_wp2_with fail
  refine HST.out.mono ?_
  rintro _ w1 ⟨rfl, hb1⟩
  have HB1 := hidM hb1
  clear hb1 HST
  by_cases her : er = 0
  · subst her
    rw [if_pos rfl] at HR0
    go_wp2_with fail
    refine (HRV.out _).mono ?_
    rintro _ w2 ⟨rfl, hb2⟩
    have HB2 := hidM (HB1.out.trans (hb2.mono HB1.out.size))
    clear hb2 HRV HB1
    cases hrv : revB id with
    | false =>
      as_aux_lemma =>
      have HR : Hid (R = (⟨#[]⟩, 1)) := by unfold Hid; rw [HR0.out, hrv]; rfl
      clear hsid hrv
      go_wp2
      refine bodyPost_ret (results_tmp2 rfl _ _ _) rfl ?_
      exact ⟨by rw [HR.out]; rfl, HB2.out⟩
    | true =>
      rw [hrv, if_pos rfl] at HR0
      have hid := hsid hrv
      have hid' : id.size ≤ 12 := by omega
      clear hsid hrv hid
      go_wp2_with fail
      refine (HBL.out _).mono ?_
      rintro _ w3 ⟨rfl, hb3⟩
      have HB3 := hidM (HB2.out.trans (hb3.mono HB2.out.size))
      clear hb3 HBL HB2
      cases hv : parseR base with
      | none =>
        as_aux_lemma =>
        have HR : Hid (R = (⟨#[]⟩, 4)) := by unfold Hid; rw [HR0.out, hv]
        clear hv HR0
        unfold verA noVer
        simp only [Option.getD_none, Option.isSome_none]
        have HA4 := hidM (heap_alloc_new w3 (.cells #[.string ⟨#[]⟩, .string ⟨#[]⟩, .string ⟨#[]⟩, .string ⟨#[]⟩, .string ⟨#[]⟩, .int .i64 0] 43))
        have HAB4 : Hid (Below w3.heap.size w3 ((w3.alloc (.cells #[.string ⟨#[]⟩, .string ⟨#[]⟩, .string ⟨#[]⟩, .string ⟨#[]⟩, .string ⟨#[]⟩, .int .i64 0] 43)).setRow w3.heap.size #[.string ⟨#[]⟩, .string ⟨#[]⟩, .string ⟨#[]⟩, .string ⟨#[]⟩, .string ⟨#[]⟩, .int .i64 0])) := below_setRow ((Below.refl _ _).alloc (Nat.le_refl _) _) (Nat.le_refl _)
        have HB4 := hidM (HB3.out.trans (HAB4.out.mono HB3.out.size))
        have HQ4 : Hid (((w3.alloc (.cells #[.string ⟨#[]⟩, .string ⟨#[]⟩, .string ⟨#[]⟩, .string ⟨#[]⟩, .string ⟨#[]⟩, .int .i64 0] 43)).setRow w3.heap.size #[.string ⟨#[]⟩, .string ⟨#[]⟩, .string ⟨#[]⟩, .string ⟨#[]⟩, .string ⟨#[]⟩, .int .i64 0]).heap[w3.heap.size]? = some (.cells #[.string ⟨#[]⟩, .string ⟨#[]⟩, .string ⟨#[]⟩, .string ⟨#[]⟩, .string ⟨#[]⟩, .int .i64 0] 43 (0, 0))) := setRow_heap _ _ _ _ 43 _ HA4.out
        go_wp2_with (refine wpList_store_row rfl 43 (.tmp 12) (.tmp 32) rfl w3.heap.size #[.string ⟨#[]⟩, .string ⟨#[]⟩, .string ⟨#[]⟩, .string ⟨#[]⟩, .string ⟨#[]⟩, .int .i64 0] rfl rfl 43 #[.string ⟨#[]⟩, .string ⟨#[]⟩, .string ⟨#[]⟩, .string ⟨#[]⟩, .string ⟨#[]⟩, .int .i64 0] HA4.out size23 rfl ones23 ?_)
        refine bodyPost_ret (results_tmp2 rfl _ _ _) rfl ?_
        exact ⟨by rw [HR.out]; rfl, HB4.out⟩
      | some v =>
        obtain ⟨z1, z2, z3, z4⟩ := ver_small hv
        have z5 := build_small hv
        have hnd := num_digs (ver_right hv).patch
        have HRs : Hid (R = bigR (wriV (makeV v (st ++ ⟨#[45]⟩ ++ id)))) := by unfold Hid; rw [HR0.out, hv]
        clear hv HR0
        unfold verA
        simp only [Option.getD_some, Option.isSome_some]
        unfold bigR makeV at HRs
        obtain ⟨seg, hseg⟩ : ∃ seg, seg = st ++ ⟨#[45]⟩ ++ id := ⟨_, rfl⟩
        have hsz : seg.size ≤ 27 := by rw [hseg]; simp only [ByteArray.size_append]; show st.size + 1 + id.size ≤ 27; omega
        rw [← hseg] at HRs
        have HSEG := hidM hseg
        clear hseg
        have HMO := hidM (fun V => oneMore_any v.patch V (by omega) (by rw [← len_size]; exact hnd.2) (fun c hc => (hnd.1 c hc).2))
        cases hpe : v.pre.toList.isEmpty with
        | true =>
          rw [hpe, if_pos rfl] at HRs
          have HW : Hid (∀ V, Calls Tryz.prog 28 #[.agg #[.string v.major, .string v.minor, .string ⟨(moreL v.patch.data.toList).toArray⟩, .string ((⟨#[48, 46]⟩ : ByteArray) ++ seg), .string v.build, .int .i64 (v.short : Int)]] V fun x w' => x = .returned (.string (wriV ⟨v.major, v.minor, ⟨(moreL v.patch.data.toList).toArray⟩, (⟨#[48, 46]⟩ : ByteArray) ++ seg, v.build, v.short⟩)) ∧ Below V.heap.size V w') :=
            fun V => written_any ⟨v.major, v.minor, ⟨(moreL v.patch.data.toList).toArray⟩, (⟨#[48, 46]⟩ : ByteArray) ++ seg, v.build, v.short⟩ V (by show v.major.size ≤ _; omega) (by show v.minor.size ≤ _; omega) (by
              show (moreL v.patch.data.toList).toArray.size ≤ _
              have := more_len v.patch.data.toList
              have := len_size v.patch
              rw [List.size_toArray]; omega) (by show ((⟨#[48, 46]⟩ : ByteArray) ++ seg).size ≤ _; rw [ByteArray.size_append]; show 2 + seg.size ≤ _; omega) (by show v.build.size ≤ _; omega)
          clear hnd
          generalize wriV ⟨v.major, v.minor, ⟨(moreL v.patch.data.toList).toArray⟩, (⟨#[48, 46]⟩ : ByteArray) ++ seg, v.build, v.short⟩ = T at *
          have HR := HRs
          clear HRs
          generalize (⟨(moreL v.patch.data.toList).toArray⟩ : ByteArray) = u at *
          generalize v.major = a at *
          generalize v.minor = b at *
          generalize v.patch = c at *
          generalize v.pre = d at *
          generalize v.build = e at *
          generalize (v.short : Int) = n at *
          have HA4 := hidM (heap_alloc_new w3 (.cells #[.string ⟨#[]⟩, .string ⟨#[]⟩, .string ⟨#[]⟩, .string ⟨#[]⟩, .string ⟨#[]⟩, .int .i64 0] 43))
          have HAB4 : Hid (Below w3.heap.size w3 ((w3.alloc (.cells #[.string ⟨#[]⟩, .string ⟨#[]⟩, .string ⟨#[]⟩, .string ⟨#[]⟩, .string ⟨#[]⟩, .int .i64 0] 43)).setRow w3.heap.size #[.string a, .string b, .string c, .string d, .string e, .int .i64 n])) := below_setRow ((Below.refl _ _).alloc (Nat.le_refl _) _) (Nat.le_refl _)
          have HB4 := hidM (HB3.out.trans (HAB4.out.mono HB3.out.size))
          have HQ4 : Hid (((w3.alloc (.cells #[.string ⟨#[]⟩, .string ⟨#[]⟩, .string ⟨#[]⟩, .string ⟨#[]⟩, .string ⟨#[]⟩, .int .i64 0] 43)).setRow w3.heap.size #[.string a, .string b, .string c, .string d, .string e, .int .i64 n]).heap[w3.heap.size]? = some (.cells #[.string a, .string b, .string c, .string d, .string e, .int .i64 n] 43 (0, 0))) := setRow_heap _ _ _ _ 43 _ HA4.out
          have c2 : ((w3.alloc (.cells #[.string ⟨#[]⟩, .string ⟨#[]⟩, .string ⟨#[]⟩, .string ⟨#[]⟩, .string ⟨#[]⟩, .int .i64 0] 43)).setRow w3.heap.size #[.string a, .string b, .string c, .string d, .string e, .int .i64 n]).cell? ⟨w3.heap.size, 2, none⟩ = some (.string c) := by rw [cell_of_row _ _ _ _ 43 (0, 0) HQ4.out]; rfl
          have c3 : ((w3.alloc (.cells #[.string ⟨#[]⟩, .string ⟨#[]⟩, .string ⟨#[]⟩, .string ⟨#[]⟩, .string ⟨#[]⟩, .int .i64 0] 43)).setRow w3.heap.size #[.string a, .string b, .string c, .string d, .string e, .int .i64 n]).cell? ⟨w3.heap.size, 3, none⟩ = some (.string d) := by rw [cell_of_row _ _ _ _ 43 (0, 0) HQ4.out]; rfl
          go_wp2_with (refine wpList_store_row rfl 43 (.tmp 12) (.tmp 32) rfl w3.heap.size #[.string a, .string b, .string c, .string d, .string e, .int .i64 n] rfl rfl 43 #[.string ⟨#[]⟩, .string ⟨#[]⟩, .string ⟨#[]⟩, .string ⟨#[]⟩, .string ⟨#[]⟩, .int .i64 0] HA4.out size23 rfl (ones23v _ _ _ _ _ _) ?_)
          refine (HMO.out _).mono ?_
          rintro _ w5 ⟨rfl, hb5⟩
          have HQ5 := hidM (box_kept HQ4.out hb5)
          have HB5 := hidM (HB4.out.trans (hb5.mono HB4.out.size))
          have hge : w.heap.size ≤ w3.heap.size := HB3.out.size
          clear hb5 HQ4 HB4 HAB4 HA4 c2 c3 HMO HB3
          have c2 : w5.cell? ⟨w3.heap.size, 2, none⟩ = some (.string c) := by rw [cell_of_row _ _ _ _ 43 (0, 0) HQ5.out]; rfl
          have c3 : w5.cell? ⟨w3.heap.size, 3, none⟩ = some (.string d) := by rw [cell_of_row _ _ _ _ 43 (0, 0) HQ5.out]; rfl
          have f2 : w5.frozen? ⟨w3.heap.size, 2, none⟩ = false := by simp [World.frozen?, HQ5.out]
          have f3 : w5.frozen? ⟨w3.heap.size, 3, none⟩ = false := by simp [World.frozen?, HQ5.out]
          obtain ⟨p2, hp2⟩ : ∃ p2, p2 = (⟨#[48, 46]⟩ : ByteArray) ++ (st ++ ⟨#[45]⟩ ++ id) := ⟨_, rfl⟩
          rw [HSEG.out, ← hp2] at HW
          have HQ6 := hidM (box6_two (x := .string u) (y := .string ((⟨#[48, 46]⟩ : ByteArray) ++ (st ++ ⟨#[45]⟩ ++ id))) HQ5.out)
          have HB6 : Hid (Below w.heap.size w ((w5.setCell ⟨w3.heap.size, 2, none⟩ (.string u)).setCell ⟨w3.heap.size, 3, none⟩ (.string ((⟨#[48, 46]⟩ : ByteArray) ++ (st ++ ⟨#[45]⟩ ++ id))))) := (HB5.out.setCell hge _).setCell hge _
          rw [hp2] at HW
          clear hp2
          go_wp2_with (refine wpList_load_row rfl 43 (.tmp 12) rfl w3.heap.size rfl 43 #[.string a, .string b, .string u, .string ((⟨#[48, 46]⟩ : ByteArray) ++ (st ++ ⟨#[45]⟩ ++ id)), .string e, .int .i64 n] (0, 0) _ HQ6.out Tryz.underlying43 rfl size23 ?_)
          refine (HW.out _).mono ?_
          rintro _ w9 ⟨rfl, hb9⟩
          have HB9 := hidM (HB6.out.trans (hb9.mono HB6.out.size))
          clear hb9
          by_cases hbig : 100 < T.size
          · have b9 : (100 : Int) < (T.size : Int) := by omega
            have HRR : Hid (R = (⟨#[]⟩, 2)) := by unfold Hid; rw [HR.out, if_pos hbig]
            go_wp2
            refine bodyPost_ret (results_tmp2 rfl _ _ _) rfl ?_
            exact ⟨by rw [HRR.out]; rfl, HB9.out⟩
          · have b9 : ¬ (100 : Int) < (T.size : Int) := by omega
            have HRR : Hid (R = (T, 0)) := by unfold Hid; rw [HR.out, if_neg hbig]
            go_wp2
            refine bodyPost_ret (results_tmp2 rfl _ _ _) rfl ?_
            exact ⟨by rw [HRR.out]; rfl, HB9.out⟩
        | false =>
          rw [hpe, if_neg Bool.false_ne_true] at HRs
          have HW : Hid (∀ V, Calls Tryz.prog 28 #[.agg #[.string v.major, .string v.minor, .string v.patch, .string (v.pre ++ ((⟨#[46, 48, 46]⟩ : ByteArray) ++ seg)), .string v.build, .int .i64 (v.short : Int)]] V fun x w' => x = .returned (.string (wriV ⟨v.major, v.minor, v.patch, v.pre ++ ((⟨#[46, 48, 46]⟩ : ByteArray) ++ seg), v.build, v.short⟩)) ∧ Below V.heap.size V w') :=
            fun V => written_any ⟨v.major, v.minor, v.patch, v.pre ++ ((⟨#[46, 48, 46]⟩ : ByteArray) ++ seg), v.build, v.short⟩ V (by show v.major.size ≤ _; omega) (by show v.minor.size ≤ _; omega) (by show v.patch.size ≤ _; omega) (by show (v.pre ++ ((⟨#[46, 48, 46]⟩ : ByteArray) ++ seg)).size ≤ _; rw [ByteArray.size_append, ByteArray.size_append]; show v.pre.size + (3 + seg.size) ≤ _; omega) (by show v.build.size ≤ _; omega)
          clear hnd HMO
          generalize wriV ⟨v.major, v.minor, v.patch, v.pre ++ ((⟨#[46, 48, 46]⟩ : ByteArray) ++ seg), v.build, v.short⟩ = T at *
          rw [HSEG.out] at HW
          have HR := HRs
          clear HRs
          have hge : w.heap.size ≤ w3.heap.size := HB3.out.size
          generalize v.major = a at *
          generalize v.minor = b at *
          generalize v.patch = c at *
          generalize v.pre = d at *
          generalize v.build = e at *
          generalize (v.short : Int) = n at *
          have HA4 := hidM (heap_alloc_new w3 (.cells #[.string ⟨#[]⟩, .string ⟨#[]⟩, .string ⟨#[]⟩, .string ⟨#[]⟩, .string ⟨#[]⟩, .int .i64 0] 43))
          have HAB4 : Hid (Below w3.heap.size w3 ((w3.alloc (.cells #[.string ⟨#[]⟩, .string ⟨#[]⟩, .string ⟨#[]⟩, .string ⟨#[]⟩, .string ⟨#[]⟩, .int .i64 0] 43)).setRow w3.heap.size #[.string a, .string b, .string c, .string d, .string e, .int .i64 n])) := below_setRow ((Below.refl _ _).alloc (Nat.le_refl _) _) (Nat.le_refl _)
          have HB4 := hidM (HB3.out.trans (HAB4.out.mono HB3.out.size))
          have HQ4 : Hid (((w3.alloc (.cells #[.string ⟨#[]⟩, .string ⟨#[]⟩, .string ⟨#[]⟩, .string ⟨#[]⟩, .string ⟨#[]⟩, .int .i64 0] 43)).setRow w3.heap.size #[.string a, .string b, .string c, .string d, .string e, .int .i64 n]).heap[w3.heap.size]? = some (.cells #[.string a, .string b, .string c, .string d, .string e, .int .i64 n] 43 (0, 0))) := setRow_heap _ _ _ _ 43 _ HA4.out
          have c3 : ((w3.alloc (.cells #[.string ⟨#[]⟩, .string ⟨#[]⟩, .string ⟨#[]⟩, .string ⟨#[]⟩, .string ⟨#[]⟩, .int .i64 0] 43)).setRow w3.heap.size #[.string a, .string b, .string c, .string d, .string e, .int .i64 n]).cell? ⟨w3.heap.size, 3, none⟩ = some (.string d) := by rw [cell_of_row _ _ _ _ 43 (0, 0) HQ4.out]; rfl
          have f3 : ((w3.alloc (.cells #[.string ⟨#[]⟩, .string ⟨#[]⟩, .string ⟨#[]⟩, .string ⟨#[]⟩, .string ⟨#[]⟩, .int .i64 0] 43)).setRow w3.heap.size #[.string a, .string b, .string c, .string d, .string e, .int .i64 n]).frozen? ⟨w3.heap.size, 3, none⟩ = false := by simp only [World.frozen?, HQ4.out]; rfl
          have HQ6 := hidM (box6_one (y := .string (d ++ ((⟨#[46, 48, 46]⟩ : ByteArray) ++ (st ++ ⟨#[45]⟩ ++ id)))) HQ4.out)
          have HB6 : Hid (Below w.heap.size w (((w3.alloc (.cells #[.string ⟨#[]⟩, .string ⟨#[]⟩, .string ⟨#[]⟩, .string ⟨#[]⟩, .string ⟨#[]⟩, .int .i64 0] 43)).setRow w3.heap.size #[.string a, .string b, .string c, .string d, .string e, .int .i64 n]).setCell ⟨w3.heap.size, 3, none⟩ (.string (d ++ ((⟨#[46, 48, 46]⟩ : ByteArray) ++ (st ++ ⟨#[45]⟩ ++ id)))))) := HB4.out.setCell hge _
          go_wp2_with (first | (refine wpList_store_row rfl 43 (.tmp 12) (.tmp 32) rfl w3.heap.size #[.string a, .string b, .string c, .string d, .string e, .int .i64 n] rfl rfl 43 #[.string ⟨#[]⟩, .string ⟨#[]⟩, .string ⟨#[]⟩, .string ⟨#[]⟩, .string ⟨#[]⟩, .int .i64 0] HA4.out size23 rfl (ones23v _ _ _ _ _ _) ?_) | (refine wpList_load_row rfl 43 (.tmp 12) rfl w3.heap.size rfl 43 #[.string a, .string b, .string c, .string (d ++ ((⟨#[46, 48, 46]⟩ : ByteArray) ++ (st ++ ⟨#[45]⟩ ++ id))), .string e, .int .i64 n] (0, 0) _ HQ6.out Tryz.underlying43 rfl size23 ?_))
          refine (HW.out _).mono ?_
          rintro _ w9 ⟨rfl, hb9⟩
          have HB9 := hidM (HB6.out.trans (hb9.mono HB6.out.size))
          clear hb9
          by_cases hbig : 100 < T.size
          · have b9 : (100 : Int) < (T.size : Int) := by omega
            have HRR : Hid (R = (⟨#[]⟩, 2)) := by unfold Hid; rw [HR.out, if_pos hbig]
            go_wp2
            refine bodyPost_ret (results_tmp2 rfl _ _ _) rfl ?_
            exact ⟨by rw [HRR.out]; rfl, HB9.out⟩
          · have b9 : ¬ (100 : Int) < (T.size : Int) := by omega
            have HRR : Hid (R = (T, 0)) := by unfold Hid; rw [HR.out, if_neg hbig]
            go_wp2
            refine bodyPost_ret (results_tmp2 rfl _ _ _) rfl ?_
            exact ⟨by rw [HRR.out]; rfl, HB9.out⟩
  · as_aux_lemma =>
    have HR : Hid (R = (⟨#[]⟩, 1)) := by unfold Hid; rw [HR0.out, if_neg her]
    have b1 : (er != 0) = true := by simpa using her
    clear hsid
    go_wp2
    refine bodyPost_ret (results_tmp2 rfl _ _ _) rfl ?_
    exact ⟨by rw [HR.out]; rfl, HB1.out⟩
end Go.Proofs.YtmhjdahmmdfbcaaGreatDoor
namespace Go.Proofs.YtmhjdahmmdfbcaaGreatDoor
open Go.RowKit

def pI : ByteArray := ⟨#[97, 98, 99, 100, 101, 102, 97, 98, 99, 100, 101, 102]⟩
def pS : ByteArray := ⟨#[50, 48, 48, 54, 48, 49, 48, 50, 49, 53, 48, 52, 48, 53]⟩
def p3 : ByteArray := ⟨#[118, 49, 46, 50, 46, 51]⟩
theorem pw_stamp : StpQ 1136214245 pS 0 := fun V hV => by
  have h := stamp_yes 63271811045 2006 1 2 15 4 5 V hV st_date
  rw [st_text] at h
  exact h
end Go.Proofs.YtmhjdahmmdfbcaaGreatDoor
