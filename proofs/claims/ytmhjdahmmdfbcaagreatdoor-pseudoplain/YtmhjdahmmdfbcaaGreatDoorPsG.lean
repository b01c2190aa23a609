/-
  Walks of pseudo: Parse, Is.
-/
import Derived.Test.YtmhjdahmmdfbcaaGreatDoorPsF
namespace Go.Proofs.YtmhjdahmmdfbcaaGreatDoor
open Go.RowKit

theorem build_small {s : ByteArray} {v : Ver} (h : parseR s = some v) : v.build.size ≤ 200 := by
  unfold parseR at h
  split at h
  · rename_i hc
    simp only [Bool.and_eq_true, decide_eq_true_eq] at hc
    have e := Option.some.inj h
    subst e
    show (strOf (cutR 43 (vCut s.data.toList).1).2.1).size ≤ 200
    rw [strOf_size]
    have h2 := (cutR_len 43 (vCut s.data.toList).1).2
    have h3 : (vCut s.data.toList).1.length ≤ s.data.toList.length := by
      cases s.data.toList with
      | nil => exact Nat.le_refl _
      | cons c l => simp only [vCut]; split <;> simp
    rw [size_len] at h3
    omega
  · cases h
theorem num_digs {l : List UInt8} (h : numL l = true) : (∀ c ∈ l, 48 ≤ c.toNat ∧ c.toNat ≤ 57) ∧ 0 < l.length := by
  unfold numL at h
  rw [Bool.and_eq_true] at h
  have h1 := h.1
  unfold digL at h1
  rw [Bool.and_eq_true, List.all_eq_true] at h1
  refine ⟨fun c hc => ?_, ?_⟩
  · have := h1.1 c hc
    unfold digC at this
    simpa using this
  · have := h1.2
    cases l with
    | nil => simp at this
    | cons c r => simp
structure Told where
  base : ByteArray
  time : Int
  rev : ByteArray
  err : Int
  deriving DecidableEq
def noTold (e : Int) : Told := ⟨⟨#[]⟩, 0, ⟨#[]⟩, e⟩
def toldV (v : Ver) : Told :=
  if 0 < v.short then noTold 4 else
  if (cutPre v.pre).ok then (if (baseR v (cutPre v.pre).front).2 then ⟨(baseR v (cutPre v.pre).front).1, (cutPre v.pre).time, (cutPre v.pre).rev, 0⟩ else noTold 3) else noTold 3
def told (s : ByteArray) : Told := match parseR s with | none => noTold 4 | some v => toldV v
def toldR (t : Told) : Value := .tuple #[.agg #[.string t.base, .int .i64 t.time, .string t.rev], .int .i64 t.err]

set_option maxHeartbeats 4000000 in
set_option maxRecDepth 100000 in
theorem pparse_any (s : ByteArray) (w : World) (hG : GT w) (hs : s.size ≤ 9223372036854775807) :
    Calls Tryz.prog 11 #[.string s] w fun x w' => x = .returned (toldR (told s)) ∧ Below w.heap.size w w' := by
  have HP := hidM (fun V => parse_any s V hs)
  have HX0 := hidM (heap_alloc_new w (.cells #[.string ⟨#[]⟩, .int .i64 0, .string ⟨#[]⟩] 29))
  have HB0 : Hid (Below w.heap.size w (w.alloc (.cells #[.string ⟨#[]⟩, .int .i64 0, .string ⟨#[]⟩] 29))) := (Below.refl _ w).alloc (Nat.le_refl _) _
  have HG0 := hidM (hG.below HB0.out)
  clear hG
  cases hv : parseR s with
  | none =>
    as_aux_lemma =>
    have HR : Hid (told s = noTold 4) := by unfold Hid told; rw [hv]
    rw [hv] at HP
    clear hv
    unfold noVer at HP
    simp only [Option.getD_none, Option.isSome_none] at HP
    have HP' : Hid (∀ V, Calls Tryz.prog 18 #[.string s] V fun x w' => x = .returned (.tuple #[.agg #[.string ⟨#[]⟩, .string ⟨#[]⟩, .string ⟨#[]⟩, .string ⟨#[]⟩, .string ⟨#[]⟩, .int .i64 0], .bool false]) ∧ Below V.heap.size V w') := HP.out
    clear HP
    have HP := HP'
    clear HP'
    generalize told s = R at *
    go_enter Tryz.func11, Tryz.ntmps11
    go_wp2_with fail
    refine (HP.out _).mono ?_
    rintro _ w1 ⟨rfl, hb1⟩
    have HX1 := hidM (box_kept HX0.out hb1)
    have HB1 := hidM (HB0.out.trans (hb1.mono HB0.out.size))
    have HG1 := hidM (HG0.out.below hb1)
    clear hb1 HX0 HB0 HG0 HP
    have HA := hidM (heap_alloc_new w1 (.cells #[.string ⟨#[]⟩, .string ⟨#[]⟩, .string ⟨#[]⟩, .string ⟨#[]⟩, .string ⟨#[]⟩, .int .i64 0] 43))
    have HAB : Hid (Below w1.heap.size w1 ((w1.alloc (.cells #[.string ⟨#[]⟩, .string ⟨#[]⟩, .string ⟨#[]⟩, .string ⟨#[]⟩, .string ⟨#[]⟩, .int .i64 0] 43)).setRow w1.heap.size #[.string ⟨#[]⟩, .string ⟨#[]⟩, .string ⟨#[]⟩, .string ⟨#[]⟩, .string ⟨#[]⟩, .int .i64 0])) := below_setRow ((Below.refl _ _).alloc (Nat.le_refl _) _) (Nat.le_refl _)
    have HX2 := hidM (box_kept HX1.out HAB.out)
    have HB2 := hidM (HB1.out.trans (HAB.out.mono HB1.out.size))
    have HG2 := hidM (HG1.out.below HAB.out)
    have HV2 : Hid (((w1.alloc (.cells #[.string ⟨#[]⟩, .string ⟨#[]⟩, .string ⟨#[]⟩, .string ⟨#[]⟩, .string ⟨#[]⟩, .int .i64 0] 43)).setRow w1.heap.size #[.string ⟨#[]⟩, .string ⟨#[]⟩, .string ⟨#[]⟩, .string ⟨#[]⟩, .string ⟨#[]⟩, .int .i64 0]).heap[w1.heap.size]? = some (.cells #[.string ⟨#[]⟩, .string ⟨#[]⟩, .string ⟨#[]⟩, .string ⟨#[]⟩, .string ⟨#[]⟩, .int .i64 0] 43 (0, 0))) := setRow_heap _ _ _ _ 43 _ HA.out
    go_wp2_with (first | (refine wpList_store_row rfl 43 (.tmp 4) (.tmp 11) rfl w1.heap.size #[.string ⟨#[]⟩, .string ⟨#[]⟩, .string ⟨#[]⟩, .string ⟨#[]⟩, .string ⟨#[]⟩, .int .i64 0] rfl rfl 43 #[.string ⟨#[]⟩, .string ⟨#[]⟩, .string ⟨#[]⟩, .string ⟨#[]⟩, .string ⟨#[]⟩, .int .i64 0] HA.out size23 rfl ones23 ?_) | (refine wpList_store_row rfl 29 (.tmp 2) (.tmp 20) rfl w.heap.size #[.string ⟨#[]⟩, .int .i64 0, .string ⟨#[]⟩] rfl rfl 29 #[.string ⟨#[]⟩, .int .i64 0, .string ⟨#[]⟩] HX2.out size29 rfl (ones29 _ _ _) ?_))
    exact bodyPost_ret (results_box rfl _ _ w.heap.size #[.string ⟨#[]⟩, .int .i64 0, .string ⟨#[]⟩] rfl (run_loadVar_row _ w.heap.size 29 29 _ (0, 0) _ (setRow_heap _ _ _ _ 29 _ HX2.out) Tryz.underlying29 rfl size29)) rfl ⟨by rw [HR.out]; rfl, below_setRow HB2.out (Nat.le_refl _)⟩
  | some v =>
    obtain ⟨z1, z2, z3, z4⟩ := ver_small hv
    have z5 := build_small hv
    have hnd := num_digs (ver_right hv).patch
    have HR0 : Hid (told s = toldV v) := by unfold Hid told; rw [hv]
    rw [hv] at HP
    clear hv
    simp only [Option.getD_some, Option.isSome_some] at HP
    have HCU := hidM (fun V hG => pcut_any v.pre V hG z4)
    unfold cutV at HCU
    have hfs : (cutPre v.pre).front.size ≤ 200 := by
      unfold cutPre cutAt noCut
      split
      · exact Nat.zero_le _
      · split
        · show (v.pre.extract _ _).size ≤ 200
          rw [ByteArray.size_extract]; omega
        · exact Nat.zero_le _
    have HBA := hidM (fun V => baseOf_any v (cutPre v.pre).front V z1 z2 z3 z5 hfs (by rw [← len_size]; exact hnd.2) (fun c hc => by have := (hnd.1 c hc).1; omega))
    unfold verA at HBA
    unfold toldV at HR0
    clear hnd hfs
    generalize told s = R at *
    by_cases hsh : 0 < v.short
    · as_aux_lemma =>
      have HR : Hid (R = noTold 4) := by unfold Hid; rw [HR0.out, if_pos hsh]
      have g1 : (0 : Int) < (v.short : Int) := by omega
      clear HR0 hsh HCU HBA
      generalize v.major = a at *
      generalize v.minor = b at *
      generalize v.patch = c at *
      generalize v.pre = d at *
      generalize v.build = e at *
      generalize (v.short : Int) = n at *
      go_enter Tryz.func11, Tryz.ntmps11
      go_wp2_with fail
      refine (HP.out _).mono ?_
      rintro _ w1 ⟨rfl, hb1⟩
      have HX1 := hidM (box_kept HX0.out hb1)
      have HB1 := hidM (HB0.out.trans (hb1.mono HB0.out.size))
      have HG1 := hidM (HG0.out.below hb1)
      clear hb1 HX0 HB0 HG0 HP
      have HA := hidM (heap_alloc_new w1 (.cells #[.string ⟨#[]⟩, .string ⟨#[]⟩, .string ⟨#[]⟩, .string ⟨#[]⟩, .string ⟨#[]⟩, .int .i64 0] 43))
      have HAB : Hid (Below w1.heap.size w1 ((w1.alloc (.cells #[.string ⟨#[]⟩, .string ⟨#[]⟩, .string ⟨#[]⟩, .string ⟨#[]⟩, .string ⟨#[]⟩, .int .i64 0] 43)).setRow w1.heap.size #[.string a, .string b, .string c, .string d, .string e, .int .i64 n])) := below_setRow ((Below.refl _ _).alloc (Nat.le_refl _) _) (Nat.le_refl _)
      have HX2 := hidM (box_kept HX1.out HAB.out)
      have HB2 := hidM (HB1.out.trans (HAB.out.mono HB1.out.size))
      have HG2 := hidM (HG1.out.below HAB.out)
      have HV2 : Hid (((w1.alloc (.cells #[.string ⟨#[]⟩, .string ⟨#[]⟩, .string ⟨#[]⟩, .string ⟨#[]⟩, .string ⟨#[]⟩, .int .i64 0] 43)).setRow w1.heap.size #[.string a, .string b, .string c, .string d, .string e, .int .i64 n]).heap[w1.heap.size]? = some (.cells #[.string a, .string b, .string c, .string d, .string e, .int .i64 n] 43 (0, 0))) := setRow_heap _ _ _ _ 43 _ HA.out
      have c5 : ((w1.alloc (.cells #[.string ⟨#[]⟩, .string ⟨#[]⟩, .string ⟨#[]⟩, .string ⟨#[]⟩, .string ⟨#[]⟩, .int .i64 0] 43)).setRow w1.heap.size #[.string a, .string b, .string c, .string d, .string e, .int .i64 n]).cell? ⟨w1.heap.size, 5, none⟩ = some (.int .i64 n) := by rw [cell_of_row _ _ _ _ 43 (0, 0) HV2.out]; rfl
      have c3 : ((w1.alloc (.cells #[.string ⟨#[]⟩, .string ⟨#[]⟩, .string ⟨#[]⟩, .string ⟨#[]⟩, .string ⟨#[]⟩, .int .i64 0] 43)).setRow w1.heap.size #[.string a, .string b, .string c, .string d, .string e, .int .i64 n]).cell? ⟨w1.heap.size, 3, none⟩ = some (.string d) := by rw [cell_of_row _ _ _ _ 43 (0, 0) HV2.out]; rfl
      go_wp2_with (first | (refine wpList_store_row rfl 43 (.tmp 4) (.tmp 11) rfl w1.heap.size #[.string a, .string b, .string c, .string d, .string e, .int .i64 n] rfl rfl 43 #[.string ⟨#[]⟩, .string ⟨#[]⟩, .string ⟨#[]⟩, .string ⟨#[]⟩, .string ⟨#[]⟩, .int .i64 0] HA.out size23 rfl (ones23v _ _ _ _ _ _) ?_) | (refine wpList_store_row rfl 29 (.tmp 2) (.tmp 20) rfl w.heap.size #[.string ⟨#[]⟩, .int .i64 0, .string ⟨#[]⟩] rfl rfl 29 #[.string ⟨#[]⟩, .int .i64 0, .string ⟨#[]⟩] HX2.out size29 rfl (ones29 _ _ _) ?_))
      exact bodyPost_ret (results_box rfl _ _ w.heap.size #[.string ⟨#[]⟩, .int .i64 0, .string ⟨#[]⟩] rfl (run_loadVar_row _ w.heap.size 29 29 _ (0, 0) _ (setRow_heap _ _ _ _ 29 _ HX2.out) Tryz.underlying29 rfl size29)) rfl ⟨by rw [HR.out]; rfl, below_setRow HB2.out (Nat.le_refl _)⟩
    · have g1 : ¬ (0 : Int) < (v.short : Int) := by omega
      rw [if_neg hsh] at HR0
      clear hsh
      generalize cutPre v.pre = C at *
      generalize hBR : baseR v C.front = BR at *
      clear hBR
      generalize v.major = a at *
      generalize v.minor = b at *
      generalize v.patch = c at *
      generalize v.pre = d at *
      generalize v.build = e at *
      generalize (v.short : Int) = n at *
      go_enter Tryz.func11, Tryz.ntmps11
      go_wp2_with fail
      refine (HP.out _).mono ?_
      rintro _ w1 ⟨rfl, hb1⟩
      have HX1 := hidM (box_kept HX0.out hb1)
      have HB1 := hidM (HB0.out.trans (hb1.mono HB0.out.size))
      have HG1 := hidM (HG0.out.below hb1)
      clear hb1 HX0 HB0 HG0 HP
      have HA := hidM (heap_alloc_new w1 (.cells #[.string ⟨#[]⟩, .string ⟨#[]⟩, .string ⟨#[]⟩, .string ⟨#[]⟩, .string ⟨#[]⟩, .int .i64 0] 43))
      have HAB : Hid (Below w1.heap.size w1 ((w1.alloc (.cells #[.string ⟨#[]⟩, .string ⟨#[]⟩, .string ⟨#[]⟩, .string ⟨#[]⟩, .string ⟨#[]⟩, .int .i64 0] 43)).setRow w1.heap.size #[.string a, .string b, .string c, .string d, .string e, .int .i64 n])) := below_setRow ((Below.refl _ _).alloc (Nat.le_refl _) _) (Nat.le_refl _)
      have HX2 := hidM (box_kept HX1.out HAB.out)
      have HB2 := hidM (HB1.out.trans (HAB.out.mono HB1.out.size))
      have HG2 := hidM (HG1.out.below HAB.out)
      have HV2 : Hid (((w1.alloc (.cells #[.string ⟨#[]⟩, .string ⟨#[]⟩, .string ⟨#[]⟩, .string ⟨#[]⟩, .string ⟨#[]⟩, .int .i64 0] 43)).setRow w1.heap.size #[.string a, .string b, .string c, .string d, .string e, .int .i64 n]).heap[w1.heap.size]? = some (.cells #[.string a, .string b, .string c, .string d, .string e, .int .i64 n] 43 (0, 0))) := setRow_heap _ _ _ _ 43 _ HA.out
      have c5 : ((w1.alloc (.cells #[.string ⟨#[]⟩, .string ⟨#[]⟩, .string ⟨#[]⟩, .string ⟨#[]⟩, .string ⟨#[]⟩, .int .i64 0] 43)).setRow w1.heap.size #[.string a, .string b, .string c, .string d, .string e, .int .i64 n]).cell? ⟨w1.heap.size, 5, none⟩ = some (.int .i64 n) := by rw [cell_of_row _ _ _ _ 43 (0, 0) HV2.out]; rfl
      have c3 : ((w1.alloc (.cells #[.string ⟨#[]⟩, .string ⟨#[]⟩, .string ⟨#[]⟩, .string ⟨#[]⟩, .string ⟨#[]⟩, .int .i64 0] 43)).setRow w1.heap.size #[.string a, .string b, .string c, .string d, .string e, .int .i64 n]).cell? ⟨w1.heap.size, 3, none⟩ = some (.string d) := by rw [cell_of_row _ _ _ _ 43 (0, 0) HV2.out]; rfl
      go_wp2_with (refine wpList_store_row rfl 43 (.tmp 4) (.tmp 11) rfl w1.heap.size #[.string a, .string b, .string c, .string d, .string e, .int .i64 n] rfl rfl 43 #[.string ⟨#[]⟩, .string ⟨#[]⟩, .string ⟨#[]⟩, .string ⟨#[]⟩, .string ⟨#[]⟩, .int .i64 0] HA.out size23 rfl (ones23v _ _ _ _ _ _) ?_)
      clear c5 c3
      generalize (w1.alloc (.cells #[.string ⟨#[]⟩, .string ⟨#[]⟩, .string ⟨#[]⟩, .string ⟨#[]⟩, .string ⟨#[]⟩, .int .i64 0] 43)).setRow w1.heap.size #[.string a, .string b, .string c, .string d, .string e, .int .i64 n] = W2 at *
      refine (HCU.out _ HG2.out).mono ?_
      rintro _ w3 ⟨rfl, hb3⟩
      have HL3 := hidM (HAB.out.trans (hb3.mono HAB.out.size))
      have HV3 := hidM (box_kept HV2.out hb3)
      clear hb3 HCU HAB HX2 HB2 HG2 HV2 HG1 HA
      obtain ⟨cf, ct, cr, ok⟩ := C
      simp only at HR0 HBA
      have hz13 := HL3.out.size
      have HA4 := hidM (heap_alloc_new w3 (.cells #[.string ⟨#[]⟩, .int .i64 0, .string ⟨#[]⟩] 29))
      have HAB4 : Hid (Below w3.heap.size w3 ((w3.alloc (.cells #[.string ⟨#[]⟩, .int .i64 0, .string ⟨#[]⟩] 29)).setRow w3.heap.size #[.string ⟨#[]⟩, .int .i64 ct, .string cr])) := below_setRow ((Below.refl _ _).alloc (Nat.le_refl _) _) (Nat.le_refl _)
      have HL4 := hidM (HL3.out.trans (HAB4.out.mono hz13))
      have HX4 := hidM (box_kept HX1.out HL4.out)
      have HV4 := hidM (box_kept HV3.out HAB4.out)
      have HB4 := hidM (HB1.out.trans (HL4.out.mono HB1.out.size))
      have HQ4 : Hid (((w3.alloc (.cells #[.string ⟨#[]⟩, .int .i64 0, .string ⟨#[]⟩] 29)).setRow w3.heap.size #[.string ⟨#[]⟩, .int .i64 ct, .string cr]).heap[w3.heap.size]? = some (.cells #[.string ⟨#[]⟩, .int .i64 ct, .string cr] 29 (0, 0))) := setRow_heap _ _ _ _ 29 _ HA4.out
      cases ok with
      | false =>
        as_aux_lemma =>
        have HR : Hid (R = noTold 3) := HR0.out
        go_wp2_with (first | (refine wpList_store_row rfl 29 (.tmp 7) (.tmp 26) rfl w3.heap.size #[.string ⟨#[]⟩, .int .i64 ct, .string cr] rfl rfl 29 #[.string ⟨#[]⟩, .int .i64 0, .string ⟨#[]⟩] HA4.out size29 rfl (ones29 _ _ _) ?_) | (refine wpList_store_row rfl 29 (.tmp 2) (.tmp 30) rfl w.heap.size #[.string ⟨#[]⟩, .int .i64 0, .string ⟨#[]⟩] rfl rfl 29 #[.string ⟨#[]⟩, .int .i64 0, .string ⟨#[]⟩] HX4.out size29 rfl (ones29 _ _ _) ?_))
        exact bodyPost_ret (results_box rfl _ _ w.heap.size #[.string ⟨#[]⟩, .int .i64 0, .string ⟨#[]⟩] rfl (run_loadVar_row _ w.heap.size 29 29 _ (0, 0) _ (setRow_heap _ _ _ _ 29 _ HX4.out) Tryz.underlying29 rfl size29)) rfl ⟨by rw [HR.out]; rfl, below_setRow HB4.out (Nat.le_refl _)⟩
      | true =>
        rw [if_pos rfl] at HR0
        go_wp2_with (first | (refine wpList_store_row rfl 29 (.tmp 7) (.tmp 26) rfl w3.heap.size #[.string ⟨#[]⟩, .int .i64 ct, .string cr] rfl rfl 29 #[.string ⟨#[]⟩, .int .i64 0, .string ⟨#[]⟩] HA4.out size29 rfl (ones29 _ _ _) ?_) | (refine wpList_load_row rfl 43 (.tmp 4) rfl w1.heap.size rfl 43 #[.string a, .string b, .string c, .string d, .string e, .int .i64 n] (0, 0) _ HV4.out Tryz.underlying43 rfl size23 ?_))
        refine (HBA.out _).mono ?_
        rintro _ w5 ⟨rfl, hb5⟩
        obtain ⟨br, bo⟩ := BR
        simp only at HR0
        have HQ5 := hidM (box_kept HQ4.out hb5)
        have HL5 := hidM (HL4.out.trans (hb5.mono HL4.out.size))
        clear hb5 HQ4 HL4 HX4 HV4 HB4 HAB4 HA4 HBA HV3 HL3
        have c0 : w5.cell? ⟨w3.heap.size, 0, none⟩ = some (.string ⟨#[]⟩) := by rw [cell_of_row _ _ _ _ 29 (0, 0) HQ5.out]; rfl
        have f0 : w5.frozen? ⟨w3.heap.size, 0, none⟩ = false := by simp [World.frozen?, HQ5.out]
        have HL6 : Hid (Below w1.heap.size w1 (w5.setCell ⟨w3.heap.size, 0, none⟩ (.string br))) := HL5.out.setCell hz13 _
        have HX6 := hidM (box_kept HX1.out HL6.out)
        have HB6 := hidM (HB1.out.trans (HL6.out.mono HB1.out.size))
        have HQ6 : Hid ((w5.setCell ⟨w3.heap.size, 0, none⟩ (.string br)).heap[w3.heap.size]? = some (.cells #[.string br, .int .i64 ct, .string cr] 29 (0, 0))) := by
          unfold Hid
          rw [setCell_eq_setRow w5 _ 0 #[.string ⟨#[]⟩, .int .i64 ct, .string cr] 29 (0, 0) _ HQ5.out]
          exact setRow_heap w5 _ _ _ 29 (0, 0) HQ5.out
        cases bo with
        | false =>
          as_aux_lemma =>
          have HR : Hid (R = noTold 3) := HR0.out
          go_wp2_with (refine wpList_store_row rfl 29 (.tmp 2) (.tmp 40) rfl w.heap.size #[.string ⟨#[]⟩, .int .i64 0, .string ⟨#[]⟩] rfl rfl 29 #[.string ⟨#[]⟩, .int .i64 0, .string ⟨#[]⟩] HX6.out size29 rfl (ones29 _ _ _) ?_)
          exact bodyPost_ret (results_box rfl _ _ w.heap.size #[.string ⟨#[]⟩, .int .i64 0, .string ⟨#[]⟩] rfl (run_loadVar_row _ w.heap.size 29 29 _ (0, 0) _ (setRow_heap _ _ _ _ 29 _ HX6.out) Tryz.underlying29 rfl size29)) rfl ⟨by rw [HR.out]; rfl, below_setRow HB6.out (Nat.le_refl _)⟩
        | true =>
          as_aux_lemma =>
          have HR : Hid (R = ⟨br, ct, cr, 0⟩) := HR0.out
          go_wp2_with (first | (refine wpList_load_row rfl 29 (.tmp 7) rfl w3.heap.size rfl 29 #[.string br, .int .i64 ct, .string cr] (0, 0) _ HQ6.out Tryz.underlying29 rfl size29 ?_) | (refine wpList_store_row rfl 29 (.tmp 2) (.tmp 41) rfl w.heap.size #[.string br, .int .i64 ct, .string cr] rfl rfl 29 #[.string ⟨#[]⟩, .int .i64 0, .string ⟨#[]⟩] HX6.out size29 rfl (ones29 _ _ _) ?_))
          exact bodyPost_ret (results_box rfl _ _ w.heap.size #[.string br, .int .i64 ct, .string cr] rfl (run_loadVar_row _ w.heap.size 29 29 _ (0, 0) _ (setRow_heap _ _ _ _ 29 _ HX6.out) Tryz.underlying29 rfl size29)) rfl ⟨by rw [HR.out]; rfl, below_setRow HB6.out (Nat.le_refl _)⟩
end Go.Proofs.YtmhjdahmmdfbcaaGreatDoor
