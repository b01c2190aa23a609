/-
  The law PseudoPlain, walked.
-/
import Derived.Test.YtmhjdahmmdfbcaaGreatDoorPsO
import Derived.Test.YtmhjdahmmdfbcaaGreatDoorPsJ
namespace Go.Proofs.YtmhjdahmmdfbcaaGreatDoor
open Go.RowKit

theorem told_none (s : ByteArray) (h : (told s).err ≠ 0) : told s = noTold (told s).err := by
  unfold told at h ⊢
  split
  · rfl
  · rename_i v hv
    rw [hv] at h
    simp only at h
    unfold toldV at h ⊢
    split
    · rfl
    · split
      · split
        · rename_i h1 h2 h3; rw [if_neg h1, if_pos h2, if_pos h3] at h; exact absurd rfl h
        · rfl
      · rfl
set_option maxHeartbeats 4000000 in
set_option maxRecDepth 100000 in
theorem pplain_walk (s : ByteArray) (w : World) (hG : GT w) (hs : s.size ≤ 140737488355328) :
    Calls Tryz.prog 6 #[.string s] w fun e w' => e = .returned (.bool true) ∧ Below w.heap.size w w' := by
  have HP := hidM (pparse_any s w hG (by omega))
  unfold toldR at HP
  have HAW := hidM (fun V (h : GT V) => pawake_any V h)
  have HB0 := hidM (Below.refl w.heap.size w)
  have HG0 := hidM hG
  clear hG
  by_cases he : (told s).err = 0
  · have HIC := hidM (fun V (h : GT V) => is_any (canS s) V h (by
      unfold canS
      split
      · decide
      · rename_i v hv
        have hw := ver_small hv
        rw [can_len]
        split <;> omega))
    have HCA := hidM (fun V => canonical_any s V (by omega))
    have HPS := hidM (fun V => parse_any s V (by omega))
    obtain ⟨v, hv⟩ : ∃ v, parseR s = some v := by
      cases hv : parseR s with
      | none => unfold told at he; rw [hv] at he; cases he
      | some v => exact ⟨v, rfl⟩
    have htv : told s = toldV v := by unfold told; rw [hv]
    rw [htv] at he HP
    have hcan : canS s = canV v := by unfold canS; rw [hv]
    have hbase := told_base hv he
    obtain ⟨hsh, hok, -, -, hrev⟩ := told_good he
    obtain ⟨_, -, -, hr12, hpre⟩ := cut_ok hok
    have htc := told_can hv he
    rw [hcan, htc] at HIC
    rw [hcan] at HCA
    have hne : (canV v).toList.isEmpty = false := by rw [empty_beq]; exact can_size v
    have hcz : (canV v).size ≤ 1000 := by
      have hw := ver_small hv
      rw [can_len]
      split <;> omega
    have ce : canV v ++ (⟨#[]⟩ : ByteArray) = canV v := by apply ByteArray.ext; rw [ByteArray.data_append]; simp
    rw [hv] at HPS
    simp only [Option.getD_some, Option.isSome_some] at HPS
    rw [hsh] at HPS
    have hrs : ((toldV v).rev.size : Int) = 12 := by rw [hrev, hr12]; rfl
    have hpe : v.pre.toList.isEmpty = false := by rw [empty_beq]; exact hpre
    have hbz : (toldV v).base.size ≤ 9223372036854775807 := by
      rcases hbase with h | ⟨h, _⟩
      · have h2 : (toldV v).base.data.toList = [] := by rw [empty_beq] at h; exact List.isEmpty_iff.1 h
        rw [← len_size, h2]; decide
      · have : (toldV v).base.size ≤ 100 := by
          unfold parseR at h
          split at h
          · rename_i hc; simp only [Bool.and_eq_true, decide_eq_true_eq] at hc; exact hc.1
          · cases h
        omega
    have HPB := hidM (fun V => parse_any (toldV v).base V hbz)
    have HCB := hidM (fun V => compare_any (toldV v).base s V hbz (by omega))
    have HBASE := hidM hbase
    clear hbase hsh hok hrev hr12 hpre htc hcan htv hv
    rw [he] at HP
    clear he hbz
    generalize (toldV v).base = b at *
    generalize (toldV v).time = n at *
    generalize (toldV v).rev = r at *
    generalize canV v = C at *
    generalize v.major = a at *
    generalize v.minor = mi at *
    generalize v.patch = pa at *
    generalize v.pre = d at *
    generalize v.build = bu at *
    generalize (parseR b).isSome = pk at *
    generalize ((parseR b).getD noVer).major = ba at *
    generalize ((parseR b).getD noVer).minor = bb at *
    generalize ((parseR b).getD noVer).patch = bc at *
    generalize ((parseR b).getD noVer).pre = bd at *
    generalize ((parseR b).getD noVer).build = be at *
    generalize (((parseR b).getD noVer).short : Int) = bn at *
    generalize cmpS b s = cb at *
    go_enter Tryz.func6, Tryz.ntmps6
    go_wp2_with fail
    refine (HP.out).mono ?_
    rintro _ w1 ⟨rfl, hb⟩
    have HB1 := hidM (HB0.out.trans (hb.mono HB0.out.size))
    have HG1 := hidM (HG0.out.below hb)
    clear hb
    have HA1 := hidM (heap_alloc_new w1 (.cells #[.string ⟨#[]⟩, .int .i64 0, .string ⟨#[]⟩] 29))
    have HAB1 : Hid (Below w1.heap.size w1 ((w1.alloc (.cells #[.string ⟨#[]⟩, .int .i64 0, .string ⟨#[]⟩] 29)).setRow w1.heap.size #[.string b, .int .i64 n, .string r])) := below_setRow ((Below.refl _ _).alloc (Nat.le_refl _) _) (Nat.le_refl _)
    have HQ1 : Hid (((w1.alloc (.cells #[.string ⟨#[]⟩, .int .i64 0, .string ⟨#[]⟩] 29)).setRow w1.heap.size #[.string b, .int .i64 n, .string r]).heap[w1.heap.size]? = some (.cells #[.string b, .int .i64 n, .string r] 29 (0, 0))) := setRow_heap _ _ _ _ 29 _ HA1.out
    have HB2 := hidM (HB1.out.trans (HAB1.out.mono HB1.out.size))
    have HG2 := hidM (HG1.out.below HAB1.out)
    go_wp2_with (refine wpList_store_row rfl 29 (.tmp 3) (.tmp 12) rfl w1.heap.size #[.string b, .int .i64 n, .string r] rfl rfl 29 #[.string ⟨#[]⟩, .int .i64 0, .string ⟨#[]⟩] HA1.out size29 rfl (ones29 _ _ _) ?_)
    generalize (w1.alloc (.cells #[.string ⟨#[]⟩, .int .i64 0, .string ⟨#[]⟩] 29)).setRow w1.heap.size #[.string b, .int .i64 n, .string r] = W2 at *
    refine (HPS.out _).mono ?_
    rintro _ w3 ⟨rfl, hb⟩
    have HB3 := hidM (HB2.out.trans (hb.mono HB2.out.size))
    have HG3 := hidM (HG2.out.below hb)
    have HQ3 := hidM (box_kept HQ1.out hb)
    clear hb
    have HA3 := hidM (heap_alloc_new w3 (.cells #[.string ⟨#[]⟩, .string ⟨#[]⟩, .string ⟨#[]⟩, .string ⟨#[]⟩, .string ⟨#[]⟩, .int .i64 0] 43))
    have HAB3 : Hid (Below w3.heap.size w3 ((w3.alloc (.cells #[.string ⟨#[]⟩, .string ⟨#[]⟩, .string ⟨#[]⟩, .string ⟨#[]⟩, .string ⟨#[]⟩, .int .i64 0] 43)).setRow w3.heap.size #[.string a, .string mi, .string pa, .string d, .string bu, .int .i64 0])) := below_setRow ((Below.refl _ _).alloc (Nat.le_refl _) _) (Nat.le_refl _)
    have HQ3x : Hid (((w3.alloc (.cells #[.string ⟨#[]⟩, .string ⟨#[]⟩, .string ⟨#[]⟩, .string ⟨#[]⟩, .string ⟨#[]⟩, .int .i64 0] 43)).setRow w3.heap.size #[.string a, .string mi, .string pa, .string d, .string bu, .int .i64 0]).heap[w3.heap.size]? = some (.cells #[.string a, .string mi, .string pa, .string d, .string bu, .int .i64 0] 43 (0, 0))) := setRow_heap _ _ _ _ 43 _ HA3.out
    have HB4 := hidM (HB3.out.trans (HAB3.out.mono HB3.out.size))
    have HG4 := hidM (HG3.out.below HAB3.out)
    have HQ4 := hidM (box_kept HQ3.out HAB3.out)
    have d3 : ((w3.alloc (.cells #[.string ⟨#[]⟩, .string ⟨#[]⟩, .string ⟨#[]⟩, .string ⟨#[]⟩, .string ⟨#[]⟩, .int .i64 0] 43)).setRow w3.heap.size #[.string a, .string mi, .string pa, .string d, .string bu, .int .i64 0]).cell? ⟨w3.heap.size, 3, none⟩ = some (.string d) := by rw [cell_of_row _ _ _ _ 43 (0, 0) HQ3x.out]; rfl
    have d5 : ((w3.alloc (.cells #[.string ⟨#[]⟩, .string ⟨#[]⟩, .string ⟨#[]⟩, .string ⟨#[]⟩, .string ⟨#[]⟩, .int .i64 0] 43)).setRow w3.heap.size #[.string a, .string mi, .string pa, .string d, .string bu, .int .i64 0]).cell? ⟨w3.heap.size, 5, none⟩ = some (.int .i64 0) := by rw [cell_of_row _ _ _ _ 43 (0, 0) HQ3x.out]; rfl
    have p0 : ((w3.alloc (.cells #[.string ⟨#[]⟩, .string ⟨#[]⟩, .string ⟨#[]⟩, .string ⟨#[]⟩, .string ⟨#[]⟩, .int .i64 0] 43)).setRow w3.heap.size #[.string a, .string mi, .string pa, .string d, .string bu, .int .i64 0]).cell? ⟨w1.heap.size, 0, none⟩ = some (.string b) := by rw [cell_of_row _ _ _ _ 29 (0, 0) HQ4.out]; rfl
    have p2 : ((w3.alloc (.cells #[.string ⟨#[]⟩, .string ⟨#[]⟩, .string ⟨#[]⟩, .string ⟨#[]⟩, .string ⟨#[]⟩, .int .i64 0] 43)).setRow w3.heap.size #[.string a, .string mi, .string pa, .string d, .string bu, .int .i64 0]).cell? ⟨w1.heap.size, 2, none⟩ = some (.string r) := by rw [cell_of_row _ _ _ _ 29 (0, 0) HQ4.out]; rfl
    go_wp2_with (refine wpList_store_row rfl 43 (.tmp 5) (.tmp 30) rfl w3.heap.size #[.string a, .string mi, .string pa, .string d, .string bu, .int .i64 0] rfl rfl 43 #[.string ⟨#[]⟩, .string ⟨#[]⟩, .string ⟨#[]⟩, .string ⟨#[]⟩, .string ⟨#[]⟩, .int .i64 0] HA3.out size23 rfl (ones23v _ _ _ _ _ _) ?_)
    clear d3 d5 p0 p2
    generalize (w3.alloc (.cells #[.string ⟨#[]⟩, .string ⟨#[]⟩, .string ⟨#[]⟩, .string ⟨#[]⟩, .string ⟨#[]⟩, .int .i64 0] 43)).setRow w3.heap.size #[.string a, .string mi, .string pa, .string d, .string bu, .int .i64 0] = W4 at *
    refine (HPB.out _).mono ?_
    rintro _ w5 ⟨rfl, hb⟩
    have HB5 := hidM (HB4.out.trans (hb.mono HB4.out.size))
    have HG5 := hidM (HG4.out.below hb)
    have HQ5 := hidM (box_kept HQ4.out hb)
    clear hb
    have HA5x := hidM (heap_alloc_new w5 (.cells #[.string ⟨#[]⟩, .string ⟨#[]⟩, .string ⟨#[]⟩, .string ⟨#[]⟩, .string ⟨#[]⟩, .int .i64 0] 43))
    have HAB5x : Hid (Below w5.heap.size w5 ((w5.alloc (.cells #[.string ⟨#[]⟩, .string ⟨#[]⟩, .string ⟨#[]⟩, .string ⟨#[]⟩, .string ⟨#[]⟩, .int .i64 0] 43)).setRow w5.heap.size #[.string ba, .string bb, .string bc, .string bd, .string be, .int .i64 bn])) := below_setRow ((Below.refl _ _).alloc (Nat.le_refl _) _) (Nat.le_refl _)
    have HQ5x : Hid (((w5.alloc (.cells #[.string ⟨#[]⟩, .string ⟨#[]⟩, .string ⟨#[]⟩, .string ⟨#[]⟩, .string ⟨#[]⟩, .int .i64 0] 43)).setRow w5.heap.size #[.string ba, .string bb, .string bc, .string bd, .string be, .int .i64 bn]).heap[w5.heap.size]? = some (.cells #[.string ba, .string bb, .string bc, .string bd, .string be, .int .i64 bn] 43 (0, 0))) := setRow_heap _ _ _ _ 43 _ HA5x.out
    have HB6 := hidM (HB5.out.trans (HAB5x.out.mono HB5.out.size))
    have HG6 := hidM (HG5.out.below HAB5x.out)
    have HQ6 := hidM (box_kept HQ5.out HAB5x.out)
    go_wp2_with (refine wpList_store_row rfl 43 (.tmp 7) (.tmp 54) rfl w5.heap.size #[.string ba, .string bb, .string bc, .string bd, .string be, .int .i64 bn] rfl rfl 43 #[.string ⟨#[]⟩, .string ⟨#[]⟩, .string ⟨#[]⟩, .string ⟨#[]⟩, .string ⟨#[]⟩, .int .i64 0] HA5x.out size23 rfl (ones23v _ _ _ _ _ _) ?_)
    generalize (w5.alloc (.cells #[.string ⟨#[]⟩, .string ⟨#[]⟩, .string ⟨#[]⟩, .string ⟨#[]⟩, .string ⟨#[]⟩, .int .i64 0] 43)).setRow w5.heap.size #[.string ba, .string bb, .string bc, .string bd, .string be, .int .i64 bn] = W6 at *
    refine (HAW.out _ HG6.out).mono ?_
    rintro _ w7 ⟨rfl, hb⟩
    have HB7 := hidM (HB6.out.trans (hb.mono HB6.out.size))
    have HG7 := hidM (HG6.out.below hb)
    have HQ7 := hidM (box_kept HQ6.out hb)
    clear hb
    have p0 : w7.cell? ⟨w1.heap.size, 0, none⟩ = some (.string b) := by rw [cell_of_row _ _ _ _ 29 (0, 0) HQ7.out]; rfl
    cases hbe : b.toList.isEmpty with
    | true =>
      as_aux_lemma =>
      go_wp2_with fail
      refine (HCA.out _).mono ?_
      rintro _ w8 ⟨rfl, hb⟩
      have HB8 := hidM (HB7.out.trans (hb.mono HB7.out.size))
      have HG8 := hidM (HG7.out.below hb)
      clear hb
      go_wp2_with fail
      refine (HIC.out _ HG8.out).mono ?_
      rintro _ w9 ⟨rfl, hb⟩
      have HB9 := hidM (HB8.out.trans (hb.mono HB8.out.size))
      have HG9 := hidM (HG8.out.below hb)
      clear hb
      go_wp2_with fail
      refine (HCA.out _).mono ?_
      rintro _ w10 ⟨rfl, hb⟩
      have HB10 := hidM (HB9.out.trans (hb.mono HB9.out.size))
      have HG10 := hidM (HG9.out.below hb)
      clear hb
      go_wp2
      go_ret
      exact ⟨rfl, HB10.out⟩
    | false =>
      as_aux_lemma =>
      obtain ⟨hpk, hcb⟩ : pk = true ∧ cb = -1 := by
        rcases HBASE.out with h | h
        · rw [hbe] at h; cases h
        · exact h
      subst hpk hcb
      go_wp2_with fail
      refine (HCB.out _).mono ?_
      rintro _ w8 ⟨rfl, hb⟩
      have HB8 := hidM (HB7.out.trans (hb.mono HB7.out.size))
      have HG8 := hidM (HG7.out.below hb)
      clear hb
      go_wp2_with fail
      refine (HCA.out _).mono ?_
      rintro _ w9 ⟨rfl, hb⟩
      have HB9 := hidM (HB8.out.trans (hb.mono HB8.out.size))
      have HG9 := hidM (HG8.out.below hb)
      clear hb
      go_wp2_with fail
      refine (HIC.out _ HG9.out).mono ?_
      rintro _ w10 ⟨rfl, hb⟩
      have HB10 := hidM (HB9.out.trans (hb.mono HB9.out.size))
      have HG10 := hidM (HG9.out.below hb)
      clear hb
      go_wp2_with fail
      refine (HCA.out _).mono ?_
      rintro _ w11 ⟨rfl, hb⟩
      have HB11 := hidM (HB10.out.trans (hb.mono HB10.out.size))
      have HG11 := hidM (HG10.out.below hb)
      clear hb
      go_wp2
      go_ret
      exact ⟨rfl, HB11.out⟩
  · as_aux_lemma =>
    have HI := hidM (fun V (h : GT V) => is_any s V h (by omega))
    have htn := told_none s he
    have hb0 : (told s).base = ⟨#[]⟩ := by rw [htn]; rfl
    have ht0 : (told s).time = 0 := by rw [htn]; rfl
    have hr0 : (told s).rev = ⟨#[]⟩ := by rw [htn]; rfl
    rw [hb0, ht0, hr0] at HP
    clear htn hb0 ht0 hr0
    generalize (told s).err = er at *
    have b1 : (er != 0) = true := by simpa using he
    have b2 : (er == 0) = false := by simpa using he
    rw [b2] at HI
    go_enter Tryz.func6, Tryz.ntmps6
    go_wp2_with fail
    refine (HP.out).mono ?_
    rintro _ w1 ⟨rfl, hb⟩
    have HB1 := hidM (HB0.out.trans (hb.mono HB0.out.size))
    have HG1 := hidM (HG0.out.below hb)
    clear hb
    have HA1 := hidM (heap_alloc_new w1 (.cells #[.string ⟨#[]⟩, .int .i64 0, .string ⟨#[]⟩] 29))
    have HAB1 : Hid (Below w1.heap.size w1 ((w1.alloc (.cells #[.string ⟨#[]⟩, .int .i64 0, .string ⟨#[]⟩] 29)).setRow w1.heap.size #[.string ⟨#[]⟩, .int .i64 0, .string ⟨#[]⟩])) := below_setRow ((Below.refl _ _).alloc (Nat.le_refl _) _) (Nat.le_refl _)
    have HQ1 : Hid (((w1.alloc (.cells #[.string ⟨#[]⟩, .int .i64 0, .string ⟨#[]⟩] 29)).setRow w1.heap.size #[.string ⟨#[]⟩, .int .i64 0, .string ⟨#[]⟩]).heap[w1.heap.size]? = some (.cells #[.string ⟨#[]⟩, .int .i64 0, .string ⟨#[]⟩] 29 (0, 0))) := setRow_heap _ _ _ _ 29 _ HA1.out
    have HB2 := hidM (HB1.out.trans (HAB1.out.mono HB1.out.size))
    have HG2 := hidM (HG1.out.below HAB1.out)
    go_wp2_with (refine wpList_store_row rfl 29 (.tmp 3) (.tmp 12) rfl w1.heap.size #[.string ⟨#[]⟩, .int .i64 0, .string ⟨#[]⟩] rfl rfl 29 #[.string ⟨#[]⟩, .int .i64 0, .string ⟨#[]⟩] HA1.out size29 rfl (ones29 _ _ _) ?_)
    generalize (w1.alloc (.cells #[.string ⟨#[]⟩, .int .i64 0, .string ⟨#[]⟩] 29)).setRow w1.heap.size #[.string ⟨#[]⟩, .int .i64 0, .string ⟨#[]⟩] = W2 at *
    refine (HAW.out _ HG2.out).mono ?_
    rintro _ w3 ⟨rfl, hb⟩
    have HB3 := hidM (HB2.out.trans (hb.mono HB2.out.size))
    have HG3 := hidM (HG2.out.below hb)
    have HQ3 := hidM (box_kept HQ1.out hb)
    clear hb
    go_wp2_with fail
    refine (HI.out _ HG3.out).mono ?_
    rintro _ w4 ⟨rfl, hb⟩
    have HB4 := hidM (HB3.out.trans (hb.mono HB3.out.size))
    have HG4 := hidM (HG3.out.below hb)
    have HQ4 := hidM (box_kept HQ3.out hb)
    clear hb
    have c0 : w4.cell? ⟨w1.heap.size, 0, none⟩ = some (.string ⟨#[]⟩) := by rw [cell_of_row _ _ _ _ 29 (0, 0) HQ4.out]; rfl
    have c1 : w4.cell? ⟨w1.heap.size, 1, none⟩ = some (.int .i64 0) := by rw [cell_of_row _ _ _ _ 29 (0, 0) HQ4.out]; rfl
    have c2 : w4.cell? ⟨w1.heap.size, 2, none⟩ = some (.string ⟨#[]⟩) := by rw [cell_of_row _ _ _ _ 29 (0, 0) HQ4.out]; rfl
    go_wp2
    go_ret
    exact ⟨rfl, HB4.out⟩
end Go.Proofs.YtmhjdahmmdfbcaaGreatDoor
