/-
  Walks of huff: fits, layRows.
-/
import Derived.Test.YtpidofgmbjkbiaaHufA
namespace Go.Proofs.Ytpidofgmbjkbiaa
open Go.RowKit

/-- The cells of all rows. -/
def rowsV (g : Nat → Value) : List Value := (List.range 48).map g
theorem TBox.range {w : World} {b : Nat} {g : Nat → Value} (h : TBox w b g) : w.rangeAt b 0 (rowsV g) := by
  intro j v hv
  have hj : j < 48 := by
    have := (List.getElem?_eq_some_iff.1 hv).1
    simpa [rowsV] using this
  rw [Nat.zero_add, h.cell j (by omega)]
  unfold rowsV at hv
  rw [List.getElem?_map, List.getElem?_range hj] at hv
  simpa using hv
theorem rows_cut (g : Nat → Value) (k : Nat) (hk : k < 16) : ((rowsV g).toArray.extract (k * 3) (k * 3 + 3)) = #[g (k * 3), g (k * 3 + 1), g (k * 3 + 2)] := by
  apply Array.ext'
  unfold rowsV
  simp only [Array.toList_extract, List.extract_eq_take_drop]
  apply List.ext_getElem?
  intro j
  rw [List.getElem?_take]
  by_cases hj : j < 3
  · rw [if_pos (by omega), List.getElem?_drop, List.getElem?_map, List.getElem?_range (by omega)]
    match j, hj with
    | 0, _ => rfl
    | 1, _ => rfl
    | 2, _ => rfl
  · rw [if_neg (by omega)]
    simp
    omega
theorem info61 : (Try.prog.info? 61).map (·.size) = some 3 := by kernel_rfl
theorem index_rows (g : Nat → Value) (k : Nat) (hk : k < 16) (v : World) : (Instr.index 62 (.agg (rowsV g).toArray) (.int .i64 (k : Int))).run Try.prog v = .ok (.agg #[g (k * 3), g (k * 3 + 1), g (k * 3 + 2)]) v := by
  have h1 : (0 : Int) ≤ (k : Int) ∧ (k : Int) < (16 : Nat) := by omega
  have h5 : (sizeOf 61).run Try.prog v = .ok 3 v := by
    have hz := info61
    cases hq : Try.prog.info? 61 with
    | none => simp [hq] at hz
    | some i =>
      have hi : i.size = 3 := by simpa [hq] using hz
      simp [sizeOf, typeInfo, hq, hi]
  simp only [Instr.index, asIntOf, Sem.run_bind, Sem.run_pure, Result.andThen_ok, run_underlying Try.underlying62, if_pos h1, h5, Int.toNat_natCast]
  have hag : (isAgg 61).run Try.prog v = .ok true v := by simp [isAgg, run_underlying Try.underlying61]
  simp only [part, Sem.run_bind, hag, Result.andThen_ok, if_true, h5, Sem.run_pure, rows_cut g k hk]
theorem kr_le (ln : Nat → Nat) (L n : Nat) : kr ln L n ≤ n * (L * 32768) := by
  induction n with
  | zero => exact Nat.zero_le _
  | succ n ih =>
    rw [kr, Nat.add_mul, Nat.one_mul]
    have h1 := cnt_le ln (n + 1) L
    have h2 : 2 ^ (15 - (n + 1)) ≤ 2 ^ 15 := Nat.pow_le_pow_right (by decide) (by omega)
    have h3 : cnt ln (n + 1) L * 2 ^ (15 - (n + 1)) ≤ L * 2 ^ 15 := Nat.mul_le_mul h1 h2
    omega
theorem fit_step (ln : Nat → Nat) (L k : Nat) (hk : k < 16) (hL : L ≤ 320) : ∃ p x : Nat, (32768 : Int) / 2 ^ k = (p : Int) ∧ ((cnt ln k L : Nat) : Int) * (p : Int) = (x : Int) ∧ x ≤ 10485760 ∧ kr ln L (k - 1) + x = kr ln L (k + 1 - 1) ∧ kr ln L (k - 1) ≤ 167772160 := by
  have h1 := cnt_le ln k L
  have h2 : 2 ^ (15 - k) ≤ 2 ^ 15 := Nat.pow_le_pow_right (by decide) (by omega)
  have h3 : cnt ln k L * 2 ^ (15 - k) ≤ 320 * 2 ^ 15 := Nat.mul_le_mul (by omega) h2
  refine ⟨2 ^ (15 - k), cnt ln k L * 2 ^ (15 - k), ?_, by simp, by simpa using h3, ?_, ?_⟩
  · have e : (32768 : Nat) / 2 ^ k = 2 ^ (15 - k) := by
      rw [show (32768 : Nat) = 2 ^ (15 - k) * 2 ^ k by rw [← Nat.pow_add, show 15 - k + k = 15 by omega]]
      exact Nat.mul_div_cancel _ (Nat.pow_pos (by decide))
    rw [← e]; simp
  · rcases k with _ | k
    · simp [cnt_zero]
    · simp only [Nat.add_sub_cancel]
      rw [kr]
  · have h4 := kr_le ln L (k - 1)
    have h5 : (k - 1) * (L * 32768) ≤ 15 * (320 * 32768) := Nat.mul_le_mul (by omega) (Nat.mul_le_mul_right _ hL)
    omega
theorem size62 : (Try.prog.info? 62).map (·.size) = some 48 := by kernel_rfl
set_option maxHeartbeats 2000000 in
theorem fits_any (b : Nat) (ln : Nat → Nat) (len : Nat) (g : Nat → Value) (f a : Nat → Nat) (w : World) (hb : TBox w b g) (hr : RowsAre g f (fun n => cnt ln n len) a) (hl : len ≤ 320) (hlg : g 48 = .int .i64 (lgs ln len : Int)) (h15 : ∀ i, ln i ≤ 15) :
    Calls Try.prog 28 #[.pointer (some ⟨b, 0, none⟩)] w fun e w' => e = .returned (.bool (decide (kr ln len 15 = 32768 ∨ lgs ln len = 0 ∨ (lgs ln len = 1 ∧ cnt ln 1 len = 1)))) ∧ Below w.heap.size w w' := by
  have HB := hidM hb
  have c48 := hb.cell 48 (by decide)
  rw [hlg] at c48
  have HRG := hidM hb.range
  have HSZ : Hid ((Try.prog.info? 62).map (·.size) = some (rowsV g).length) := by unfold Hid; rw [show (rowsV g).length = 48 by simp [rowsV]]; exact size62
  have HIX := hidM (index_rows g)
  have HRR := hidM hr
  have c4 := hb.cell 4 (by decide)
  rw [(hr 1 (by decide)).2.1] at c4
  have HL1 : Hid (cnt ln 1 len ≤ len) := cnt_le ln 1 len
  have HLG : Hid (lgs ln len ≤ 15) := lgs_le ln 15 h15 len
  clear hb hr hlg h15
  generalize hV : decide (kr ln len 15 = 32768 ∨ lgs ln len = 0 ∨ (lgs ln len = 1 ∧ cnt ln 1 len = 1)) = V
  have HV := hidM hV
  clear hV
  go_enter Try.func28, Try.ntmps28
  go_wp2_with (first
    | (refine wpList_load_mid rfl 62 (.tmp 9) rfl b 0 rfl (rowsV g) _ HRG.out Try.underlying62 rfl HSZ.out ?_))
  generalize (rowsV g).toArray = R at *
  go_wp2
  go_loopw [3, 4, 5, 11] (fun sm _ _ i wr => ∃ k : Nat, k ≤ 16 ∧ i = .int .i64 k ∧ sm = .int .u32 (kr ln len (k - 1) : Int) ∧ Below w.heap.size w wr) (fun _ _ _ i _ => 16 - (intOf i).toNat)
  case atStart => exact ⟨0, by decide, rfl, rfl, Below.refl _ _⟩
  case round =>
    obtain ⟨k, hk, rfl, rfl, hbr⟩ := hrel
    have HBR := hidM hbr
    by_cases hlt : k < 16
    · have hix := HIX.out k hlt
      obtain ⟨r1, r2, r3⟩ := HRR.out k hlt
      have r2' : g (k * 3 + 1) = .int .u32 ((cnt ln k len : Nat) : Int) := r2
      rw [r1, r2', r3] at hix
      obtain ⟨p, x, hp, hx, hx2, hks, hkb⟩ := fit_step ln len k hlt hl
      have HKS := hidM hks
      have hcl := cnt_le ln k len
      generalize hc : cnt ln k len = c at *
      generalize kr ln len (k - 1) = sm at *
      have HB2 : Hid (Below w.heap.size w (wr.alloc (.cells #[.int .u32 (f k : Int), .int .u32 (c : Int), .int .u32 (a k : Int)] 61))) := hbr.alloc hbr.size _
      clear hks r1 r2 r2' r3 hc hbr
      go_wp2
      go_quiet (fail)
      go_wp2
      go_roundw
      case rel => exact ⟨k + 1, by omega, by go_num, val_int (by rw [← HKS.out]; omega), below_drewN HB2.out _⟩
      case measure => simp [intOf]; omega
    · have hks : k = 16 := by omega
      subst hks
      have d48 := (hbr.cell (p := ⟨b, 48, none⟩) HB.out.lt).trans c48
      have d4 := (hbr.cell (p := ⟨b, 4, none⟩) HB.out.lt).trans c4
      clear hbr c48 c4
      have e15 : kr ln len (16 - 1) = kr ln len 15 := rfl
      rw [e15]
      have hl1 := HL1.out
      have hlg := HLG.out
      generalize kr ln len 15 = S at *
      generalize lgs ln len = lg at *
      generalize cnt ln 1 len = c1 at *
      rcases (by omega : lg = 0 ∨ (lg = 1 ∧ c1 = 1) ∨ (lg = 1 ∧ c1 ≠ 1) ∨ 2 ≤ lg) with h0 | ⟨h0, h1⟩ | ⟨h0, h1⟩ | h0
      · subst h0
        have HVV : Hid (V = true) := by unfold Hid; rw [← HV.out]; simp
        by_cases hS : S = 32768
        · subst hS
          go_wp2
          go_ret
          exact ⟨by rw [HVV.out]; rfl, HBR.out⟩
        · have hSb : ((S : Int) == 32768) = false := by simp; omega
          go_wp2
          go_ret
          exact ⟨by rw [HVV.out]; rfl, HBR.out⟩
      · subst h0 h1
        have HVV : Hid (V = true) := by unfold Hid; rw [← HV.out]; simp
        by_cases hS : S = 32768
        · subst hS
          go_wp2
          go_ret
          exact ⟨by rw [HVV.out]; rfl, HBR.out⟩
        · have hSb : ((S : Int) == 32768) = false := by simp; omega
          go_wp2
          go_ret
          exact ⟨by rw [HVV.out]; rfl, HBR.out⟩
      · subst h0
        have hcb : ((c1 : Int) == 1) = false := by simp; omega
        by_cases hS : S = 32768
        · subst hS
          have HVV : Hid (V = true) := by unfold Hid; rw [← HV.out]; simp
          go_wp2
          go_ret
          exact ⟨by rw [HVV.out]; rfl, HBR.out⟩
        · have hSb : ((S : Int) == 32768) = false := by simp; omega
          have HVV : Hid (V = false) := by unfold Hid; rw [← HV.out]; simp [hS, h1]
          go_wp2
          go_ret
          exact ⟨by rw [HVV.out]; rfl, HBR.out⟩
      · have hgb : ((lg : Int) == 1) = false := by simp; omega
        have hgb0 : ((lg : Int) == 0) = false := by simp; omega
        by_cases hS : S = 32768
        · subst hS
          have HVV : Hid (V = true) := by unfold Hid; rw [← HV.out]; simp
          go_wp2
          go_ret
          exact ⟨by rw [HVV.out]; rfl, HBR.out⟩
        · have hSb : ((S : Int) == 32768) = false := by simp; omega
          have HVV : Hid (V = false) := by unfold Hid; rw [← HV.out]; simp [hS]; omega
          go_wp2
          go_ret
          exact ⟨by rw [HVV.out]; rfl, HBR.out⟩

theorem RowsAre.setFA {g : Nat → Value} {f c a f' a' : Nat → Nat} (h : RowsAre g f c a) (n : Nat) (hf : ∀ m, m < 16 → m ≠ n → f' m = f m) (ha : ∀ m, m < 16 → m ≠ n → a' m = a m) :
    RowsAre (upd (upd g (n * 3) (.int .u32 (f' n : Int))) (n * 3 + 2) (.int .u32 (a' n : Int))) f' c a' := by
  intro m hm
  obtain ⟨h1, h2, h3⟩ := h m hm
  by_cases he : m = n
  · subst he
    refine ⟨?_, ?_, ?_⟩
    · rw [upd_other _ _ _ _ (by omega), upd_same]
    · rw [upd_other _ _ _ _ (by omega), upd_other _ _ _ _ (by omega)]; exact h2
    · rw [upd_same]
  · refine ⟨?_, ?_, ?_⟩
    · rw [upd_other _ _ _ _ (by omega), upd_other _ _ _ _ (by omega), h1, hf m hm he]
    · rw [upd_other _ _ _ _ (by omega), upd_other _ _ _ _ (by omega)]; exact h2
    · rw [upd_other _ _ _ _ (by omega), upd_other _ _ _ _ (by omega), h3, ha m hm he]
/-- The rows laid up to n. -/
def upTo (f : Nat → Nat) (k : Nat) : Nat → Nat := fun m => if m < k then f m else 0
theorem atC_le (ln : Nat → Nat) (L n : Nat) : atC ln L n ≤ n * L := by
  induction n with
  | zero => exact Nat.zero_le _
  | succ n ih => have := cnt_le ln n L; rw [atC, Nat.add_mul, Nat.one_mul]; omega

set_option maxHeartbeats 2000000 in
theorem lay_any (b : Nat) (ln : Nat → Nat) (len : Nat) (g : Nat → Value) (w : World) (hb : TBox w b g) (hr : RowsAre g (fun _ => 0) (fun n => cnt ln n len) (fun _ => 0)) (hl : len ≤ 320) (hkr : kr ln len 15 ≤ 32768) :
    Calls Try.prog 29 #[.pointer (some ⟨b, 0, none⟩)] w fun e w' => e = .returned (.tuple #[]) ∧ (∃ g', TBox w' b g' ∧ RowsAre g' (fstC ln len) (fun n => cnt ln n len) (atC ln len) ∧ g' 48 = g 48 ∧ g' 49 = g 49 ∧ g' 50 = g 50) ∧ Below b w w' := by
  have HB := hidM hb
  have HR0 : Hid (RowsAre g (upTo (fstC ln len) 1) (fun n => cnt ln n len) (upTo (atC ln len) 1)) := by
    have e1 : upTo (fstC ln len) 1 = fun _ => 0 := by
      funext m; unfold upTo; split
      · have : m = 0 := by omega
        subst this; rfl
      · rfl
    have e2 : upTo (atC ln len) 1 = fun _ => 0 := by
      funext m; unfold upTo; split
      · have : m = 0 := by omega
        subst this; rfl
      · rfl
    unfold Hid
    rw [e1, e2]; exact hr
  clear hb hr
  go_enter Try.func29, Try.ntmps29
  go_wp2
  go_loopw [2, 3] (fun i _ wr => ∃ (k : Nat) (g' : Nat → Value), 1 ≤ k ∧ k ≤ 16 ∧ i = .int .i64 k ∧ TBox wr b g' ∧ RowsAre g' (upTo (fstC ln len) k) (fun n => cnt ln n len) (upTo (atC ln len) k) ∧ g' 48 = g 48 ∧ g' 49 = g 49 ∧ g' 50 = g 50 ∧ Below b w wr) (fun i _ _ => 16 - (intOf i).toNat)
  case atStart => exact ⟨1, g, by decide, by decide, rfl, HB.out, HR0.out, rfl, rfl, rfl, Below.refl _ _⟩
  case round =>
    obtain ⟨k, g', hk1, hk, rfl, htb, hro, e48, e49, e50, hbr⟩ := hrel
    have HT := hidM htb
    have HRO := hidM hro
    have HE := hidM (And.intro e48 (And.intro e49 e50))
    have HBR := hidM hbr
    clear e48 e49 e50 HR0 HB
    by_cases hlt : k ≤ 15
    · obtain ⟨j, hj⟩ : ∃ j, k = j + 1 := ⟨k - 1, by omega⟩
      have HJ := hidM hj
      have e1 : (k : Int) - 1 = (j : Int) := by omega
      obtain ⟨r1, r2, r3⟩ := hro j (by omega)
      have r1' : g' (j * 3) = .int .u32 ((fstC ln len j : Nat) : Int) := by rw [r1]; unfold upTo; rw [if_pos (by omega)]
      have r2' : g' (j * 3 + 1) = .int .u32 ((cnt ln j len : Nat) : Int) := r2
      have r3' : g' (j * 3 + 2) = .int .u32 ((atC ln len j : Nat) : Int) := by rw [r3]; unfold upTo; rw [if_pos (by omega)]
      have c0 := htb.cell (j * 3) (by omega)
      have c1 := htb.cell (j * 3 + 1) (by omega)
      have c2 := htb.cell (j * 3 + 2) (by omega)
      rw [r1'] at c0
      rw [r2'] at c1
      rw [r3'] at c2
      have HF1 : Hid (fstC ln len k = 2 * (fstC ln len j + cnt ln j len)) := by unfold Hid; rw [hj]; rfl
      have HA1 : Hid (atC ln len k = atC ln len j + cnt ln j len) := by unfold Hid; rw [hj]; rfl
      have bf : fstC ln len j + cnt ln j len ≤ 32768 := by
        have h1 := code_fits ln len j (by omega) hkr
        have h2 : 2 ^ j ≤ 2 ^ 15 := Nat.pow_le_pow_right (by decide) (by omega)
        omega
      have ba : atC ln len j + cnt ln j len ≤ 10000 := by
        have h1 := atC_le ln len j
        have h2 : j * len ≤ 15 * 320 := Nat.mul_le_mul (by omega) hl
        have h3 := cnt_le ln j len
        omega
      obtain ⟨F, hF⟩ : ∃ F, F = fstC ln len j := ⟨_, rfl⟩
      obtain ⟨C, hC⟩ : ∃ C, C = cnt ln j len := ⟨_, rfl⟩
      obtain ⟨A, hA⟩ : ∃ A, A = atC ln len j := ⟨_, rfl⟩
      rw [← hF] at c0 bf HF1
      rw [← hC] at c1 bf ba HF1 HA1
      rw [← hA] at c2 ba HA1
      have b1 : (0 : Int) ≤ (j : Int) := by omega
      have b2 : (j : Int) < 16 := by omega
      have b3 : (k : Int) < 16 := by omega
      have HTA : Hid (TBox (wr.alloc (.cells #[.int .u32 (F : Int), .int .u32 (C : Int), .int .u32 (A : Int)] 61)) b g') := htb.same (Below.heap_alloc wr _ b htb.lt)
      have HQA : Hid ((wr.alloc (.cells #[.int .u32 (F : Int), .int .u32 (C : Int), .int .u32 (A : Int)] 61)).heap[wr.heap.size]? = some (.cells #[.int .u32 (F : Int), .int .u32 (C : Int), .int .u32 (A : Int)] 61 (0, 0))) := heap_alloc_new wr _
      have HBA : Hid (Below b w (wr.alloc (.cells #[.int .u32 (F : Int), .int .u32 (C : Int), .int .u32 (A : Int)] 61))) := hbr.alloc (Nat.le_of_lt htb.lt) _
      have HNE : Hid (wr.heap.size ≠ b) := by have := htb.lt; unfold Hid; omega
      clear hro r1 r2 r3 r1' r2' r3' hF hC hA htb hbr hj
      go_wp2
      clear c0 c1 c2
      generalize wr.alloc (.cells #[.int .u32 (F : Int), .int .u32 (C : Int), .int .u32 (A : Int)] 61) = wa at *
      generalize wr.heap.size = q at *
      have q0 : wa.cell? ⟨q, 0, none⟩ = some (.int .u32 (F : Int)) := by rw [cell_of_row wa q _ _ 61 (0, 0) HQA.out]; rfl
      have q1 : wa.cell? ⟨q, 1, none⟩ = some (.int .u32 (C : Int)) := by rw [cell_of_row wa q _ _ 61 (0, 0) HQA.out]; rfl
      have t0 := HTA.out.cell (k * 3) (by omega)
      have t1 := HTA.out.fz (k * 3)
      have HT1 : Hid (TBox ((wa.setCell ⟨b, k * 3, none⟩ (.int .u32 (2 * ((F : Int) + (C : Int))))).drew) b (upd g' (k * 3) (.int .u32 (2 * ((F : Int) + (C : Int)))))) := HTA.out.set (k * 3) _
      have HQ1 : Hid (((wa.setCell ⟨b, k * 3, none⟩ (.int .u32 (2 * ((F : Int) + (C : Int))))).drew).heap[q]? = some (.cells #[.int .u32 (F : Int), .int .u32 (C : Int), .int .u32 (A : Int)] 61 (0, 0))) := (Below.heap_setCell wa ⟨b, k * 3, none⟩ _ q HNE.out).trans HQA.out
      have HB1 : Hid (Below b w ((wa.setCell ⟨b, k * 3, none⟩ (.int .u32 (2 * ((F : Int) + (C : Int))))).drew)) := below_drewN (below_set HBA.out (Nat.le_refl b)) 1
      go_region
      generalize (wa.setCell ⟨b, k * 3, none⟩ (.int .u32 (2 * ((F : Int) + (C : Int))))).drew = wb at *
      clear q0 q1 t0 t1
      have q2 : wb.cell? ⟨q, 2, none⟩ = some (.int .u32 (A : Int)) := by rw [cell_of_row wb q _ _ 61 (0, 0) HQ1.out]; rfl
      have q1 : wb.cell? ⟨q, 1, none⟩ = some (.int .u32 (C : Int)) := by rw [cell_of_row wb q _ _ 61 (0, 0) HQ1.out]; rfl
      have t0 := HT1.out.cell (k * 3 + 2) (by omega)
      have t1 := HT1.out.fz (k * 3 + 2)
      have HT2 : Hid (TBox ((wb.setCell ⟨b, k * 3 + 2, none⟩ (.int .u32 ((A : Int) + (C : Int)))).drew) b (upd (upd g' (k * 3) (.int .u32 (2 * ((F : Int) + (C : Int))))) (k * 3 + 2) (.int .u32 ((A : Int) + (C : Int))))) := HT1.out.set (k * 3 + 2) _
      have HB2 : Hid (Below b w ((wb.setCell ⟨b, k * 3 + 2, none⟩ (.int .u32 ((A : Int) + (C : Int)))).drew)) := below_drewN (below_set HB1.out (Nat.le_refl b)) 1
      have HR2 : Hid (RowsAre (upd (upd g' (k * 3) (.int .u32 (2 * ((F : Int) + (C : Int))))) (k * 3 + 2) (.int .u32 ((A : Int) + (C : Int)))) (upTo (fstC ln len) (k + 1)) (fun n => cnt ln n len) (upTo (atC ln len) (k + 1))) := by
        have h1 := HRO.out.setFA (f' := upTo (fstC ln len) (k + 1)) (a' := upTo (atC ln len) (k + 1)) k
          (fun m _ hm => by unfold upTo; by_cases h : m < k
                            · rw [if_pos h, if_pos (by omega)]
                            · rw [if_neg h, if_neg (by omega)])
          (fun m _ hm => by unfold upTo; by_cases h : m < k
                            · rw [if_pos h, if_pos (by omega)]
                            · rw [if_neg h, if_neg (by omega)])
        have e1 : ((upTo (fstC ln len) (k + 1) k : Nat) : Int) = 2 * ((F : Int) + (C : Int)) := by unfold upTo; rw [if_pos (by omega), HF1.out]; omega
        have e2 : ((upTo (atC ln len) (k + 1) k : Nat) : Int) = (A : Int) + (C : Int) := by unfold upTo; rw [if_pos (by omega), HA1.out]; omega
        rw [e1, e2] at h1
        exact h1
      have HE2 : Hid (∀ i, 48 ≤ i → upd (upd g' (k * 3) (.int .u32 (2 * ((F : Int) + (C : Int))))) (k * 3 + 2) (.int .u32 ((A : Int) + (C : Int))) i = g' i) := fun i hi => by rw [upd_other _ _ _ _ (by omega), upd_other _ _ _ _ (by omega)]
      go_wp2
      go_region
      generalize (wb.setCell ⟨b, k * 3 + 2, none⟩ (.int .u32 ((A : Int) + (C : Int)))).drew = wc at *
      clear q1 q2 t0 t1
      go_wp2
      go_roundw
      case rel => exact ⟨k + 1, _, by omega, by omega, by go_num, HT2.out, HR2.out, (HE2.out 48 (by decide)).trans HE.out.1, (HE2.out 49 (by decide)).trans HE.out.2.1, (HE2.out 50 (by decide)).trans HE.out.2.2, HB2.out⟩
      case measure => simp [intOf]; omega
    · have hk16 : k = 16 := by omega
      subst hk16
      clear htb hro hbr
      go_wp2
      refine bodyPost_end (results_none Try.results29 _ _ _) rfl ⟨rfl, ⟨g', HT.out, ?_, HE.out.1, HE.out.2.1, HE.out.2.2⟩, HBR.out⟩
      intro m hm
      have := HRO.out m hm
      unfold upTo at this
      rw [if_pos hm, if_pos hm] at this
      exact this
end Go.Proofs.Ytpidofgmbjkbiaa
