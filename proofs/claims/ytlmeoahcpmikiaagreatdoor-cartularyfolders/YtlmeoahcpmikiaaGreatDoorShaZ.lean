/-
  Taken over from another program: ShaZ.
-/
import Derived.Test.YtlmeoahcpmikiaaGreatDoorShaY
import Derived.Laws.BitsAllLaws
import Derived.WalkKit
import Derived.WalkSpells
import Derived.WalkLawsBesides
import Derived.Laws.IdiomStrings
import Derived.Deep.QuietTactic
import Derived.BigQuiet
import Derived.Deep.RegionHeld3
import Derived.Deep.MidRow
import Derived.Deep.RegionLaw
import Derived.Laws.MakeOwn
import Derived.Deep.RegionWith
namespace Go.Proofs.YtlmeoahcpmikiaaGreatDoor
open Go.RowKit
set_option maxHeartbeats 400000 in
set_option maxRecDepth 100000 in
theorem start1_any (w : World) :
    Calls Tryz.prog 141 #[] w fun e w' => e = .returned (.agg (wordsV h0).toArray) ∧ Below w.heap.size w w' := by
  go_enter Tryz.func141, Tryz.ntmps141
  go_wp2
  exact bodyPost_ret (v := .agg (wordsV h0).toArray) (by simp [results, Tryz.results141, go_sem, wordsV, h0]) rfl ⟨rfl, (Below.refl _ _).alloc (Nat.le_refl _) _⟩
theorem wordsAt1_ok (M : List UInt8) : W32 5 (wordsAt mixL1 h0 M) := absN_ok h0_ok (fun h p _ => mixL1_ok h p) M _
theorem drop_extractO (t : ByteArray) (k : Nat) : (t.extract k t.size).data.toList = t.data.toList.drop k := by
  simp [ByteArray.data_extract]
  rw [List.take_of_length_le]; simp
def strOf : Value → ByteArray
  | .string s => s
  | _ => ⟨#[]⟩
/-- The sum's first words are put where none was written. -/
theorem first_words {t : Nat} {w w1 : World} {b : Nat} {mix : List Nat → List UInt8 → List Nat} {s : List Nat} (h : HashS mix s t w b []) (hh : w1.heap[b]? = w.heap[b]?) : HashT mix s t (w1.setCells b 0 (wordsV s)) b [] := by
  obtain ⟨ws, part, h1, h2, _, h4, h5⟩ := h
  exact ⟨part, h2, h4, (h5.same hh).setPre (wordsV s) (by rw [wordsV_len, wordsV_len, h1])⟩
theorem HashS.tight {t : Nat} {w : World} {b : Nat} {mix : List Nat → List UInt8 → List Nat} {s : List Nat} {M : List UInt8} (h : HashS mix s t w b M) (hm : M ≠ []) : HashT mix s t w b M := by
  obtain ⟨ws, part, h1, h2, h3, h4, h5⟩ := h
  exact ⟨part, h2, h4, by rw [← h3 hm]; exact h5⟩
theorem HashS.cellN {t o : Nat} {w : World} {b : Nat} {mix : List Nat → List UInt8 → List Nat} {s : List Nat} {M : List UInt8} (h : HashS mix s t w b M) (ho : s.length + 64 = o) : w.cell? ⟨b, o, none⟩ = some (.int .u64 (M.length : Int)) := by
  obtain ⟨ws, part, h1, h2, h3, h4, h5⟩ := h
  have := h5.cellN h2
  rwa [wordsV_len, h1, ho] at this
theorem HashS.thereW {t : Nat} {w : World} {b : Nat} {mix : List Nat → List UInt8 → List Nat} {s : List Nat} {M : List UInt8} (h : HashS mix s t w b M) : w.there b 0 s.length := by
  obtain ⟨ws, part, h1, h2, h3, h4, h5⟩ := h
  have := h5.therePre
  rwa [wordsV_len, h1] at this
theorem hash_full {mix : List Nat → List UInt8 → List Nat} {s : List Nat} {t : Nat} {w : World} {b k : Nat} {M l part : List UInt8} (hp : part.length = 64) (hp2 : part.take (M.length % 64) = M.drop (M.length / 64 * 64)) (hlk : l.length = k) (hl : M.length % 64 + k = 64)
    (hB : HBox w b t (wordsV (wordsAt mix s M)) (putB part (M.length % 64) l) (M.length + k)) (hm : (mix (wordsAt mix s M) (putB part (M.length % 64) l)).length = (wordsAt mix s M).length) :
    HashT mix s t (w.setCells b 0 (wordsV (mix (wordsAt mix s M) (putB part (M.length % 64) l)))) b (M ++ l) := by
  have e1 := part_full part M l hp hp2 (by omega)
  have e2 := wordsAt_full mix s M l (by omega) (by omega)
  refine ⟨putB part (M.length % 64) l, by rw [putB_len _ _ _ (by omega), hp], ?_, ?_⟩
  · have h1 : (M ++ l).length % 64 = 0 := by rw [List.length_append]; omega
    have h2 : (M ++ l).length / 64 * 64 = (M ++ l).length := by rw [List.length_append] at h1 ⊢; omega
    rw [h1, h2, List.drop_length]; rfl
  · rw [e2, ← e1, List.length_append, hlk]
    exact hB.setPre _ (by rw [wordsV_len, wordsV_len, hm])
theorem hash_more {mix : List Nat → List UInt8 → List Nat} {s : List Nat} {t : Nat} {w : World} {b k : Nat} {M l part : List UInt8} (hp : part.length = 64) (hp2 : part.take (M.length % 64) = M.drop (M.length / 64 * 64)) (hlk : l.length = k) (hl : M.length % 64 + k < 64)
    (hB : HBox w b t (wordsV (wordsAt mix s M)) (putB part (M.length % 64) l) (M.length + k)) : HashT mix s t w b (M ++ l) := by
  have e1 := part_next part M l hp hp2 (by omega)
  have e2 := wordsAt_more mix s M l (by omega)
  refine ⟨putB part (M.length % 64) l, by rw [putB_len _ _ _ (by omega), hp], ?_, ?_⟩
  · have h1 : (M ++ l).length % 64 = M.length % 64 + l.length := by rw [List.length_append]; omega
    have h2 : (M ++ l).length / 64 * 64 = M.length / 64 * 64 := by rw [List.length_append]; omega
    rw [h1, h2, e1]
  · rw [e2, List.length_append, hlk]; exact hB
theorem text_next (M X : List UInt8) (t : ByteArray) (k : Nat) (h : M ++ t.data.toList = X) : (M ++ t.data.toList.take k) ++ (t.extract k t.size).data.toList = X := by
  rw [drop_extractO, List.append_assoc, List.take_append_drop, h]
theorem wpList_store_mid0 {P : Program} {ops : Array Oper} {rest : List Oper} {op : Oper} {a : Act} {w : World} {Q : Exit → Act → World → Prop} (hgd : op.guard = none) (hd : op.dst = none) (ty : TypeId) (x y : Operand) (ho : op.op = .store ty x y)
    (b o : Nat) (cells : Array Value) (hx : a.eval x = .pointer (some ⟨b, o, none⟩)) (hy : a.eval y = .agg cells)
    (ht : w.there b o cells.size) (hi : (P.info? ty).map (·.size) = some cells.size) (h1 : cells.all (·.oneCell') = true)
    (h : wpList P ops Q rest a (w.setCells b o cells.toList)) : wpList P ops Q (op :: rest) a w := by
  refine wpList_store_mid hgd ty x y ho b o cells hx hy ht hi h1 ?_
  rw [hd]; exact h
/-- Two reads that may come up in either order. -/
theorem wpAny_two {P : Program} {md : Region.Mode} {ops : Array Oper} {Q : Exit → Act → World → Prop} {fuel : Nat} {listed l2 : Array Bool} {a : Act} {w : World} {i j : Nat} {oi oj : Oper} {vi vj : Value}
    (hr : Region.ready md ops listed = [i, j]) (hi : ops[i]? = some oi) (hj : ops[j]? = some oj) (hri : Region.ready md ops (listed.setIfInBounds i true) = [j]) (hrj : Region.ready md ops (listed.setIfInBounds j true) = [i])
    (gi : ∀ a : Act, Region.wanted oi (yielded ops a.tmps) = true) (gj : ∀ a : Act, Region.wanted oj (yielded ops a.tmps) = true)
    (yi : ∀ a' : Act, a' = a ∨ a' = a.put oj.dst vj → ∀ K : Act → World → Prop, K (a'.put oi.dst vi) w → Oper.wp P oi a' w K Q)
    (yj : ∀ a' : Act, a' = a ∨ a' = a.put oi.dst vi → ∀ K : Act → World → Prop, K (a'.put oj.dst vj) w → Oper.wp P oj a' w K Q)
    (hc : (a.put oj.dst vj).put oi.dst vi = (a.put oi.dst vi).put oj.dst vj) (hl : (listed.setIfInBounds i true).setIfInBounds j true = l2) (hl' : (listed.setIfInBounds j true).setIfInBounds i true = l2)
    (h : wpAny P md ops Q fuel l2 ((a.put oi.dst vi).put oj.dst vj) w) : wpAny P md ops Q (fuel + 2) listed a w := by
  refine wpAny_ready hr (by simp) (AllReady.cons hi (fun K hK => ?_) (AllReady.cons hj (fun K hK => ?_) AllReady.nil))
  · rw [if_pos (gi _)]
    refine yi a (.inl rfl) K (hK _ _ ?_)
    refine wpAny_ready hri (by simp) (AllReady.cons hj (fun K hK => ?_) AllReady.nil)
    rw [if_pos (gj _)]
    exact yj _ (.inr rfl) K (hK _ _ (by rw [hl]; exact h))
  · rw [if_pos (gj _)]
    refine yj a (.inl rfl) K (hK _ _ ?_)
    refine wpAny_ready hrj (by simp) (AllReady.cons hi (fun K hK => ?_) AllReady.nil)
    rw [if_pos (gi _)]
    exact yi _ (.inr rfl) K (hK _ _ (by rw [hl', hc]; exact h))
set_option maxHeartbeats 1600000 in
set_option maxRecDepth 100000 in
theorem write1_any (b : Nat) (M : List UInt8) (s : ByteArray) (w : World) (hb : b < w.heap.size) (hM : M.length + s.size ≤ 1099511627776) (h : HashS mixL1 h0 156 w b M) :
    Calls Tryz.prog 94 #[.pointer (some ⟨b, 0, none⟩), .string s] w fun e w' => e = .returned (.tuple #[]) ∧ HashS mixL1 h0 156 w' b (M ++ s.data.toList) ∧ But b w.heap.size w w' := by
  have hc := h.cellN (o := 69) rfl
  have H := hidMO h
  obtain ⟨n, hn⟩ : ∃ n, n = M.length := ⟨_, rfl⟩
  have HN := hidMO hn
  rw [← hn] at hc hM
  clear h hn
  go_enter Tryz.func94, Tryz.ntmps94
  by_cases h0n : n = 0
  · have h0b : ((n : Int) == 0) = true := by simp; omega
    have h0i : (n : Int) = 0 := by omega
    go_wp2_with fail
    refine (start1_any w).mono ?_
    rintro _ w1 ⟨rfl, hb1⟩
    have HM0 : Hid (M = []) := List.eq_nil_of_length_eq_zero (by rw [← HN.out]; exact h0n)
    have HT : Hid (HashT mixL1 h0 156 (w1.setCells b 0 (wordsV h0)) b M) := by unfold Hid; rw [HM0.out]; exact first_words (by rw [← HM0.out]; exact H.out) (hb1.block b hb)
    have HO : Hid (But b w.heap.size w (w1.setCells b 0 (wordsV h0))) := (But.ofBelow hb1).trans ((OnlyO.setCells (wordsV h0) 0 (OnlyO.refl b w1)).but _)
    have HTH : Hid (w1.there b 0 (wordsV h0).toArray.size) := (H.out.same (hb1.block b hb)).thereW
    have HONE := hidMO (ones_words h0)
    have HSZ : Hid ((wordsV h0).toArray.size = 5) := rfl
    have HLST : Hid ((wordsV h0).toArray.toList = wordsV h0) := rfl
    generalize (wordsV h0).toArray = D at *
    go_wp2_with (first
      | (refine wpList_store_mid0 rfl rfl 149 (.tmp 13) (.tmp 11) rfl b 0 D rfl rfl HTH.out (by rw [HSZ.out]; exact size31) HONE.out ?_; rw [HLST.out]; generalize w1.setCells b 0 (wordsV h0) = W at *))
    clear hb1 HTH HONE HSZ HLST hc H h0b h0i
    go_loopw [1] (fun v wr => ∃ (t : ByteArray) (M' : List UInt8), v = .string t ∧ M' ++ t.data.toList = M ++ s.data.toList ∧ HashT mixL1 h0 156 wr b M' ∧ But b w.heap.size w wr) (fun v _ => (strOf v).size)
    case atStart => exact ⟨s, M, rfl, rfl, HT.out, HO.out⟩
    case round =>
      obtain ⟨t, M', rfl, hMt, hT, hO⟩ := hrel
      clear HT HO
      have HMT := hidMO hMt
      have HOO := hidMO hO
      have hlen : M'.length + t.size = n + s.size := by
        have := congrArg List.length hMt
        simp only [List.length_append, Array.length_toList, ByteArray.size_data, ← HN.out] at this
        exact this
      clear hMt hO
      obtain ⟨part, hp1, hp2, hp3⟩ := hT
      have HP2 := hidMO hp2
      have HP3 := hidMO hp3
      clear hp2 hp3
      by_cases ht0 : 0 < t.size
      · have hti : (0 : Int) < (t.size : Int) := by omega
        go_wp2_with fail
        refine (take_any b 156 5 _ part M'.length t _ hp1 (by rw [wordsV_len]; exact (wordsAt1_ok M').len) (by omega) HP3.out).mono ?_
        rintro _ w1 ⟨k, hk, rfl, hB1, hO1⟩
        have hkt : k ≤ t.size := by omega
        have hki : (k : Int) ≤ (t.size : Int) := by omega
        have HK := hidMO hk
        have hkl : (t.data.toList.take k).length = k := by rw [List.length_take]; simp; omega
        have HWL : Hid ((wordsV (wordsAt mixL1 h0 M')).length = 5) := by unfold Hid; rw [wordsV_len]; exact (wordsAt1_ok M').len
        have HPL : Hid ((putB part (M'.length % 64) (t.data.toList.take k)).length = 64) := by unfold Hid; rw [putB_len _ _ _ (by rw [hkl]; omega), hp1]
        have HB1 := hidMO hB1
        have HO1 := hidMO hO1
        clear hk hB1 hO1
        go_wp2_with fail
        refine (full_any b 156 5 _ _ (M'.length + k) w1 HPL.out HWL.out HB1.out).mono ?_
        rintro _ w2 ⟨rfl, rfl⟩
        by_cases hf : (M'.length + k) % 64 = 0
        · have hfd : decide ((M'.length + k) % 64 = 0) = true := by simpa using hf
          rw [hfd]
          clear hfd
          have HB2 : Hid (HBox w2.drew b 156 (wordsV (wordsAt mixL1 h0 M')) (putB part (M'.length % 64) (t.data.toList.take k)) (M'.length + k)) := HB1.out
          have HF := hidMO hf
          have HP1 := hidMO hp1
          have HKL := hidMO hkl
          have HBW : Hid (b < w2.drew.heap.size) := Nat.lt_of_lt_of_le hb (HOO.out.trans (HO1.out.but _)).size
          have HRX := hidMO HB2.out.rangePre
          have HRC := hidMO HB2.out.rangePart
          rw [HWL.out] at HRC
          have HMIX := hidMO (fun v => mix1_list (wordsAt mixL1 h0 M') (putB part (M'.length % 64) (t.data.toList.take k)) v HPL.out (wordsAt1_ok M'))
          have HYO := hidMO (ones_words (mixL1 (wordsAt mixL1 h0 M') (putB part (M'.length % 64) (t.data.toList.take k))))
          have HYL : Hid ((wordsV (mixL1 (wordsAt mixL1 h0 M') (putB part (M'.length % 64) (t.data.toList.take k)))).toArray.size = 5) := by unfold Hid; rw [List.size_toArray, wordsV_len, (mixL1_ok _ _).len]
          have HFU := hidMO (fun (W : World) (hW : HBox W b 156 (wordsV (wordsAt mixL1 h0 M')) (putB part (M'.length % 64) (t.data.toList.take k)) (M'.length + k)) => hash_full HP1.out HP2.out HKL.out (by have := HK.out; have := HF.out; omega) hW (by rw [(mixL1_ok _ _).len, (wordsAt1_ok M').len]))
          have HSX : Hid ((Tryz.prog.info? 149).map (·.size) = some (wordsV (wordsAt mixL1 h0 M')).length) := by unfold Hid; rw [HWL.out]; exact size31
          have HSC : Hid ((Tryz.prog.info? 151).map (·.size) = some (bytesVO (putB part (M'.length % 64) (t.data.toList.take k))).length) := by unfold Hid; rw [bytesV_lenO, HPL.out]; exact size33
          clear hf hkl hp1
          generalize wordsV (mixL1 (wordsAt mixL1 h0 M') (putB part (M'.length % 64) (t.data.toList.take k))) = ys at *
          generalize wordsV (wordsAt mixL1 h0 M') = xs at *
          generalize hcs : bytesVO (putB part (M'.length % 64) (t.data.toList.take k)) = cs at *
          clear hcs
          go_wp2_with fail
          refine wp_region_any (by kernel_rfl) ?_
          change wpAny _ _ _ _ _ _ _ (World.drew _)
          refine wpAny_take (i := 0) (oi := { dst := some 28, op := .move (.tmp 0), type := 204, pos := "sha1.go:26", after := #[], guard := none }) (v := .pointer (some ⟨b, 0, none⟩)) rfl (by kernel_rfl) (by kernel_rfl) (by kernel_rfl) (fun _ _ _ h => h) (Or.inl ⟨by rfl, fun w => by go_simp⟩) ?_
          simp only [Act.put, List.setIfInBounds_toArray, List.set_cons_zero, List.set_cons_succ]
          refine wpAny_take (i := 1) (oi := { dst := some 29, op := .move (.tmp 0), type := 204, pos := "sha1.go:26", after := #[], guard := none }) (v := .pointer (some ⟨b, 0, none⟩)) rfl (by kernel_rfl) (by kernel_rfl) (by kernel_rfl) (fun _ _ _ h => h) (Or.inl ⟨by rfl, fun w => by go_simp⟩) ?_
          simp only [Act.put, List.setIfInBounds_toArray, List.set_cons_zero, List.set_cons_succ]
          refine wpAny_take (i := 2) (oi := { dst := some 30, op := .nilCheck (.tmp 29), type := 0, pos := "sha1.go:26", after := #[{ on := 1, ground := .data }], guard := none }) (v := .pointer (some ⟨b, 0, none⟩)) rfl (by kernel_rfl) (by kernel_rfl) (by kernel_rfl) (fun _ _ _ h => h) (Or.inl ⟨by rfl, fun w => by go_simp⟩) ?_
          simp only [Act.put, List.setIfInBounds_toArray, List.set_cons_zero, List.set_cons_succ]
          refine wpAny_take (i := 3) (oi := { dst := some 31, op := .fieldAddr 156 (.tmp 30) 0, type := 0, pos := "sha1.go:26", after := #[{ on := 2, ground := .data }], guard := none }) (v := .pointer (some ⟨b, 0, none⟩)) rfl (by kernel_rfl) (by kernel_rfl) (by kernel_rfl) (fun _ _ _ h => h) (Or.inl ⟨by rfl, fun w => by go_simp⟩) ?_
          simp only [Act.put, List.setIfInBounds_toArray, List.set_cons_zero, List.set_cons_succ]
          refine wpAny_take (i := 5) (oi := { dst := some 33, op := .move (.tmp 0), type := 204, pos := "sha1.go:26", after := #[], guard := none }) (v := .pointer (some ⟨b, 0, none⟩)) rfl (by kernel_rfl) (by kernel_rfl) (by kernel_rfl) (fun _ _ _ h => h) (Or.inl ⟨by rfl, fun w => by go_simp⟩) ?_
          simp only [Act.put, List.setIfInBounds_toArray, List.set_cons_zero, List.set_cons_succ]
          refine wpAny_take (i := 6) (oi := { dst := some 34, op := .nilCheck (.tmp 33), type := 0, pos := "sha1.go:26", after := #[{ on := 5, ground := .data }], guard := none }) (v := .pointer (some ⟨b, 0, none⟩)) rfl (by kernel_rfl) (by kernel_rfl) (by kernel_rfl) (fun _ _ _ h => h) (Or.inl ⟨by rfl, fun w => by go_simp⟩) ?_
          simp only [Act.put, List.setIfInBounds_toArray, List.set_cons_zero, List.set_cons_succ]
          refine wpAny_take (i := 7) (oi := { dst := some 35, op := .fieldAddr 156 (.tmp 34) 1, type := 0, pos := "sha1.go:26", after := #[{ on := 6, ground := .data }], guard := none }) (v := .pointer (some ⟨b, 5, none⟩)) rfl (by kernel_rfl) (by kernel_rfl) (by kernel_rfl) (fun _ _ _ h => h) (Or.inl ⟨by rfl, fun w => by go_simp⟩) ?_
          simp only [Act.put, List.setIfInBounds_toArray, List.set_cons_zero, List.set_cons_succ]
          refine wpAny_take (i := 8) (oi := { dst := some 36, op := .fieldAddr 154 (.tmp 35) 0, type := 0, pos := "sha1.go:26", after := #[{ on := 7, ground := .data }], guard := none }) (v := .pointer (some ⟨b, 5, none⟩)) rfl (by kernel_rfl) (by kernel_rfl) (by kernel_rfl) (fun _ _ _ h => h) (Or.inl ⟨by rfl, fun w => by go_simp⟩) ?_
          simp only [Act.put, List.setIfInBounds_toArray, List.set_cons_zero, List.set_cons_succ]
          refine wpAny_two (i := 4) (j := 9) (oi := { dst := some 32, op := .load 149 (.tmp 31), type := 149, pos := "sha1.go:26", after := #[{ on := 3, ground := .data }], guard := none }) (oj := { dst := some 37, op := .load 151 (.tmp 36), type := 151, pos := "sha1.go:26", after := #[{ on := 8, ground := .data }], guard := none }) (vi := .agg xs.toArray) (vj := .agg cs.toArray) (l2 := #[true, true, true, true, true, true, true, true, true, true, false, false, false, false]) (by kernel_rfl) rfl rfl (by kernel_rfl) (by kernel_rfl) (fun _ => rfl) (fun _ => rfl) ?yiA ?yjA (by rfl) (by kernel_rfl) (by kernel_rfl) ?restA
          case yiA =>
            intro a' ha K hK
            rcases ha with rfl | rfl
            · exact wp_load_mid 149 (.tmp 31) rfl b 0 rfl xs _ HRX.out Tryz.underlying149 rfl HSX.out hK
            · exact wp_load_mid 149 (.tmp 31) rfl b 0 rfl xs _ HRX.out Tryz.underlying149 rfl HSX.out hK
          case yjA =>
            intro a' ha K hK
            rcases ha with rfl | rfl
            · exact wp_load_mid 151 (.tmp 36) rfl b 5 rfl cs _ HRC.out Tryz.underlying151 rfl HSC.out hK
            · exact wp_load_mid 151 (.tmp 36) rfl b 5 rfl cs _ HRC.out Tryz.underlying151 rfl HSC.out hK
          simp only [Act.put, List.setIfInBounds_toArray, List.set_cons_zero, List.set_cons_succ]
          refine wpAny_ready (rs := [10]) (by kernel_rfl) (by simp) (AllReady.cons (o := { dst := some 38, op := .call { callee := .value (.func 144), args := #[.tmp 32, .tmp 37], argTypes := #[149, 151] }, type := 149, pos := "sha1.go:26", after := #[{ on := 4, ground := .data }, { on := 9, ground := .data }], guard := none }) rfl (fun K hK => ?_) AllReady.nil)
          rw [if_pos (by rfl)]
          go_simp
          go_at_call 144
          refine (HMIX.out _).mono ?_
          rintro _ w3 ⟨rfl, hb3⟩
          refine hK _ _ ?_
          clear hK K
          have HB3 := hidMO (HB2.out.same (hb3.block b HBW.out))
          have HTY : Hid (w3.there b 0 ys.toArray.size) := by
            have := HB3.out.therePre
            rw [HWL.out] at this
            unfold Hid
            rw [HYL.out]; exact this
          simp only [List.setIfInBounds_toArray, List.set_cons_zero, List.set_cons_succ]
          refine wpAny_ready (rs := [11]) (by kernel_rfl) (by simp) (AllReady.cons (o := { dst := some 39, op := .nilCheck (.tmp 28), type := 0, pos := "sha1.go:26", after := #[{ on := 0, ground := .data }, { on := 0, ground := .phase }, { on := 1, ground := .phase }, { on := 2, ground := .phase }, { on := 3, ground := .phase }, { on := 4, ground := .phase }, { on := 5, ground := .phase }, { on := 6, ground := .phase }, { on := 7, ground := .phase }, { on := 8, ground := .phase }, { on := 9, ground := .phase }, { on := 10, ground := .phase }], guard := none }) rfl (fun K hK => ?_) AllReady.nil)
          rw [if_pos (by rfl)]
          go_simp
          refine hK _ _ ?_
          clear hK K
          simp only [List.setIfInBounds_toArray, List.set_cons_zero, List.set_cons_succ]
          refine wpAny_ready (rs := [12]) (by kernel_rfl) (by simp) (AllReady.cons (o := { dst := some 40, op := .fieldAddr 156 (.tmp 39) 0, type := 0, pos := "sha1.go:26", after := #[{ on := 11, ground := .data }, { on := 0, ground := .phase }, { on := 1, ground := .phase }, { on := 2, ground := .phase }, { on := 3, ground := .phase }, { on := 4, ground := .phase }, { on := 5, ground := .phase }, { on := 6, ground := .phase }, { on := 7, ground := .phase }, { on := 8, ground := .phase }, { on := 9, ground := .phase }, { on := 10, ground := .phase }], guard := none }) rfl (fun K hK => ?_) AllReady.nil)
          rw [if_pos (by rfl)]
          go_simp
          refine hK _ _ ?_
          clear hK K
          simp only [List.setIfInBounds_toArray, List.set_cons_zero, List.set_cons_succ]
          refine wpAny_ready (rs := [13]) (by kernel_rfl) (by simp) (AllReady.cons (o := { dst := none, op := .store 149 (.tmp 40) (.tmp 38), type := 0, pos := "sha1.go:26", after := #[{ on := 12, ground := .data }, { on := 10, ground := .data }, { on := 10, ground := .chain }, { on := 0, ground := .phase }, { on := 1, ground := .phase }, { on := 2, ground := .phase }, { on := 3, ground := .phase }, { on := 4, ground := .phase }, { on := 5, ground := .phase }, { on := 6, ground := .phase }, { on := 7, ground := .phase }, { on := 8, ground := .phase }, { on := 9, ground := .phase }, { on := 10, ground := .phase }], guard := none }) rfl (fun K hK => ?_) AllReady.nil)
          rw [if_pos (by rfl)]
          refine wp_store_mid 149 (.tmp 40) (.tmp 38) rfl b 0 ys.toArray rfl rfl HTY.out (by rw [HYL.out]; exact size31) HYO.out ?_
          refine hK _ _ ?_
          clear hK K
          simp only [Act.put]
          refine wpAny_done (by kernel_rfl) ?_ _
          have HFU2 := hidMO (HFU.out w3 HB3.out)
          have HBU : Hid (But b w.heap.size w (w3.setCells b 0 ys)) := ((show But b w.heap.size w w2.drew from (HOO.out.trans (HO1.out.but _)).drewN 1).trans (But.ofBelow (hb3.mono (HOO.out.trans (HO1.out.but _)).size))).trans ((OnlyO.setCells _ 0 (OnlyO.refl b w3)).but _)
          clear hb3
          generalize w3.setCells b 0 ys = W at *
          go_wp2
          go_roundw
          case rel => exact ⟨t.extract k t.size, M' ++ t.data.toList.take k, rfl, text_next _ _ t k HMT.out, HFU2.out, HBU.out⟩
          case measure =>
            have := HK.out
            show (t.extract k t.size).size < t.size
            rw [ByteArray.size_extract]; omega
        · have hfd : decide ((M'.length + k) % 64 = 0) = false := by simpa using hf
          rw [hfd]
          have hlt : M'.length % 64 + k < 64 := by have := HK.out; omega
          have HMO := hidMO (hash_more hp1 HP2.out hkl hlt HB1.out)
          have HBU := hidMO (HOO.out.trans (HO1.out.but _))
          clear hfd
          go_wp2
          go_roundw
          case rel => exact ⟨t.extract k t.size, M' ++ t.data.toList.take k, rfl, text_next _ _ t k HMT.out, HMO.out, HBU.out⟩
          case measure =>
            have := HK.out
            show (t.extract k t.size).size < t.size
            rw [ByteArray.size_extract]; omega
      · have hti : ¬ ((0 : Int) < (t.size : Int)) := by omega
        go_wp2
        have HE : Hid (M' = M ++ s.data.toList) := by
          have h := HMT.out
          have ht : t.data.toList = [] := List.eq_nil_of_length_eq_zero (by rw [Array.length_toList, ByteArray.size_data]; omega)
          rw [ht, List.append_nil] at h
          exact h
        have HR : Hid (HashS mixL1 h0 156 wr b (M ++ s.data.toList)) := by
          unfold Hid; rw [← HE.out]
          exact HashT.loose ⟨part, hp1, HP2.out, HP3.out⟩ (by rw [(wordsAt1_ok M').len]; rfl)
        exact bodyPost_end (results_none Tryz.results94 _ _ _) rfl ⟨rfl, HR.out, HOO.out⟩
  · have HT := hidMO (H.out.tight (by intro hm; rw [hm] at HN; exact h0n HN.out))
    have HO := hidMO (But.refl b w.heap.size w)
    have h0i : ¬ ((n : Int) = 0) := by omega
    have h0b : ((n : Int) == 0) = false := by simp; omega
    go_wp2
    clear hc H h0i h0b
    go_loopw [1] (fun v wr => ∃ (t : ByteArray) (M' : List UInt8), v = .string t ∧ M' ++ t.data.toList = M ++ s.data.toList ∧ HashT mixL1 h0 156 wr b M' ∧ But b w.heap.size w wr) (fun v _ => (strOf v).size)
    case atStart => exact ⟨s, M, rfl, rfl, HT.out, HO.out⟩
    case round =>
      obtain ⟨t, M', rfl, hMt, hT, hO⟩ := hrel
      clear HT HO
      have HMT := hidMO hMt
      have HOO := hidMO hO
      have hlen : M'.length + t.size = n + s.size := by
        have := congrArg List.length hMt
        simp only [List.length_append, Array.length_toList, ByteArray.size_data, ← HN.out] at this
        exact this
      clear hMt hO
      obtain ⟨part, hp1, hp2, hp3⟩ := hT
      have HP2 := hidMO hp2
      have HP3 := hidMO hp3
      clear hp2 hp3
      by_cases ht0 : 0 < t.size
      · have hti : (0 : Int) < (t.size : Int) := by omega
        go_wp2_with fail
        refine (take_any b 156 5 _ part M'.length t _ hp1 (by rw [wordsV_len]; exact (wordsAt1_ok M').len) (by omega) HP3.out).mono ?_
        rintro _ w1 ⟨k, hk, rfl, hB1, hO1⟩
        have hkt : k ≤ t.size := by omega
        have hki : (k : Int) ≤ (t.size : Int) := by omega
        have HK := hidMO hk
        have hkl : (t.data.toList.take k).length = k := by rw [List.length_take]; simp; omega
        have HWL : Hid ((wordsV (wordsAt mixL1 h0 M')).length = 5) := by unfold Hid; rw [wordsV_len]; exact (wordsAt1_ok M').len
        have HPL : Hid ((putB part (M'.length % 64) (t.data.toList.take k)).length = 64) := by unfold Hid; rw [putB_len _ _ _ (by rw [hkl]; omega), hp1]
        have HB1 := hidMO hB1
        have HO1 := hidMO hO1
        clear hk hB1 hO1
        go_wp2_with fail
        refine (full_any b 156 5 _ _ (M'.length + k) w1 HPL.out HWL.out HB1.out).mono ?_
        rintro _ w2 ⟨rfl, rfl⟩
        by_cases hf : (M'.length + k) % 64 = 0
        · have hfd : decide ((M'.length + k) % 64 = 0) = true := by simpa using hf
          rw [hfd]
          clear hfd
          have HB2 : Hid (HBox w2.drew b 156 (wordsV (wordsAt mixL1 h0 M')) (putB part (M'.length % 64) (t.data.toList.take k)) (M'.length + k)) := HB1.out
          have HF := hidMO hf
          have HP1 := hidMO hp1
          have HKL := hidMO hkl
          have HBW : Hid (b < w2.drew.heap.size) := Nat.lt_of_lt_of_le hb (HOO.out.trans (HO1.out.but _)).size
          have HRX := hidMO HB2.out.rangePre
          have HRC := hidMO HB2.out.rangePart
          rw [HWL.out] at HRC
          have HMIX := hidMO (fun v => mix1_list (wordsAt mixL1 h0 M') (putB part (M'.length % 64) (t.data.toList.take k)) v HPL.out (wordsAt1_ok M'))
          have HYO := hidMO (ones_words (mixL1 (wordsAt mixL1 h0 M') (putB part (M'.length % 64) (t.data.toList.take k))))
          have HYL : Hid ((wordsV (mixL1 (wordsAt mixL1 h0 M') (putB part (M'.length % 64) (t.data.toList.take k)))).toArray.size = 5) := by unfold Hid; rw [List.size_toArray, wordsV_len, (mixL1_ok _ _).len]
          have HFU := hidMO (fun (W : World) (hW : HBox W b 156 (wordsV (wordsAt mixL1 h0 M')) (putB part (M'.length % 64) (t.data.toList.take k)) (M'.length + k)) => hash_full HP1.out HP2.out HKL.out (by have := HK.out; have := HF.out; omega) hW (by rw [(mixL1_ok _ _).len, (wordsAt1_ok M').len]))
          have HSX : Hid ((Tryz.prog.info? 149).map (·.size) = some (wordsV (wordsAt mixL1 h0 M')).length) := by unfold Hid; rw [HWL.out]; exact size31
          have HSC : Hid ((Tryz.prog.info? 151).map (·.size) = some (bytesVO (putB part (M'.length % 64) (t.data.toList.take k))).length) := by unfold Hid; rw [bytesV_lenO, HPL.out]; exact size33
          clear hf hkl hp1
          generalize wordsV (mixL1 (wordsAt mixL1 h0 M') (putB part (M'.length % 64) (t.data.toList.take k))) = ys at *
          generalize wordsV (wordsAt mixL1 h0 M') = xs at *
          generalize hcs : bytesVO (putB part (M'.length % 64) (t.data.toList.take k)) = cs at *
          clear hcs
          go_wp2_with fail
          refine wp_region_any (by kernel_rfl) ?_
          change wpAny _ _ _ _ _ _ _ (World.drew _)
          refine wpAny_take (i := 0) (oi := { dst := some 28, op := .move (.tmp 0), type := 204, pos := "sha1.go:26", after := #[], guard := none }) (v := .pointer (some ⟨b, 0, none⟩)) rfl (by kernel_rfl) (by kernel_rfl) (by kernel_rfl) (fun _ _ _ h => h) (Or.inl ⟨by rfl, fun w => by go_simp⟩) ?_
          simp only [Act.put, List.setIfInBounds_toArray, List.set_cons_zero, List.set_cons_succ]
          refine wpAny_take (i := 1) (oi := { dst := some 29, op := .move (.tmp 0), type := 204, pos := "sha1.go:26", after := #[], guard := none }) (v := .pointer (some ⟨b, 0, none⟩)) rfl (by kernel_rfl) (by kernel_rfl) (by kernel_rfl) (fun _ _ _ h => h) (Or.inl ⟨by rfl, fun w => by go_simp⟩) ?_
          simp only [Act.put, List.setIfInBounds_toArray, List.set_cons_zero, List.set_cons_succ]
          refine wpAny_take (i := 2) (oi := { dst := some 30, op := .nilCheck (.tmp 29), type := 0, pos := "sha1.go:26", after := #[{ on := 1, ground := .data }], guard := none }) (v := .pointer (some ⟨b, 0, none⟩)) rfl (by kernel_rfl) (by kernel_rfl) (by kernel_rfl) (fun _ _ _ h => h) (Or.inl ⟨by rfl, fun w => by go_simp⟩) ?_
          simp only [Act.put, List.setIfInBounds_toArray, List.set_cons_zero, List.set_cons_succ]
          refine wpAny_take (i := 3) (oi := { dst := some 31, op := .fieldAddr 156 (.tmp 30) 0, type := 0, pos := "sha1.go:26", after := #[{ on := 2, ground := .data }], guard := none }) (v := .pointer (some ⟨b, 0, none⟩)) rfl (by kernel_rfl) (by kernel_rfl) (by kernel_rfl) (fun _ _ _ h => h) (Or.inl ⟨by rfl, fun w => by go_simp⟩) ?_
          simp only [Act.put, List.setIfInBounds_toArray, List.set_cons_zero, List.set_cons_succ]
          refine wpAny_take (i := 5) (oi := { dst := some 33, op := .move (.tmp 0), type := 204, pos := "sha1.go:26", after := #[], guard := none }) (v := .pointer (some ⟨b, 0, none⟩)) rfl (by kernel_rfl) (by kernel_rfl) (by kernel_rfl) (fun _ _ _ h => h) (Or.inl ⟨by rfl, fun w => by go_simp⟩) ?_
          simp only [Act.put, List.setIfInBounds_toArray, List.set_cons_zero, List.set_cons_succ]
          refine wpAny_take (i := 6) (oi := { dst := some 34, op := .nilCheck (.tmp 33), type := 0, pos := "sha1.go:26", after := #[{ on := 5, ground := .data }], guard := none }) (v := .pointer (some ⟨b, 0, none⟩)) rfl (by kernel_rfl) (by kernel_rfl) (by kernel_rfl) (fun _ _ _ h => h) (Or.inl ⟨by rfl, fun w => by go_simp⟩) ?_
          simp only [Act.put, List.setIfInBounds_toArray, List.set_cons_zero, List.set_cons_succ]
          refine wpAny_take (i := 7) (oi := { dst := some 35, op := .fieldAddr 156 (.tmp 34) 1, type := 0, pos := "sha1.go:26", after := #[{ on := 6, ground := .data }], guard := none }) (v := .pointer (some ⟨b, 5, none⟩)) rfl (by kernel_rfl) (by kernel_rfl) (by kernel_rfl) (fun _ _ _ h => h) (Or.inl ⟨by rfl, fun w => by go_simp⟩) ?_
          simp only [Act.put, List.setIfInBounds_toArray, List.set_cons_zero, List.set_cons_succ]
          refine wpAny_take (i := 8) (oi := { dst := some 36, op := .fieldAddr 154 (.tmp 35) 0, type := 0, pos := "sha1.go:26", after := #[{ on := 7, ground := .data }], guard := none }) (v := .pointer (some ⟨b, 5, none⟩)) rfl (by kernel_rfl) (by kernel_rfl) (by kernel_rfl) (fun _ _ _ h => h) (Or.inl ⟨by rfl, fun w => by go_simp⟩) ?_
          simp only [Act.put, List.setIfInBounds_toArray, List.set_cons_zero, List.set_cons_succ]
          refine wpAny_two (i := 4) (j := 9) (oi := { dst := some 32, op := .load 149 (.tmp 31), type := 149, pos := "sha1.go:26", after := #[{ on := 3, ground := .data }], guard := none }) (oj := { dst := some 37, op := .load 151 (.tmp 36), type := 151, pos := "sha1.go:26", after := #[{ on := 8, ground := .data }], guard := none }) (vi := .agg xs.toArray) (vj := .agg cs.toArray) (l2 := #[true, true, true, true, true, true, true, true, true, true, false, false, false, false]) (by kernel_rfl) rfl rfl (by kernel_rfl) (by kernel_rfl) (fun _ => rfl) (fun _ => rfl) ?yiB ?yjB (by rfl) (by kernel_rfl) (by kernel_rfl) ?restB
          case yiB =>
            intro a' ha K hK
            rcases ha with rfl | rfl
            · exact wp_load_mid 149 (.tmp 31) rfl b 0 rfl xs _ HRX.out Tryz.underlying149 rfl HSX.out hK
            · exact wp_load_mid 149 (.tmp 31) rfl b 0 rfl xs _ HRX.out Tryz.underlying149 rfl HSX.out hK
          case yjB =>
            intro a' ha K hK
            rcases ha with rfl | rfl
            · exact wp_load_mid 151 (.tmp 36) rfl b 5 rfl cs _ HRC.out Tryz.underlying151 rfl HSC.out hK
            · exact wp_load_mid 151 (.tmp 36) rfl b 5 rfl cs _ HRC.out Tryz.underlying151 rfl HSC.out hK
          simp only [Act.put, List.setIfInBounds_toArray, List.set_cons_zero, List.set_cons_succ]
          refine wpAny_ready (rs := [10]) (by kernel_rfl) (by simp) (AllReady.cons (o := { dst := some 38, op := .call { callee := .value (.func 144), args := #[.tmp 32, .tmp 37], argTypes := #[149, 151] }, type := 149, pos := "sha1.go:26", after := #[{ on := 4, ground := .data }, { on := 9, ground := .data }], guard := none }) rfl (fun K hK => ?_) AllReady.nil)
          rw [if_pos (by rfl)]
          go_simp
          go_at_call 144
          refine (HMIX.out _).mono ?_
          rintro _ w3 ⟨rfl, hb3⟩
          refine hK _ _ ?_
          clear hK K
          have HB3 := hidMO (HB2.out.same (hb3.block b HBW.out))
          have HTY : Hid (w3.there b 0 ys.toArray.size) := by
            have := HB3.out.therePre
            rw [HWL.out] at this
            unfold Hid
            rw [HYL.out]; exact this
          simp only [List.setIfInBounds_toArray, List.set_cons_zero, List.set_cons_succ]
          refine wpAny_ready (rs := [11]) (by kernel_rfl) (by simp) (AllReady.cons (o := { dst := some 39, op := .nilCheck (.tmp 28), type := 0, pos := "sha1.go:26", after := #[{ on := 0, ground := .data }, { on := 0, ground := .phase }, { on := 1, ground := .phase }, { on := 2, ground := .phase }, { on := 3, ground := .phase }, { on := 4, ground := .phase }, { on := 5, ground := .phase }, { on := 6, ground := .phase }, { on := 7, ground := .phase }, { on := 8, ground := .phase }, { on := 9, ground := .phase }, { on := 10, ground := .phase }], guard := none }) rfl (fun K hK => ?_) AllReady.nil)
          rw [if_pos (by rfl)]
          go_simp
          refine hK _ _ ?_
          clear hK K
          simp only [List.setIfInBounds_toArray, List.set_cons_zero, List.set_cons_succ]
          refine wpAny_ready (rs := [12]) (by kernel_rfl) (by simp) (AllReady.cons (o := { dst := some 40, op := .fieldAddr 156 (.tmp 39) 0, type := 0, pos := "sha1.go:26", after := #[{ on := 11, ground := .data }, { on := 0, ground := .phase }, { on := 1, ground := .phase }, { on := 2, ground := .phase }, { on := 3, ground := .phase }, { on := 4, ground := .phase }, { on := 5, ground := .phase }, { on := 6, ground := .phase }, { on := 7, ground := .phase }, { on := 8, ground := .phase }, { on := 9, ground := .phase }, { on := 10, ground := .phase }], guard := none }) rfl (fun K hK => ?_) AllReady.nil)
          rw [if_pos (by rfl)]
          go_simp
          refine hK _ _ ?_
          clear hK K
          simp only [List.setIfInBounds_toArray, List.set_cons_zero, List.set_cons_succ]
          refine wpAny_ready (rs := [13]) (by kernel_rfl) (by simp) (AllReady.cons (o := { dst := none, op := .store 149 (.tmp 40) (.tmp 38), type := 0, pos := "sha1.go:26", after := #[{ on := 12, ground := .data }, { on := 10, ground := .data }, { on := 10, ground := .chain }, { on := 0, ground := .phase }, { on := 1, ground := .phase }, { on := 2, ground := .phase }, { on := 3, ground := .phase }, { on := 4, ground := .phase }, { on := 5, ground := .phase }, { on := 6, ground := .phase }, { on := 7, ground := .phase }, { on := 8, ground := .phase }, { on := 9, ground := .phase }, { on := 10, ground := .phase }], guard := none }) rfl (fun K hK => ?_) AllReady.nil)
          rw [if_pos (by rfl)]
          refine wp_store_mid 149 (.tmp 40) (.tmp 38) rfl b 0 ys.toArray rfl rfl HTY.out (by rw [HYL.out]; exact size31) HYO.out ?_
          refine hK _ _ ?_
          clear hK K
          simp only [Act.put]
          refine wpAny_done (by kernel_rfl) ?_ _
          have HFU2 := hidMO (HFU.out w3 HB3.out)
          have HBU : Hid (But b w.heap.size w (w3.setCells b 0 ys)) := ((show But b w.heap.size w w2.drew from (HOO.out.trans (HO1.out.but _)).drewN 1).trans (But.ofBelow (hb3.mono (HOO.out.trans (HO1.out.but _)).size))).trans ((OnlyO.setCells _ 0 (OnlyO.refl b w3)).but _)
          clear hb3
          generalize w3.setCells b 0 ys = W at *
          go_wp2
          go_roundw
          case rel => exact ⟨t.extract k t.size, M' ++ t.data.toList.take k, rfl, text_next _ _ t k HMT.out, HFU2.out, HBU.out⟩
          case measure =>
            have := HK.out
            show (t.extract k t.size).size < t.size
            rw [ByteArray.size_extract]; omega
        · have hfd : decide ((M'.length + k) % 64 = 0) = false := by simpa using hf
          rw [hfd]
          have hlt : M'.length % 64 + k < 64 := by have := HK.out; omega
          have HMO := hidMO (hash_more hp1 HP2.out hkl hlt HB1.out)
          have HBU := hidMO (HOO.out.trans (HO1.out.but _))
          clear hfd
          go_wp2
          go_roundw
          case rel => exact ⟨t.extract k t.size, M' ++ t.data.toList.take k, rfl, text_next _ _ t k HMT.out, HMO.out, HBU.out⟩
          case measure =>
            have := HK.out
            show (t.extract k t.size).size < t.size
            rw [ByteArray.size_extract]; omega
      · have hti : ¬ ((0 : Int) < (t.size : Int)) := by omega
        go_wp2
        have HE : Hid (M' = M ++ s.data.toList) := by
          have h := HMT.out
          have ht : t.data.toList = [] := List.eq_nil_of_length_eq_zero (by rw [Array.length_toList, ByteArray.size_data]; omega)
          rw [ht, List.append_nil] at h
          exact h
        have HR : Hid (HashS mixL1 h0 156 wr b (M ++ s.data.toList)) := by
          unfold Hid; rw [← HE.out]
          exact HashT.loose ⟨part, hp1, HP2.out, HP3.out⟩ (by rw [(wordsAt1_ok M').len]; rfl)
        exact bodyPost_end (results_none Tryz.results94 _ _ _) rfl ⟨rfl, HR.out, HOO.out⟩
/-- The sum of a text. -/
def sha1L (M : List UInt8) : List UInt8 := wordsB (wordsAt mixL1 h0 (M ++ padB M.length))
theorem sha1L_len (M : List UInt8) : (sha1L M).length = 20 := by unfold sha1L; rw [wordsB_len, (wordsAt1_ok _).len]
def zB1 : Array Value := (wordsV (List.replicate 5 0) ++ (bytesVO (List.replicate 64 0) ++ [Value.int .u64 0])).toArray
theorem zero38 (w : World) : (zeroValue 156).run Tryz.prog w = .ok (.agg zB1) w := by kernel_rfl
theorem size38 : (Tryz.prog.info? 156).map (·.size) = some 70 := by kernel_rfl
theorem row38 : ∃ d, Tryz.prog.underlying 156 = some d ∧ d.isRow = true := ⟨_, Tryz.underlying156, rfl⟩
/-- An untouched sum. -/
theorem hashS_zero1 (w : World) (b : Nat) (h : w.heap[b]? = some (.cells zB1 156 (0, 0))) : HashS mixL1 h0 156 w b [] :=
  ⟨List.replicate 5 0, List.replicate 64 0, rfl, rfl, fun h => absurd rfl h, rfl, h⟩
/-- All cells of a sum. -/
def cellsH (ws : List Nat) (part : List UInt8) (n : Nat) : List Value := wordsV ws ++ (bytesVO part ++ [Value.int .u64 (n : Int)])
theorem cellsH_one (ws : List Nat) (part : List UInt8) (n : Nat) : (cellsH ws part n).toArray.all (·.oneCell') = true := all_oneCell_toArray (by
  intro v hv
  simp only [cellsH, wordsV, bytesVO, List.mem_append, List.mem_map, List.mem_singleton] at hv
  rcases hv with ⟨c, _, rfl⟩ | ⟨c, _, rfl⟩ | rfl <;> rfl)
theorem cellsH_range {w : World} {b t : Nat} {ws : List Nat} {part : List UInt8} {n : Nat} (h : HBox w b t (wordsV ws) part n) : w.rangeAt b 0 (cellsH ws part n) := by
  intro j v hv
  rw [cell_of_row w b (0 + j) _ t (0, 0) h, Nat.zero_add, List.getElem?_toArray]
  exact hv
set_option maxRecDepth 100000 in
set_option maxHeartbeats 1600000 in
set_option maxRecDepth 100000 in
theorem sum1_any (b : Nat) (M : List UInt8) (w : World) (hb : b < w.heap.size) (hM : M.length ≤ 549755813888) (h : HashS mixL1 h0 156 w b M) :
    Calls Tryz.prog 95 #[.pointer (some ⟨b, 0, none⟩)] w fun e w' => e = .returned (.string ⟨(sha1L M).toArray⟩) ∧ Below w.heap.size w w' := by
  obtain ⟨ws, part, h1, h2, h3, h4, h5⟩ := h
  obtain ⟨n, hn⟩ : ∃ n, n = M.length := ⟨_, rfl⟩
  have HN := hidMO hn
  have hn5 : n ≤ 549755813888 := by rw [hn]; exact hM
  rw [← hn] at h5
  obtain ⟨d, hd1, hd2⟩ := row38
  have hz := zero38
  have HR := hidMO (cellsH_range h5)
  have HCL : Hid ((cellsH ws part n).length = 70) := by unfold Hid cellsH; rw [List.length_append, List.length_append, wordsV_len, bytesV_lenO, h1, h2]; rfl
  have HSZ : Hid ((Tryz.prog.info? 156).map (·.size) = some (cellsH ws part n).length) := by unfold Hid; rw [HCL.out]; exact size38
  have HONE := hidMO (cellsH_one ws part n)
  have HNEW : Hid ((w.alloc (.cells zB1 156)).heap[w.heap.size]? = some (.cells zB1 156 (0, 0))) := heap_alloc_new w _
  have HBOX : Hid (HBox ((w.alloc (.cells zB1 156)).setCells w.heap.size 0 (cellsH ws part n)) w.heap.size 156 (wordsV ws) part n) := by
    have hx := setCells_box w.heap.size 156 [] (cellsH ws part n) zB1.toList [] (w.alloc (.cells zB1 156)) (by rw [HCL.out]; rfl) (by simpa using HNEW.out)
    unfold Hid HBox
    simpa [cellsH] using hx
  have HSZ2 : Hid ((cellsH ws part n).toArray.size = 70) := by unfold Hid; rw [List.size_toArray]; exact HCL.out
  have HTH : Hid ((w.alloc (.cells zB1 156)).there w.heap.size 0 (cellsH ws part n).toArray.size) := by
    unfold Hid
    rw [HSZ2.out]
    intro j hj
    refine ⟨?_, frozen_of_row _ w.heap.size (0 + j) _ 156 HNEW.out⟩
    rw [cell_of_row _ w.heap.size (0 + j) _ 156 (0, 0) HNEW.out, Nat.zero_add]
    exact Option.isSome_iff_exists.2 ⟨_, Array.getElem?_eq_getElem (show j < zB1.size from hj)⟩
  have HBL : Hid (Below w.heap.size w ((w.alloc (.cells zB1 156)).setCells w.heap.size 0 (cellsH ws part n))) := ((Below.refl _ _).alloc (Nat.le_refl _) _).trans ((OnlyO.setCells (cellsH ws part n) 0 (OnlyO.refl w.heap.size (w.alloc (.cells zB1 156)))).below (Nat.le_refl _))
  have HCN := hidMO (h5.cellN h2)
  rw [wordsV_len, h1] at HCN
  have HH : Hid (HashS mixL1 h0 156 ((w.alloc (.cells zB1 156)).setCells w.heap.size 0 (cellsH ws part n)) w.heap.size M) := ⟨ws, part, h1, h2, h3, h4, by rw [← hn]; exact HBOX.out⟩
  have hHW : w.heap.size < ((w.alloc (.cells zB1 156)).setCells w.heap.size 0 (cellsH ws part n)).heap.size := by
    have := (Array.getElem?_eq_some_iff.1 (show _ = some _ from HBOX.out)).1
    exact this
  generalize cellsH ws part n = cs at *
  clear h1 h2 h3 h4 h5 hn
  generalize hZ : zB1 = Z at *
  clear hZ
  have hcn : ((w.alloc (.cells Z 156)).setCells w.heap.size 0 cs).cell? ⟨b, 69, none⟩ = some (.int .u64 (n : Int)) := (HBL.out.cell (p := ⟨b, 69, none⟩) hb).trans HCN.out
  go_enter Tryz.func95, Tryz.ntmps95
  go_wp2_with (first
    | (refine wpList_load_mid rfl 156 (.tmp 5) rfl b 0 rfl cs _ HR.out hd1 hd2 HSZ.out ?_)
    | (refine wpList_store_mid0 rfl rfl 156 (.tmp 3) (.tmp 6) rfl w.heap.size 0 cs.toArray rfl rfl HTH.out (by rw [HSZ2.out]; exact size38) HONE.out ?_))
  generalize hW : (w.alloc (.cells Z 156)).setCells w.heap.size 0 cs = W at *
  clear hW hz HR HTH HNEW HBOX HCN
  go_wp2_with fail
  refine (padding_any n W (by omega)).mono ?_
  rintro _ w1 ⟨rfl, hb1⟩
  have HB1 : Hid (Below w.heap.size w w1) := HBL.out.trans (hb1.mono HBL.out.size)
  have HH1 := hidMO (HH.out.same (hb1.block w.heap.size hHW))
  have HW1 : Hid (w.heap.size < w1.heap.size) := Nat.lt_of_lt_of_le hHW hb1.size
  have HPL : Hid ((⟨(padB n).toArray⟩ : ByteArray).size ≤ 100) := by
    unfold Hid
    show (padB n).toArray.size ≤ 100
    rw [List.size_toArray, padB_len]; unfold padN; omega
  have HPT : Hid ((⟨(padB n).toArray⟩ : ByteArray).data.toList = padB n) := rfl
  clear hb1 hcn
  generalize (⟨(padB n).toArray⟩ : ByteArray) = pd at *
  go_wp2_with fail
  refine (write1_any w.heap.size M pd w1 HW1.out (by have := HPL.out; have := HN.out; omega) HH1.out).mono ?_
  rintro _ w2 ⟨rfl, hh2, hb2⟩
  rw [HPT.out] at hh2
  have HB2 : Hid (Below w.heap.size w w2) := HB1.out.trans ((hb2.mono (Nat.le_of_lt HW1.out)).below (Nat.le_refl _))
  have HW2 : Hid (w.heap.size < w2.heap.size) := Nat.lt_of_lt_of_le HW1.out hb2.size
  obtain ⟨ws2, part2, q1, q2, q3, q4, q5⟩ := hh2
  have hne : M ++ padB n ≠ [] := fun he => by
    have := congrArg List.length he
    rw [List.length_append, padB_len] at this
    simp at this
  have HWS := hidMO (q3 hne)
  have HRG := hidMO q5.rangePre
  have HL2 : Hid (ws2.length = 5) := q1
  have HBD : Hid (∀ j, ws2.getD j 0 < 4294967296) := fun j => by rw [HWS.out]; exact (wordsAt1_ok _).bd j
  have HWT := hidMO (wordsText_any w.heap.size 0 5 ws2 w2 (by rw [HL2.out]; decide) HBD.out HRG.out HW2.out)
  rw [HL2.out, HWS.out] at HWT
  clear hb2 q1 q2 q3 q4 q5 hne
  go_wp2_with fail
  refine HWT.out.mono ?_
  rintro _ w3 ⟨rfl, hb3⟩
  have HB3 : Hid (Below w.heap.size w w3) := HB2.out.trans (hb3.mono HB2.out.size)
  have HSH : Hid (wordsB (wordsAt mixL1 h0 (M ++ padB n)) = sha1L M) := by unfold Hid sha1L; rw [HN.out]
  clear hb3
  rw [HSH.out]
  go_wp2
  go_ret
  exact ⟨rfl, HB3.out⟩
set_option maxRecDepth 100000 in
set_option maxHeartbeats 800000 in
set_option maxRecDepth 100000 in
theorem once1_any (s : ByteArray) (w : World) (hs : s.size ≤ 549755813888) :
    Calls Tryz.prog 50 #[.string s] w fun e w' => e = .returned (.string ⟨(sha1L s.data.toList).toArray⟩) ∧ Below w.heap.size w w' := by
  have hz := zero38
  have HNEW : Hid ((w.alloc (.cells zB1 156)).heap[w.heap.size]? = some (.cells zB1 156 (0, 0))) := heap_alloc_new w _
  have HH := hidMO (hashS_zero1 _ _ HNEW.out)
  have HB0 : Hid (Below w.heap.size w (w.alloc (.cells zB1 156))) := (Below.refl _ _).alloc (Nat.le_refl _) _
  have HLT : Hid (w.heap.size < (w.alloc (.cells zB1 156)).heap.size) := by unfold Hid; simp
  generalize hZ : zB1 = Z at *
  clear hZ HNEW
  go_enter Tryz.func50, Tryz.ntmps50
  go_wp2_with fail
  generalize w.alloc (.cells Z 156) = W at *
  refine (write1_any w.heap.size [] s W HLT.out (by simp; omega) HH.out).mono ?_
  rintro _ w1 ⟨rfl, hh1, hb1⟩
  rw [List.nil_append] at hh1
  have HH1 := hidMO hh1
  have HB1 : Hid (Below w.heap.size w w1) := HB0.out.trans ((hb1.mono (Nat.le_of_lt HLT.out)).below (Nat.le_refl _))
  have HL1 : Hid (w.heap.size < w1.heap.size) := Nat.lt_of_lt_of_le HLT.out hb1.size
  clear hh1 hb1 hz
  go_wp2_with fail
  refine (sum1_any w.heap.size s.data.toList w1 HL1.out (by simpa using hs) HH1.out).mono ?_
  rintro _ w2 ⟨rfl, hb2⟩
  have HB2 : Hid (Below w.heap.size w w2) := HB1.out.trans (hb2.mono HB1.out.size)
  clear hb2
  go_wp2
  go_ret
  exact ⟨rfl, HB2.out⟩
end Go.Proofs.YtlmeoahcpmikiaaGreatDoor
