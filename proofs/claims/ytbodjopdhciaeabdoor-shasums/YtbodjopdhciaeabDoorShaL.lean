/-
  Walks of sha: (*Hash256).Write.
-/
import Derived.Test.YtbodjopdhciaeabDoorShaK
namespace Go.Proofs.YtbodjopdhciaeabDoor
open Go.RowKit


set_option maxHeartbeats 1600000 in
theorem write2_any (b : Nat) (M : List UInt8) (s : ByteArray) (w : World) (hb : b < w.heap.size) (hM : M.length + s.size ≤ 1099511627776) (hTab : Tab2 w) (hb1 : b ≠ 1) (h : HashS mixL2 h2 41 w b M) :
    Calls Tryd.prog 15 #[.pointer (some ⟨b, 0, none⟩), .string s] w fun e w' => e = .returned (.tuple #[]) ∧ HashS mixL2 h2 41 w' b (M ++ s.data.toList) ∧ But b w.heap.size w w' := by
  have hc := h.cellN (o := 72) rfl
  have HTab := hidM hTab
  clear hTab
  have H := hidM h
  obtain ⟨n, hn⟩ : ∃ n, n = M.length := ⟨_, rfl⟩
  have HN := hidM hn
  rw [← hn] at hc hM
  clear h hn
  go_enter Tryd.func15, Tryd.ntmps15
  by_cases h0n : n = 0
  · have h0b : ((n : Int) == 0) = true := by simp; omega
    have h0i : (n : Int) = 0 := by omega
    go_wp2_with fail
    refine (start2_any w).mono ?_
    rintro _ w1 ⟨rfl, hb1⟩
    have HM0 : Hid (M = []) := List.eq_nil_of_length_eq_zero (by rw [← HN.out]; exact h0n)
    have HT : Hid (HashT mixL2 h2 41 (w1.setCells b 0 (wordsV h2)) b M) := by unfold Hid; rw [HM0.out]; exact first_words (by rw [← HM0.out]; exact H.out) (hb1.block b hb)
    have HO : Hid (But b w.heap.size w (w1.setCells b 0 (wordsV h2))) := (But.ofBelow hb1).trans ((Only.setCells (wordsV h2) 0 (Only.refl b w1)).but _)
    have HTH : Hid (w1.there b 0 (wordsV h2).toArray.size) := (H.out.same (hb1.block b hb)).thereW
    have HONE := hidM (ones_words h2)
    have HSZ : Hid ((wordsV h2).toArray.size = 8) := rfl
    have HLST : Hid ((wordsV h2).toArray.toList = wordsV h2) := rfl
    generalize (wordsV h2).toArray = D at *
    go_wp2_with (first
      | (refine wpList_store_mid0 rfl rfl 39 (.tmp 13) (.tmp 11) rfl b 0 D rfl rfl HTH.out (by rw [HSZ.out]; exact size39) HONE.out ?_; rw [HLST.out]; generalize w1.setCells b 0 (wordsV h2) = W at *))
    clear hb1 HTH HONE HSZ HLST hc H h0b h0i
    go_loopw [1] (fun v wr => ∃ (t : ByteArray) (M' : List UInt8), v = .string t ∧ M' ++ t.data.toList = M ++ s.data.toList ∧ HashT mixL2 h2 41 wr b M' ∧ But b w.heap.size w wr) (fun v _ => (strOf v).size)
    case atStart => exact ⟨s, M, rfl, rfl, HT.out, HO.out⟩
    case round =>
      obtain ⟨t, M', rfl, hMt, hT, hO⟩ := hrel
      clear HT HO
      have HMT := hidM hMt
      have HOO := hidM hO
      have hlen : M'.length + t.size = n + s.size := by
        have := congrArg List.length hMt
        simp only [List.length_append, Array.length_toList, ByteArray.size_data, ← HN.out] at this
        exact this
      clear hMt hO
      obtain ⟨part, hp1, hp2, hp3⟩ := hT
      have HP2 := hidM hp2
      have HP3 := hidM hp3
      clear hp2 hp3
      by_cases ht0 : 0 < t.size
      · have hti : (0 : Int) < (t.size : Int) := by omega
        go_wp2_with fail
        refine (take_any b 41 8 _ part M'.length t _ hp1 (by rw [wordsV_len]; exact (wordsAt2_ok M').len) (by omega) HP3.out).mono ?_
        rintro _ w1 ⟨k, hk, rfl, hB1, hO1⟩
        have hkt : k ≤ t.size := by omega
        have hki : (k : Int) ≤ (t.size : Int) := by omega
        have HK := hidM hk
        have hkl : (t.data.toList.take k).length = k := by rw [List.length_take]; simp; omega
        have HWL : Hid ((wordsV (wordsAt mixL2 h2 M')).length = 8) := by unfold Hid; rw [wordsV_len]; exact (wordsAt2_ok M').len
        have HPL : Hid ((putB part (M'.length % 64) (t.data.toList.take k)).length = 64) := by unfold Hid; rw [putB_len _ _ _ (by rw [hkl]; omega), hp1]
        have HB1 := hidM hB1
        have HO1 := hidM hO1
        clear hk hB1 hO1
        go_wp2_with fail
        refine (full_any b 41 8 _ _ (M'.length + k) w1 HPL.out HWL.out HB1.out).mono ?_
        rintro _ w2 ⟨rfl, rfl⟩
        by_cases hf : (M'.length + k) % 64 = 0
        · have hfd : decide ((M'.length + k) % 64 = 0) = true := by simpa using hf
          rw [hfd]
          clear hfd
          have HB2 : Hid (HBox w2.drew b 41 (wordsV (wordsAt mixL2 h2 M')) (putB part (M'.length % 64) (t.data.toList.take k)) (M'.length + k)) := HB1.out
          have HF := hidM hf
          have HP1 := hidM hp1
          have HKL := hidM hkl
          have HBW : Hid (b < w2.drew.heap.size) := Nat.lt_of_lt_of_le hb (HOO.out.trans (HO1.out.but _)).size
          have HRX := hidM HB2.out.rangePre
          have HRC := hidM HB2.out.rangePart
          rw [HWL.out] at HRC
          have HMIX := hidM (fun v (_ : True) => mix2_list (wordsAt mixL2 h2 M') (putB part (M'.length % 64) (t.data.toList.take k)) v HPL.out (wordsAt2_ok M'))
          have HTB : Hid (Tab2 w2.drew) := HTab.out.but ((HOO.out.trans (HO1.out.but _)).drewN 1) HTab.out.1 hb1
          have HYO := hidM (ones_words (mixL2 (wordsAt mixL2 h2 M') (putB part (M'.length % 64) (t.data.toList.take k))))
          have HYL : Hid ((wordsV (mixL2 (wordsAt mixL2 h2 M') (putB part (M'.length % 64) (t.data.toList.take k)))).toArray.size = 8) := by unfold Hid; rw [List.size_toArray, wordsV_len, (mixL2_ok _ _).len]
          have HFU := hidM (fun (W : World) (hW : HBox W b 41 (wordsV (wordsAt mixL2 h2 M')) (putB part (M'.length % 64) (t.data.toList.take k)) (M'.length + k)) => hash_full HP1.out HP2.out HKL.out (by have := HK.out; have := HF.out; omega) hW (by rw [(mixL2_ok _ _).len, (wordsAt2_ok M').len]))
          have HSX : Hid ((Tryd.prog.info? 39).map (·.size) = some (wordsV (wordsAt mixL2 h2 M')).length) := by unfold Hid; rw [HWL.out]; exact size39
          have HSC : Hid ((Tryd.prog.info? 33).map (·.size) = some (bytesV (putB part (M'.length % 64) (t.data.toList.take k))).length) := by unfold Hid; rw [bytesV_len, HPL.out]; exact size33
          clear hf hkl hp1
          generalize wordsV (mixL2 (wordsAt mixL2 h2 M') (putB part (M'.length % 64) (t.data.toList.take k))) = ys at *
          generalize wordsV (wordsAt mixL2 h2 M') = xs at *
          generalize hcs : bytesV (putB part (M'.length % 64) (t.data.toList.take k)) = cs at *
          clear hcs
          go_wp2_with fail
          refine wp_region_any (by kernel_rfl) ?_
          change wpAny _ _ _ _ _ _ _ (World.drew _)
          refine wpAny_take (i := 0) (oi := { dst := some 28, op := .move (.tmp 0), type := 70, pos := "sha256.go:41", after := #[], guard := none }) (v := .pointer (some ⟨b, 0, none⟩)) rfl (by kernel_rfl) (by kernel_rfl) (by kernel_rfl) (fun _ _ _ h => h) (Or.inl ⟨by rfl, fun w => by go_simp⟩) ?_
          simp only [Act.put, List.setIfInBounds_toArray, List.set_cons_zero, List.set_cons_succ]
          refine wpAny_take (i := 1) (oi := { dst := some 29, op := .move (.tmp 0), type := 70, pos := "sha256.go:41", after := #[], guard := none }) (v := .pointer (some ⟨b, 0, none⟩)) rfl (by kernel_rfl) (by kernel_rfl) (by kernel_rfl) (fun _ _ _ h => h) (Or.inl ⟨by rfl, fun w => by go_simp⟩) ?_
          simp only [Act.put, List.setIfInBounds_toArray, List.set_cons_zero, List.set_cons_succ]
          refine wpAny_take (i := 2) (oi := { dst := some 30, op := .nilCheck (.tmp 29), type := 0, pos := "sha256.go:41", after := #[{ on := 1, ground := .data }], guard := none }) (v := .pointer (some ⟨b, 0, none⟩)) rfl (by kernel_rfl) (by kernel_rfl) (by kernel_rfl) (fun _ _ _ h => h) (Or.inl ⟨by rfl, fun w => by go_simp⟩) ?_
          simp only [Act.put, List.setIfInBounds_toArray, List.set_cons_zero, List.set_cons_succ]
          refine wpAny_take (i := 3) (oi := { dst := some 31, op := .fieldAddr 41 (.tmp 30) 0, type := 0, pos := "sha256.go:41", after := #[{ on := 2, ground := .data }], guard := none }) (v := .pointer (some ⟨b, 0, none⟩)) rfl (by kernel_rfl) (by kernel_rfl) (by kernel_rfl) (fun _ _ _ h => h) (Or.inl ⟨by rfl, fun w => by go_simp⟩) ?_
          simp only [Act.put, List.setIfInBounds_toArray, List.set_cons_zero, List.set_cons_succ]
          refine wpAny_take (i := 5) (oi := { dst := some 33, op := .move (.tmp 0), type := 70, pos := "sha256.go:41", after := #[], guard := none }) (v := .pointer (some ⟨b, 0, none⟩)) rfl (by kernel_rfl) (by kernel_rfl) (by kernel_rfl) (fun _ _ _ h => h) (Or.inl ⟨by rfl, fun w => by go_simp⟩) ?_
          simp only [Act.put, List.setIfInBounds_toArray, List.set_cons_zero, List.set_cons_succ]
          refine wpAny_take (i := 6) (oi := { dst := some 34, op := .nilCheck (.tmp 33), type := 0, pos := "sha256.go:41", after := #[{ on := 5, ground := .data }], guard := none }) (v := .pointer (some ⟨b, 0, none⟩)) rfl (by kernel_rfl) (by kernel_rfl) (by kernel_rfl) (fun _ _ _ h => h) (Or.inl ⟨by rfl, fun w => by go_simp⟩) ?_
          simp only [Act.put, List.setIfInBounds_toArray, List.set_cons_zero, List.set_cons_succ]
          refine wpAny_take (i := 7) (oi := { dst := some 35, op := .fieldAddr 41 (.tmp 34) 1, type := 0, pos := "sha256.go:41", after := #[{ on := 6, ground := .data }], guard := none }) (v := .pointer (some ⟨b, 8, none⟩)) rfl (by kernel_rfl) (by kernel_rfl) (by kernel_rfl) (fun _ _ _ h => h) (Or.inl ⟨by rfl, fun w => by go_simp⟩) ?_
          simp only [Act.put, List.setIfInBounds_toArray, List.set_cons_zero, List.set_cons_succ]
          refine wpAny_take (i := 8) (oi := { dst := some 36, op := .fieldAddr 36 (.tmp 35) 0, type := 0, pos := "sha256.go:41", after := #[{ on := 7, ground := .data }], guard := none }) (v := .pointer (some ⟨b, 8, none⟩)) rfl (by kernel_rfl) (by kernel_rfl) (by kernel_rfl) (fun _ _ _ h => h) (Or.inl ⟨by rfl, fun w => by go_simp⟩) ?_
          simp only [Act.put, List.setIfInBounds_toArray, List.set_cons_zero, List.set_cons_succ]
          refine wpAny_two (i := 4) (j := 9) (oi := { dst := some 32, op := .load 39 (.tmp 31), type := 39, pos := "sha256.go:41", after := #[{ on := 3, ground := .data }], guard := none }) (oj := { dst := some 37, op := .load 33 (.tmp 36), type := 33, pos := "sha256.go:41", after := #[{ on := 8, ground := .data }], guard := none }) (vi := .agg xs.toArray) (vj := .agg cs.toArray) (l2 := #[true, true, true, true, true, true, true, true, true, true, false, false, false, false]) (by kernel_rfl) rfl rfl (by kernel_rfl) (by kernel_rfl) (fun _ => rfl) (fun _ => rfl) ?yiA ?yjA (by rfl) (by kernel_rfl) (by kernel_rfl) ?restA
          case yiA =>
            intro a' ha K hK
            rcases ha with rfl | rfl
            · exact wp_load_mid 39 (.tmp 31) rfl b 0 rfl xs _ HRX.out Tryd.underlying39 rfl HSX.out hK
            · exact wp_load_mid 39 (.tmp 31) rfl b 0 rfl xs _ HRX.out Tryd.underlying39 rfl HSX.out hK
          case yjA =>
            intro a' ha K hK
            rcases ha with rfl | rfl
            · exact wp_load_mid 33 (.tmp 36) rfl b 8 rfl cs _ HRC.out Tryd.underlying33 rfl HSC.out hK
            · exact wp_load_mid 33 (.tmp 36) rfl b 8 rfl cs _ HRC.out Tryd.underlying33 rfl HSC.out hK
          simp only [Act.put, List.setIfInBounds_toArray, List.set_cons_zero, List.set_cons_succ]
          refine wpAny_ready (rs := [10]) (by kernel_rfl) (by simp) (AllReady.cons (o := { dst := some 38, op := .call { callee := .value (.func 42), args := #[.tmp 32, .tmp 37], argTypes := #[39, 33] }, type := 39, pos := "sha256.go:41", after := #[{ on := 4, ground := .data }, { on := 9, ground := .data }], guard := none }) rfl (fun K hK => ?_) AllReady.nil)
          rw [if_pos (by rfl)]
          go_simp
          go_at_call 42
          refine (HMIX.out _ trivial HTB.out).mono ?_
          rintro _ w3 ⟨rfl, hb3⟩
          refine hK _ _ ?_
          clear hK K
          have HB3 := hidM (HB2.out.same (hb3.block b HBW.out))
          have HTY : Hid (w3.there b 0 ys.toArray.size) := by
            have := HB3.out.therePre
            rw [HWL.out] at this
            unfold Hid
            rw [HYL.out]; exact this
          simp only [List.setIfInBounds_toArray, List.set_cons_zero, List.set_cons_succ]
          refine wpAny_ready (rs := [11]) (by kernel_rfl) (by simp) (AllReady.cons (o := { dst := some 39, op := .nilCheck (.tmp 28), type := 0, pos := "sha256.go:41", after := #[{ on := 0, ground := .data }, { on := 0, ground := .phase }, { on := 1, ground := .phase }, { on := 2, ground := .phase }, { on := 3, ground := .phase }, { on := 4, ground := .phase }, { on := 5, ground := .phase }, { on := 6, ground := .phase }, { on := 7, ground := .phase }, { on := 8, ground := .phase }, { on := 9, ground := .phase }, { on := 10, ground := .phase }], guard := none }) rfl (fun K hK => ?_) AllReady.nil)
          rw [if_pos (by rfl)]
          go_simp
          refine hK _ _ ?_
          clear hK K
          simp only [List.setIfInBounds_toArray, List.set_cons_zero, List.set_cons_succ]
          refine wpAny_ready (rs := [12]) (by kernel_rfl) (by simp) (AllReady.cons (o := { dst := some 40, op := .fieldAddr 41 (.tmp 39) 0, type := 0, pos := "sha256.go:41", after := #[{ on := 11, ground := .data }, { on := 0, ground := .phase }, { on := 1, ground := .phase }, { on := 2, ground := .phase }, { on := 3, ground := .phase }, { on := 4, ground := .phase }, { on := 5, ground := .phase }, { on := 6, ground := .phase }, { on := 7, ground := .phase }, { on := 8, ground := .phase }, { on := 9, ground := .phase }, { on := 10, ground := .phase }], guard := none }) rfl (fun K hK => ?_) AllReady.nil)
          rw [if_pos (by rfl)]
          go_simp
          refine hK _ _ ?_
          clear hK K
          simp only [List.setIfInBounds_toArray, List.set_cons_zero, List.set_cons_succ]
          refine wpAny_ready (rs := [13]) (by kernel_rfl) (by simp) (AllReady.cons (o := { dst := none, op := .store 39 (.tmp 40) (.tmp 38), type := 0, pos := "sha256.go:41", after := #[{ on := 12, ground := .data }, { on := 10, ground := .data }, { on := 10, ground := .chain }, { on := 0, ground := .phase }, { on := 1, ground := .phase }, { on := 2, ground := .phase }, { on := 3, ground := .phase }, { on := 4, ground := .phase }, { on := 5, ground := .phase }, { on := 6, ground := .phase }, { on := 7, ground := .phase }, { on := 8, ground := .phase }, { on := 9, ground := .phase }, { on := 10, ground := .phase }], guard := none }) rfl (fun K hK => ?_) AllReady.nil)
          rw [if_pos (by rfl)]
          refine wp_store_mid 39 (.tmp 40) (.tmp 38) rfl b 0 ys.toArray rfl rfl HTY.out (by rw [HYL.out]; exact size39) HYO.out ?_
          refine hK _ _ ?_
          clear hK K
          simp only [Act.put]
          refine wpAny_done (by kernel_rfl) ?_ _
          have HFU2 := hidM (HFU.out w3 HB3.out)
          have HBU : Hid (But b w.heap.size w (w3.setCells b 0 ys)) := ((show But b w.heap.size w w2.drew from (HOO.out.trans (HO1.out.but _)).drewN 1).trans (But.ofBelow (hb3.mono (HOO.out.trans (HO1.out.but _)).size))).trans ((Only.setCells _ 0 (Only.refl b w3)).but _)
          clear hb3
          generalize w3.setCells b 0 ys = W at *
          go_wp2
          go_roundw
          case rel => exact ⟨t.extract k t.size, M' ++ t.data.toList.take k, rfl, text_next _ _ t k HMT.out, HFU2.out, HBU.out⟩
          case measure =>
            have := HK.out
            show (t.extract k t.size).size < t.size
            rw [ByteArray.size_extract]; omega
        · have hfd : decide ((M'.length + k) % 64 = 0) = false := by simpa using hf
          rw [hfd]
          have hlt : M'.length % 64 + k < 64 := by have := HK.out; omega
          have HMO := hidM (hash_more hp1 HP2.out hkl hlt HB1.out)
          have HBU := hidM (HOO.out.trans (HO1.out.but _))
          clear hfd
          go_wp2
          go_roundw
          case rel => exact ⟨t.extract k t.size, M' ++ t.data.toList.take k, rfl, text_next _ _ t k HMT.out, HMO.out, HBU.out⟩
          case measure =>
            have := HK.out
            show (t.extract k t.size).size < t.size
            rw [ByteArray.size_extract]; omega
      · have hti : ¬ ((0 : Int) < (t.size : Int)) := by omega
        go_wp2
        have HE : Hid (M' = M ++ s.data.toList) := by
          have h := HMT.out
          have ht : t.data.toList = [] := List.eq_nil_of_length_eq_zero (by rw [Array.length_toList, ByteArray.size_data]; omega)
          rw [ht, List.append_nil] at h
          exact h
        have HR : Hid (HashS mixL2 h2 41 wr b (M ++ s.data.toList)) := by
          unfold Hid; rw [← HE.out]
          exact HashT.loose ⟨part, hp1, HP2.out, HP3.out⟩ (by rw [(wordsAt2_ok M').len]; rfl)
        exact bodyPost_end (results_none Tryd.results15 _ _ _) rfl ⟨rfl, HR.out, HOO.out⟩
  · have HT := hidM (H.out.tight (by intro hm; rw [hm] at HN; exact h0n HN.out))
    have HO := hidM (But.refl b w.heap.size w)
    have h0i : ¬ ((n : Int) = 0) := by omega
    have h0b : ((n : Int) == 0) = false := by simp; omega
    go_wp2
    clear hc H h0i h0b
    go_loopw [1] (fun v wr => ∃ (t : ByteArray) (M' : List UInt8), v = .string t ∧ M' ++ t.data.toList = M ++ s.data.toList ∧ HashT mixL2 h2 41 wr b M' ∧ But b w.heap.size w wr) (fun v _ => (strOf v).size)
    case atStart => exact ⟨s, M, rfl, rfl, HT.out, HO.out⟩
    case round =>
      obtain ⟨t, M', rfl, hMt, hT, hO⟩ := hrel
      clear HT HO
      have HMT := hidM hMt
      have HOO := hidM hO
      have hlen : M'.length + t.size = n + s.size := by
        have := congrArg List.length hMt
        simp only [List.length_append, Array.length_toList, ByteArray.size_data, ← HN.out] at this
        exact this
      clear hMt hO
      obtain ⟨part, hp1, hp2, hp3⟩ := hT
      have HP2 := hidM hp2
      have HP3 := hidM hp3
      clear hp2 hp3
      by_cases ht0 : 0 < t.size
      · have hti : (0 : Int) < (t.size : Int) := by omega
        go_wp2_with fail
        refine (take_any b 41 8 _ part M'.length t _ hp1 (by rw [wordsV_len]; exact (wordsAt2_ok M').len) (by omega) HP3.out).mono ?_
        rintro _ w1 ⟨k, hk, rfl, hB1, hO1⟩
        have hkt : k ≤ t.size := by omega
        have hki : (k : Int) ≤ (t.size : Int) := by omega
        have HK := hidM hk
        have hkl : (t.data.toList.take k).length = k := by rw [List.length_take]; simp; omega
        have HWL : Hid ((wordsV (wordsAt mixL2 h2 M')).length = 8) := by unfold Hid; rw [wordsV_len]; exact (wordsAt2_ok M').len
        have HPL : Hid ((putB part (M'.length % 64) (t.data.toList.take k)).length = 64) := by unfold Hid; rw [putB_len _ _ _ (by rw [hkl]; omega), hp1]
        have HB1 := hidM hB1
        have HO1 := hidM hO1
        clear hk hB1 hO1
        go_wp2_with fail
        refine (full_any b 41 8 _ _ (M'.length + k) w1 HPL.out HWL.out HB1.out).mono ?_
        rintro _ w2 ⟨rfl, rfl⟩
        by_cases hf : (M'.length + k) % 64 = 0
        · have hfd : decide ((M'.length + k) % 64 = 0) = true := by simpa using hf
          rw [hfd]
          clear hfd
          have HB2 : Hid (HBox w2.drew b 41 (wordsV (wordsAt mixL2 h2 M')) (putB part (M'.length % 64) (t.data.toList.take k)) (M'.length + k)) := HB1.out
          have HF := hidM hf
          have HP1 := hidM hp1
          have HKL := hidM hkl
          have HBW : Hid (b < w2.drew.heap.size) := Nat.lt_of_lt_of_le hb (HOO.out.trans (HO1.out.but _)).size
          have HRX := hidM HB2.out.rangePre
          have HRC := hidM HB2.out.rangePart
          rw [HWL.out] at HRC
          have HMIX := hidM (fun v (_ : True) => mix2_list (wordsAt mixL2 h2 M') (putB part (M'.length % 64) (t.data.toList.take k)) v HPL.out (wordsAt2_ok M'))
          have HTB : Hid (Tab2 w2.drew) := HTab.out.but ((HOO.out.trans (HO1.out.but _)).drewN 1) HTab.out.1 hb1
          have HYO := hidM (ones_words (mixL2 (wordsAt mixL2 h2 M') (putB part (M'.length % 64) (t.data.toList.take k))))
          have HYL : Hid ((wordsV (mixL2 (wordsAt mixL2 h2 M') (putB part (M'.length % 64) (t.data.toList.take k)))).toArray.size = 8) := by unfold Hid; rw [List.size_toArray, wordsV_len, (mixL2_ok _ _).len]
          have HFU := hidM (fun (W : World) (hW : HBox W b 41 (wordsV (wordsAt mixL2 h2 M')) (putB part (M'.length % 64) (t.data.toList.take k)) (M'.length + k)) => hash_full HP1.out HP2.out HKL.out (by have := HK.out; have := HF.out; omega) hW (by rw [(mixL2_ok _ _).len, (wordsAt2_ok M').len]))
          have HSX : Hid ((Tryd.prog.info? 39).map (·.size) = some (wordsV (wordsAt mixL2 h2 M')).length) := by unfold Hid; rw [HWL.out]; exact size39
          have HSC : Hid ((Tryd.prog.info? 33).map (·.size) = some (bytesV (putB part (M'.length % 64) (t.data.toList.take k))).length) := by unfold Hid; rw [bytesV_len, HPL.out]; exact size33
          clear hf hkl hp1
          generalize wordsV (mixL2 (wordsAt mixL2 h2 M') (putB part (M'.length % 64) (t.data.toList.take k))) = ys at *
          generalize wordsV (wordsAt mixL2 h2 M') = xs at *
          generalize hcs : bytesV (putB part (M'.length % 64) (t.data.toList.take k)) = cs at *
          clear hcs
          go_wp2_with fail
          refine wp_region_any (by kernel_rfl) ?_
          change wpAny _ _ _ _ _ _ _ (World.drew _)
          refine wpAny_take (i := 0) (oi := { dst := some 28, op := .move (.tmp 0), type := 70, pos := "sha256.go:41", after := #[], guard := none }) (v := .pointer (some ⟨b, 0, none⟩)) rfl (by kernel_rfl) (by kernel_rfl) (by kernel_rfl) (fun _ _ _ h => h) (Or.inl ⟨by rfl, fun w => by go_simp⟩) ?_
          simp only [Act.put, List.setIfInBounds_toArray, List.set_cons_zero, List.set_cons_succ]
          refine wpAny_take (i := 1) (oi := { dst := some 29, op := .move (.tmp 0), type := 70, pos := "sha256.go:41", after := #[], guard := none }) (v := .pointer (some ⟨b, 0, none⟩)) rfl (by kernel_rfl) (by kernel_rfl) (by kernel_rfl) (fun _ _ _ h => h) (Or.inl ⟨by rfl, fun w => by go_simp⟩) ?_
          simp only [Act.put, List.setIfInBounds_toArray, List.set_cons_zero, List.set_cons_succ]
          refine wpAny_take (i := 2) (oi := { dst := some 30, op := .nilCheck (.tmp 29), type := 0, pos := "sha256.go:41", after := #[{ on := 1, ground := .data }], guard := none }) (v := .pointer (some ⟨b, 0, none⟩)) rfl (by kernel_rfl) (by kernel_rfl) (by kernel_rfl) (fun _ _ _ h => h) (Or.inl ⟨by rfl, fun w => by go_simp⟩) ?_
          simp only [Act.put, List.setIfInBounds_toArray, List.set_cons_zero, List.set_cons_succ]
          refine wpAny_take (i := 3) (oi := { dst := some 31, op := .fieldAddr 41 (.tmp 30) 0, type := 0, pos := "sha256.go:41", after := #[{ on := 2, ground := .data }], guard := none }) (v := .pointer (some ⟨b, 0, none⟩)) rfl (by kernel_rfl) (by kernel_rfl) (by kernel_rfl) (fun _ _ _ h => h) (Or.inl ⟨by rfl, fun w => by go_simp⟩) ?_
          simp only [Act.put, List.setIfInBounds_toArray, List.set_cons_zero, List.set_cons_succ]
          refine wpAny_take (i := 5) (oi := { dst := some 33, op := .move (.tmp 0), type := 70, pos := "sha256.go:41", after := #[], guard := none }) (v := .pointer (some ⟨b, 0, none⟩)) rfl (by kernel_rfl) (by kernel_rfl) (by kernel_rfl) (fun _ _ _ h => h) (Or.inl ⟨by rfl, fun w => by go_simp⟩) ?_
          simp only [Act.put, List.setIfInBounds_toArray, List.set_cons_zero, List.set_cons_succ]
          refine wpAny_take (i := 6) (oi := { dst := some 34, op := .nilCheck (.tmp 33), type := 0, pos := "sha256.go:41", after := #[{ on := 5, ground := .data }], guard := none }) (v := .pointer (some ⟨b, 0, none⟩)) rfl (by kernel_rfl) (by kernel_rfl) (by kernel_rfl) (fun _ _ _ h => h) (Or.inl ⟨by rfl, fun w => by go_simp⟩) ?_
          simp only [Act.put, List.setIfInBounds_toArray, List.set_cons_zero, List.set_cons_succ]
          refine wpAny_take (i := 7) (oi := { dst := some 35, op := .fieldAddr 41 (.tmp 34) 1, type := 0, pos := "sha256.go:41", after := #[{ on := 6, ground := .data }], guard := none }) (v := .pointer (some ⟨b, 8, none⟩)) rfl (by kernel_rfl) (by kernel_rfl) (by kernel_rfl) (fun _ _ _ h => h) (Or.inl ⟨by rfl, fun w => by go_simp⟩) ?_
          simp only [Act.put, List.setIfInBounds_toArray, List.set_cons_zero, List.set_cons_succ]
          refine wpAny_take (i := 8) (oi := { dst := some 36, op := .fieldAddr 36 (.tmp 35) 0, type := 0, pos := "sha256.go:41", after := #[{ on := 7, ground := .data }], guard := none }) (v := .pointer (some ⟨b, 8, none⟩)) rfl (by kernel_rfl) (by kernel_rfl) (by kernel_rfl) (fun _ _ _ h => h) (Or.inl ⟨by rfl, fun w => by go_simp⟩) ?_
          simp only [Act.put, List.setIfInBounds_toArray, List.set_cons_zero, List.set_cons_succ]
          refine wpAny_two (i := 4) (j := 9) (oi := { dst := some 32, op := .load 39 (.tmp 31), type := 39, pos := "sha256.go:41", after := #[{ on := 3, ground := .data }], guard := none }) (oj := { dst := some 37, op := .load 33 (.tmp 36), type := 33, pos := "sha256.go:41", after := #[{ on := 8, ground := .data }], guard := none }) (vi := .agg xs.toArray) (vj := .agg cs.toArray) (l2 := #[true, true, true, true, true, true, true, true, true, true, false, false, false, false]) (by kernel_rfl) rfl rfl (by kernel_rfl) (by kernel_rfl) (fun _ => rfl) (fun _ => rfl) ?yiB ?yjB (by rfl) (by kernel_rfl) (by kernel_rfl) ?restB
          case yiB =>
            intro a' ha K hK
            rcases ha with rfl | rfl
            · exact wp_load_mid 39 (.tmp 31) rfl b 0 rfl xs _ HRX.out Tryd.underlying39 rfl HSX.out hK
            · exact wp_load_mid 39 (.tmp 31) rfl b 0 rfl xs _ HRX.out Tryd.underlying39 rfl HSX.out hK
          case yjB =>
            intro a' ha K hK
            rcases ha with rfl | rfl
            · exact wp_load_mid 33 (.tmp 36) rfl b 8 rfl cs _ HRC.out Tryd.underlying33 rfl HSC.out hK
            · exact wp_load_mid 33 (.tmp 36) rfl b 8 rfl cs _ HRC.out Tryd.underlying33 rfl HSC.out hK
          simp only [Act.put, List.setIfInBounds_toArray, List.set_cons_zero, List.set_cons_succ]
          refine wpAny_ready (rs := [10]) (by kernel_rfl) (by simp) (AllReady.cons (o := { dst := some 38, op := .call { callee := .value (.func 42), args := #[.tmp 32, .tmp 37], argTypes := #[39, 33] }, type := 39, pos := "sha256.go:41", after := #[{ on := 4, ground := .data }, { on := 9, ground := .data }], guard := none }) rfl (fun K hK => ?_) AllReady.nil)
          rw [if_pos (by rfl)]
          go_simp
          go_at_call 42
          refine (HMIX.out _ trivial HTB.out).mono ?_
          rintro _ w3 ⟨rfl, hb3⟩
          refine hK _ _ ?_
          clear hK K
          have HB3 := hidM (HB2.out.same (hb3.block b HBW.out))
          have HTY : Hid (w3.there b 0 ys.toArray.size) := by
            have := HB3.out.therePre
            rw [HWL.out] at this
            unfold Hid
            rw [HYL.out]; exact this
          simp only [List.setIfInBounds_toArray, List.set_cons_zero, List.set_cons_succ]
          refine wpAny_ready (rs := [11]) (by kernel_rfl) (by simp) (AllReady.cons (o := { dst := some 39, op := .nilCheck (.tmp 28), type := 0, pos := "sha256.go:41", after := #[{ on := 0, ground := .data }, { on := 0, ground := .phase }, { on := 1, ground := .phase }, { on := 2, ground := .phase }, { on := 3, ground := .phase }, { on := 4, ground := .phase }, { on := 5, ground := .phase }, { on := 6, ground := .phase }, { on := 7, ground := .phase }, { on := 8, ground := .phase }, { on := 9, ground := .phase }, { on := 10, ground := .phase }], guard := none }) rfl (fun K hK => ?_) AllReady.nil)
          rw [if_pos (by rfl)]
          go_simp
          refine hK _ _ ?_
          clear hK K
          simp only [List.setIfInBounds_toArray, List.set_cons_zero, List.set_cons_succ]
          refine wpAny_ready (rs := [12]) (by kernel_rfl) (by simp) (AllReady.cons (o := { dst := some 40, op := .fieldAddr 41 (.tmp 39) 0, type := 0, pos := "sha256.go:41", after := #[{ on := 11, ground := .data }, { on := 0, ground := .phase }, { on := 1, ground := .phase }, { on := 2, ground := .phase }, { on := 3, ground := .phase }, { on := 4, ground := .phase }, { on := 5, ground := .phase }, { on := 6, ground := .phase }, { on := 7, ground := .phase }, { on := 8, ground := .phase }, { on := 9, ground := .phase }, { on := 10, ground := .phase }], guard := none }) rfl (fun K hK => ?_) AllReady.nil)
          rw [if_pos (by rfl)]
          go_simp
          refine hK _ _ ?_
          clear hK K
          simp only [List.setIfInBounds_toArray, List.set_cons_zero, List.set_cons_succ]
          refine wpAny_ready (rs := [13]) (by kernel_rfl) (by simp) (AllReady.cons (o := { dst := none, op := .store 39 (.tmp 40) (.tmp 38), type := 0, pos := "sha256.go:41", after := #[{ on := 12, ground := .data }, { on := 10, ground := .data }, { on := 10, ground := .chain }, { on := 0, ground := .phase }, { on := 1, ground := .phase }, { on := 2, ground := .phase }, { on := 3, ground := .phase }, { on := 4, ground := .phase }, { on := 5, ground := .phase }, { on := 6, ground := .phase }, { on := 7, ground := .phase }, { on := 8, ground := .phase }, { on := 9, ground := .phase }, { on := 10, ground := .phase }], guard := none }) rfl (fun K hK => ?_) AllReady.nil)
          rw [if_pos (by rfl)]
          refine wp_store_mid 39 (.tmp 40) (.tmp 38) rfl b 0 ys.toArray rfl rfl HTY.out (by rw [HYL.out]; exact size39) HYO.out ?_
          refine hK _ _ ?_
          clear hK K
          simp only [Act.put]
          refine wpAny_done (by kernel_rfl) ?_ _
          have HFU2 := hidM (HFU.out w3 HB3.out)
          have HBU : Hid (But b w.heap.size w (w3.setCells b 0 ys)) := ((show But b w.heap.size w w2.drew from (HOO.out.trans (HO1.out.but _)).drewN 1).trans (But.ofBelow (hb3.mono (HOO.out.trans (HO1.out.but _)).size))).trans ((Only.setCells _ 0 (Only.refl b w3)).but _)
          clear hb3
          generalize w3.setCells b 0 ys = W at *
          go_wp2
          go_roundw
          case rel => exact ⟨t.extract k t.size, M' ++ t.data.toList.take k, rfl, text_next _ _ t k HMT.out, HFU2.out, HBU.out⟩
          case measure =>
            have := HK.out
            show (t.extract k t.size).size < t.size
            rw [ByteArray.size_extract]; omega
        · have hfd : decide ((M'.length + k) % 64 = 0) = false := by simpa using hf
          rw [hfd]
          have hlt : M'.length % 64 + k < 64 := by have := HK.out; omega
          have HMO := hidM (hash_more hp1 HP2.out hkl hlt HB1.out)
          have HBU := hidM (HOO.out.trans (HO1.out.but _))
          clear hfd
          go_wp2
          go_roundw
          case rel => exact ⟨t.extract k t.size, M' ++ t.data.toList.take k, rfl, text_next _ _ t k HMT.out, HMO.out, HBU.out⟩
          case measure =>
            have := HK.out
            show (t.extract k t.size).size < t.size
            rw [ByteArray.size_extract]; omega
      · have hti : ¬ ((0 : Int) < (t.size : Int)) := by omega
        go_wp2
        have HE : Hid (M' = M ++ s.data.toList) := by
          have h := HMT.out
          have ht : t.data.toList = [] := List.eq_nil_of_length_eq_zero (by rw [Array.length_toList, ByteArray.size_data]; omega)
          rw [ht, List.append_nil] at h
          exact h
        have HR : Hid (HashS mixL2 h2 41 wr b (M ++ s.data.toList)) := by
          unfold Hid; rw [← HE.out]
          exact HashT.loose ⟨part, hp1, HP2.out, HP3.out⟩ (by rw [(wordsAt2_ok M').len]; rfl)
        exact bodyPost_end (results_none Tryd.results15 _ _ _) rfl ⟨rfl, HR.out, HOO.out⟩
end Go.Proofs.YtbodjopdhciaeabDoor
