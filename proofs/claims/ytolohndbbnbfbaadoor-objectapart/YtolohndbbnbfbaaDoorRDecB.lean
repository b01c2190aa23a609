/-
  The document's Decode.
-/
import Derived.Test.YtolohndbbnbfbaaDoorRDecA
namespace Go.Proofs.YtolohndbbnbfbaaDoor
open Go.RowKit

theorem ext_mid (s : ByteArray) (a b c : List UInt8) (h : s.data.toList = a ++ b ++ c) : s.extract a.length (a.length + b.length) = ⟨b.toArray⟩ := by
  apply ba_of
  rw [ByteArray.data_extract, Array.toList_extract, List.extract_eq_take_drop, h, List.append_assoc, List.drop_left]
  rw [show a.length + b.length - a.length = b.length by omega, List.take_left]

theorem box3 (V : World) (g : Nat) (x0 x1 v0 v1 : Value) (h : V.heap[g]? = some (.cells #[x0, x1] 52 (0, 0))) : ((V.setCell ⟨g, 0, none⟩ v0).setCell ⟨g, 1, none⟩ v1).heap[g]? = some (.cells #[v0, v1] 52 (0, 0)) := by
  simp only [World.setCell, Array.getElem?_modify, if_pos, h]
  rfl
theorem frozen_no (V : World) (g : Nat) (cs : Array Value) (t : TypeId) (h : V.heap[g]? = some (.cells cs t (0, 0))) (j : Nat) : V.frozen? ⟨g, j, none⟩ = false := by
  unfold World.frozen?
  rw [h]
  simp
set_option maxHeartbeats 6400000 in
theorem rdecode_any (s : ByteArray) (w : World) (hs : s.size ≤ 9223372036854775807) :
    Calls Tryd.prog 38 #[.string s] w fun e w' => e = .returned (.tuple #[.agg #[.int .i64 ((decR s.data.toList).1 : Nat), .string ⟨(decR s.data.toList).2.1.toArray⟩], .int .i64 ((decR s.data.toList).2.2 : Nat)]) ∧ Below w.heap.size w w' := by
  have hl : s.data.toList.length = s.size := by simp
  have HLD : Hid (∀ v0 v1, (loadVar 52 ⟨w.heap.size, 0, none⟩).run Tryd.prog (w.alloc (.cells #[v0, v1] 52)) = .ok (.agg #[v0, v1]) _) :=
    fun v0 v1 => run_loadVar_row _ w.heap.size 52 52 #[v0, v1] (0, 0) _ (heap_alloc_new w _) Tryd.underlying52 rfl size52
  have HBA : Hid (∀ v0 v1, Below w.heap.size w (w.alloc (.cells #[v0, v1] 52))) := fun v0 v1 => (Below.refl _ _).alloc (Nat.le_refl _) _
  have HF1 : Hid (∀ V, Calls Tryd.prog 66 #[.string s, .int .u8 0] V fun e w' => e = .returned (.int .i64 (Lib.indexByte s.data.toList 0)) ∧ w' = V) := fun V => find_any s 0 V hs
  cases h0 : splitC 0 s.data.toList with
  | none =>
    have HQ : Hid (decR s.data.toList = (0, [], 3)) := by unfold Hid decR cutR; rw [h0]; unfold decQ; rfl
    rw [(split_none h0).1] at HF1
    clear h0 hl
    go_enter Tryd.func38, Tryd.ntmps38
    go_wp2_with fail
    refine (HF1.out _).mono ?_
    rintro _ w2 ⟨rfl, rfl⟩
    go_wp2_with fail
    refine bodyPost_ret (results_box rfl _ _ w.heap.size _ rfl (HLD.out _ _)) rfl ?_
    exact ⟨by rw [HQ.out]; rfl, HBA.out _ _⟩
  | some x =>
    obtain ⟨p, q⟩ := x
    obtain ⟨h1, h2, _⟩ := split_some h0
    rw [h1] at HF1
    have hp : p.length + 1 + q.length = s.size := by rw [← hl, h2]; simp; omega
    have HP : Hid (s.extract 0 p.length = ⟨p.toArray⟩) := ba_of (by rw [ext_head, h2, List.take_left])
    have HF2 : Hid (∀ V, Calls Tryd.prog 66 #[.string ⟨p.toArray⟩, .int .u8 32] V fun e w' => e = .returned (.int .i64 (Lib.indexByte p 32)) ∧ w' = V) := fun V => find_any ⟨p.toArray⟩ 32 V (by show p.toArray.size ≤ _; simp; omega)
    cases h3 : splitC 32 p with
    | none =>
      have HQ : Hid (decR s.data.toList = (0, [], 3)) := by unfold Hid decR cutR; rw [h0]; simp only; rw [h3]; unfold decQ; rfl
      rw [(split_none h3).1] at HF2
      have hext := HP.out
      generalize p.length = n at *
      have c1 : (0 : Int) ≤ (n : Int) := by omega
      have c2 : (n : Int) ≤ (s.size : Int) := by omega
      clear h0 h1 h2 h3 hl
      go_enter Tryd.func38, Tryd.ntmps38
      go_wp2_with fail
      refine (HF1.out _).mono ?_
      rintro _ w2 ⟨rfl, rfl⟩
      go_wp2_with fail
      refine (HF2.out _).mono ?_
      rintro _ w2 ⟨rfl, rfl⟩
      go_wp2_with fail
      refine bodyPost_ret (results_box rfl _ _ w.heap.size _ rfl (HLD.out _ _)) rfl ?_
      exact ⟨by rw [HQ.out]; rfl, HBA.out _ _⟩
    | some y =>
      obtain ⟨a, b⟩ := y
      obtain ⟨h4, h5, _⟩ := split_some h3
      rw [h4] at HF2
      have hab : a.length + 1 + b.length = p.length := by rw [h5]; simp; omega
      have hext := HP.out
      have hex2 : s.extract (a.length + 1) p.length = ⟨b.toArray⟩ := by
        have h := ext_mid s (a ++ [32]) b (0 :: q) (by rw [h2, h5]; simp)
        rw [← h]
        congr 1
        · simp
        · simp; try omega
      have hex3 : s.extract 0 a.length = ⟨a.toArray⟩ := ba_of (by rw [ext_head, h2, h5, List.append_assoc, List.take_left])
      have hex4 : s.extract (p.length + 1) s.size = ⟨q.toArray⟩ := ba_of (by rw [ext_tail, h2, List.drop_append, List.drop_of_length_le (by omega)]; simp)
      have HNR : Hid (∀ V, Calls Tryd.prog 40 #[.string ⟨b.toArray⟩] V fun e w' => e = .returned (.int .i64 (numR b)) ∧ w' = V) := fun V => rnumber_any ⟨b.toArray⟩ V
      have HKN : Hid (∀ V, Calls Tryd.prog 42 #[.string ⟨a.toArray⟩] V fun e w' => e = .returned (.int .i64 (kindL a : Nat)) ∧ Below V.heap.size V w') := fun V => rkind_any ⟨a.toArray⟩ V
      have HRR : Hid (decR s.data.toList = decQ true true (numT b) (kindL a) (numV b) q) := by unfold Hid decR cutR; rw [h0]; simp only; rw [h3]
      have hql : (⟨q.toArray⟩ : ByteArray).size = q.length := by show q.toArray.size = _; simp
      clear h0 h1 h2 h3 h4 h5 hl HP
      generalize hA : (⟨a.toArray⟩ : ByteArray) = A at *
      generalize hB : (⟨b.toArray⟩ : ByteArray) = B at *
      generalize hP : (⟨p.toArray⟩ : ByteArray) = P at *
      generalize hQ : (⟨q.toArray⟩ : ByteArray) = Q at *
      generalize a.length = i at *
      generalize p.length = n at *
      have c1 : (0 : Int) ≤ (n : Int) := by omega
      have c2 : (n : Int) ≤ (s.size : Int) := by omega
      have c3 : (0 : Int) ≤ (i : Int) := by omega
      have c4 : (i : Int) ≤ (s.size : Int) := by omega
      have c5 : (i : Int) + 1 ≤ (n : Int) := by omega
      have c6 : (0 : Int) ≤ (i : Int) + 1 := by omega
      have c7 : (n : Int) + 1 ≤ (s.size : Int) := by omega
      have c8 : (0 : Int) ≤ (n : Int) + 1 := by omega
      clear hA hB hP
      by_cases hk : NumOk b
      · rw [numT_yes hk, numV_yes hk] at HRR
        rw [numR_yes hk] at HNR
        have hv := num_le _ hk
        generalize valL b = v at *
        clear hk
        have g1 : decide ((v : Int) < 0) = false := by simp
        go_enter Tryd.func38, Tryd.ntmps38
        go_wp2_with fail
        refine (HF1.out _).mono ?_
        rintro _ w2 ⟨rfl, rfl⟩
        go_wp2_with fail
        refine (HF2.out _).mono ?_
        rintro _ w2 ⟨rfl, rfl⟩
        go_wp2_with fail
        refine (HNR.out _).mono ?_
        rintro _ w2 ⟨rfl, rfl⟩
        go_wp2_with fail
        refine (HNR.out _).mono ?_
        rintro _ w2 ⟨rfl, rfl⟩
        go_wp2_with fail
        have HZ : Hid (w.heap.size < (w.alloc (.cells #[.int .i64 0, .string ⟨#[]⟩] 52)).heap.size) := by unfold Hid; simp
        have HBW := hidM (HBA.out (.int .i64 0) (.string ⟨#[]⟩))
        have HGW : Hid ((w.alloc (.cells #[.int .i64 0, .string ⟨#[]⟩] 52)).heap[w.heap.size]? = some (.cells #[.int .i64 0, .string ⟨#[]⟩] 52 (0, 0))) := heap_alloc_new w _
        generalize w.alloc (.cells #[.int .i64 0, .string ⟨#[]⟩] 52) = W at *
        refine (HKN.out _).mono ?_
        rintro _ w3 ⟨rfl, hb3⟩
        have hg3 : w3.heap[w.heap.size]? = some (.cells #[.int .i64 0, .string ⟨#[]⟩] 52 (0, 0)) := (hb3.block _ HZ.out).trans HGW.out
        have HG3 := hidM hg3
        have hc0 : w3.cell? ⟨w.heap.size, 0, none⟩ = some (.int .i64 0) := by rw [cell_of_row w3 _ 0 _ 52 (0, 0) hg3]; rfl
        have hc1 : w3.cell? ⟨w.heap.size, 1, none⟩ = some (.string ⟨#[]⟩) := by rw [cell_of_row w3 _ 1 _ 52 (0, 0) hg3]; rfl
        have hf0 := frozen_no w3 _ _ _ hg3 0
        have hf1 := frozen_no w3 _ _ _ hg3 1
        have HBB := hidM (two_le HBW.out hb3 (Nat.le_of_lt HZ.out))
        have HL3 : Hid (∀ v0 v1, (loadVar 52 ⟨w.heap.size, 0, none⟩).run Tryd.prog ((w3.setCell ⟨w.heap.size, 0, none⟩ v0).setCell ⟨w.heap.size, 1, none⟩ v1) = .ok (.agg #[v0, v1]) _) :=
          fun v0 v1 => run_loadVar_row _ w.heap.size 52 52 #[v0, v1] (0, 0) _ (box3 w3 _ _ _ v0 v1 hg3) Tryd.underlying52 rfl size52
        have HB3 : Hid (∀ v0 v1, Below w.heap.size w ((w3.setCell ⟨w.heap.size, 0, none⟩ v0).setCell ⟨w.heap.size, 1, none⟩ v1)) := fun v0 v1 => (HBB.out.setCell (p := ⟨w.heap.size, 0, none⟩) (Nat.le_refl _) _).setCell (p := ⟨w.heap.size, 1, none⟩) (Nat.le_refl _) _
        have HZ3 : Hid (w.heap.size < w3.heap.size) := Nat.lt_of_lt_of_le HZ.out hb3.size
        have HQ : Hid (decR s.data.toList = if kindL a = 0 then (0, [], 10) else if 65000 < v then (0, [], 2)
          else if q.length < v then (0, [], 6) else if v < q.length then (0, [], 3) else (kindL a, q, 0)) := by unfold Hid; rw [HRR.out]; unfold decQ; rw [if_neg (by decide)]
        clear HRR hb3 hg3 HF1 HF2 HNR HLD HBA HGW HBW HZ
        generalize kindL a = k at *
        by_cases h1 : k = 0
        · rw [if_pos h1] at HQ
          subst h1
          go_wp2_with fail
          refine bodyPost_ret (results_box rfl _ _ w.heap.size _ rfl (HL3.out _ _)) rfl ?_
          exact ⟨by rw [HQ.out]; rfl, HB3.out _ _⟩
        rw [if_neg h1] at HQ
        have e1 : ((k : Int) == 0) = false := beq_false_of_ne (by omega)
        by_cases h2 : 65000 < v
        · rw [if_pos h2] at HQ
          have g2 : decide ((65000 : Int) < (v : Int)) = true := by simp; omega
          go_wp2_with fail
          refine bodyPost_ret (results_box rfl _ _ w.heap.size _ rfl (HL3.out _ _)) rfl ?_
          exact ⟨by rw [HQ.out]; rfl, HB3.out _ _⟩
        rw [if_neg h2] at HQ
        have g2 : decide ((65000 : Int) < (v : Int)) = false := by simp; omega
        by_cases h3 : q.length < v
        · rw [if_pos h3] at HQ
          have g3 : decide ((Q.size : Int) < (v : Int)) = true := by simp; omega
          go_wp2_with fail
          refine bodyPost_ret (results_box rfl _ _ w.heap.size _ rfl (HL3.out _ _)) rfl ?_
          exact ⟨by rw [HQ.out]; rfl, HB3.out _ _⟩
        rw [if_neg h3] at HQ
        have g3 : decide ((Q.size : Int) < (v : Int)) = false := by simp; omega
        by_cases h4 : v < q.length
        · rw [if_pos h4] at HQ
          have g4 : decide ((v : Int) < (Q.size : Int)) = true := by simp; omega
          go_wp2_with fail
          refine bodyPost_ret (results_box rfl _ _ w.heap.size _ rfl (HL3.out _ _)) rfl ?_
          exact ⟨by rw [HQ.out]; rfl, HB3.out _ _⟩
        rw [if_neg h4] at HQ
        have g4 : decide ((v : Int) < (Q.size : Int)) = false := by simp; omega
        go_wp2_with fail
        refine (HKN.out _).mono ?_
        rintro _ w4 ⟨rfl, hb4⟩
        have hg4 : w4.heap[w.heap.size]? = some (.cells #[.int .i64 0, .string ⟨#[]⟩] 52 (0, 0)) := (hb4.block _ HZ3.out).trans HG3.out
        clear hc0 hc1 hf0 hf1 HL3 HB3
        have hc0 : w4.cell? ⟨w.heap.size, 0, none⟩ = some (.int .i64 0) := by rw [cell_of_row w4 _ 0 _ 52 (0, 0) hg4]; rfl
        have hc1 : w4.cell? ⟨w.heap.size, 1, none⟩ = some (.string ⟨#[]⟩) := by rw [cell_of_row w4 _ 1 _ 52 (0, 0) hg4]; rfl
        have hf0 := frozen_no w4 _ _ _ hg4 0
        have hf1 := frozen_no w4 _ _ _ hg4 1
        have HB4 := hidM (two_le HBB.out hb4 (Nat.le_of_lt HZ3.out))
        have HL3 : Hid (∀ v0 v1, (loadVar 52 ⟨w.heap.size, 0, none⟩).run Tryd.prog ((w4.setCell ⟨w.heap.size, 0, none⟩ v0).setCell ⟨w.heap.size, 1, none⟩ v1) = .ok (.agg #[v0, v1]) _) :=
          fun v0 v1 => run_loadVar_row _ w.heap.size 52 52 #[v0, v1] (0, 0) _ (box3 w4 _ _ _ v0 v1 hg4) Tryd.underlying52 rfl size52
        have HB3 : Hid (∀ v0 v1, Below w.heap.size w ((w4.setCell ⟨w.heap.size, 0, none⟩ v0).setCell ⟨w.heap.size, 1, none⟩ v1)) := fun v0 v1 => (HB4.out.setCell (p := ⟨w.heap.size, 0, none⟩) (Nat.le_refl _) _).setCell (p := ⟨w.heap.size, 1, none⟩) (Nat.le_refl _) _
        clear hb4 hg4 HB4 HBB HG3 HZ3 HKN
        go_wp2_with fail
        refine bodyPost_ret (results_box rfl _ _ w.heap.size _ rfl (HL3.out _ _)) rfl ?_
        exact ⟨by rw [HQ.out, ← hQ]; rfl, HB3.out _ _⟩
      · rw [numT_no hk, numV_no hk] at HRR
        rw [numR_no hk] at HNR
        have HQ : Hid (decR s.data.toList = (0, [], 3)) := by unfold Hid; rw [HRR.out]; unfold decQ; rfl
        clear hk HRR
        go_enter Tryd.func38, Tryd.ntmps38
        go_wp2_with fail
        refine (HF1.out _).mono ?_
        rintro _ w2 ⟨rfl, rfl⟩
        go_wp2_with fail
        refine (HF2.out _).mono ?_
        rintro _ w2 ⟨rfl, rfl⟩
        go_wp2_with fail
        refine (HNR.out _).mono ?_
        rintro _ w2 ⟨rfl, rfl⟩
        go_wp2_with fail
        refine bodyPost_ret (results_box rfl _ _ w.heap.size _ rfl (HLD.out _ _)) rfl ?_
        exact ⟨by rw [HQ.out]; rfl, HBA.out _ _⟩

end Go.Proofs.YtolohndbbnbfbaaDoor
