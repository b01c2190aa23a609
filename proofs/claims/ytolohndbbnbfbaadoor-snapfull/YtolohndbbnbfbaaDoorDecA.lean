/-
  Decode.
-/
import Derived.Test.YtolohndbbnbfbaaDoorCutA
import Derived.Laws.ResultCell
namespace Go.Proofs.YtolohndbbnbfbaaDoor
open Go.RowKit

theorem box2 (w : World) (m : Nat) (x0 x1 v0 v1 : Value) : ((((w.alloc (.cells #[x0, x1] 52)).drewN m).setCell ⟨w.heap.size, 0, none⟩ v0).setCell ⟨w.heap.size, 1, none⟩ v1).heap[w.heap.size]? = some (.cells #[v0, v1] 52 (0, 0)) := by
  have h1 : ((w.alloc (.cells #[x0, x1] 52)).drewN m).heap[w.heap.size]? = some (.cells #[x0, x1] 52 (0, 0)) := heap_alloc_new w _
  simp only [World.setCell, Array.getElem?_modify, if_pos, h1]
  rfl
theorem below2 (w : World) (m : Nat) (x0 x1 v0 v1 : Value) : Below w.heap.size w ((((w.alloc (.cells #[x0, x1] 52)).drewN m).setCell ⟨w.heap.size, 0, none⟩ v0).setCell ⟨w.heap.size, 1, none⟩ v1) :=
  ((below_drewN ((Below.refl _ _).alloc (Nat.le_refl _) _) m).setCell (p := ⟨w.heap.size, 0, none⟩) (Nat.le_refl _) _).setCell (p := ⟨w.heap.size, 1, none⟩) (Nat.le_refl _) _
theorem results_box {fn : Func} {p u : Tmp} {ty : TypeId} {P : Program} (h : fn.results = #[.cell p ty, .tmp u]) (tmps : Array Value) (w : World) (g : Nat) (cs : Array Value)
    (hp : tmps.getD p undef = .pointer (some ⟨g, 0, none⟩)) (hr : (loadVar ty ⟨g, 0, none⟩).run P w = .ok (.agg cs) w) :
    (results fn tmps).run P w = .ok (.tuple #[.agg cs, tmps.getD u undef]) w := by
  rw [results_cell_tmp h, hp]
  simp [asAddr, hr, Result.andThen]
theorem size52 : (Tryd.prog.info? 52).map (·.size) = some 2 := by kernel_rfl
noncomputable def decQ (E F T : Bool) (k n : Nat) (D : List UInt8) : Nat × List UInt8 × Nat :=
  if (E && F && T) = false then (0, [], 3) else if k = 0 then (0, [], 10) else if 65000 < n then (0, [], 2)
  else if D.length < n then (0, [], 6) else if n < D.length then (0, [], 3) else (k, D, 0)
noncomputable def decR (l : List UInt8) : Nat × List UInt8 × Nat :=
  decQ (cutR 0 l).2.2 (cutR 32 (cutR 0 l).1).2.2 (numT (cutR 32 (cutR 0 l).1).2.1) (kindL (cutR 32 (cutR 0 l).1).1) (numV (cutR 32 (cutR 0 l).1).2.1) (cutR 0 l).2.1

theorem cutR_len (c : UInt8) (l : List UInt8) : (cutR c l).1.length ≤ l.length ∧ (cutR c l).2.1.length ≤ l.length := by
  unfold cutR
  split
  · simp
  · rename_i p q h
    have := (split_some h).2.1
    rw [this]; simp; omega
set_option maxHeartbeats 3200000 in
theorem decode_any (s : ByteArray) (w : World) (hs : s.size ≤ 9223372036854775807) (hN : NamesAt w) :
    Calls Tryd.prog 35 #[.string s] w fun e w' => e = .returned (.tuple #[.agg #[.int .i64 ((decR s.data.toList).1 : Nat), .string ⟨(decR s.data.toList).2.1.toArray⟩], .int .i64 ((decR s.data.toList).2.2 : Nat)]) ∧ Below w.heap.size w w' := by
  have HB : Hid (Below w.heap.size w (w.alloc (.cells #[.int .i64 0, .string ⟨#[]⟩] 52))) := (Below.refl _ _).alloc (Nat.le_refl _) _
  have HN := hidM (hN.below HB.out)
  have HG : Hid ((w.alloc (.cells #[.int .i64 0, .string ⟨#[]⟩] 52)).heap[w.heap.size]? = some (.cells #[.int .i64 0, .string ⟨#[]⟩] 52 (0, 0))) := heap_alloc_new w _
  have HR : Hid (decR s.data.toList = decQ (cutR 0 s.data.toList).2.2 (cutR 32 (cutR 0 s.data.toList).1).2.2 (numT (cutR 32 (cutR 0 s.data.toList).1).2.1) (kindL (cutR 32 (cutR 0 s.data.toList).1).1) (numV (cutR 32 (cutR 0 s.data.toList).1).2.1) (cutR 0 s.data.toList).2.1) := rfl
  have hl : s.data.toList.length = s.size := by simp
  have hl1 := (cutR_len 0 s.data.toList).1
  have hl2 := (cutR_len 0 s.data.toList).2
  have H1 : Hid (∀ W, Calls Tryd.prog 63 #[.string s, .string ⟨#[0]⟩] W fun e w' => e = .returned (.tuple #[.string ⟨(cutR 0 s.data.toList).1.toArray⟩, .string ⟨(cutR 0 s.data.toList).2.1.toArray⟩, .bool (cutR 0 s.data.toList).2.2]) ∧ ∃ m, w' = W.drewN m) := fun W => cut_any s 0 W hs
  generalize hA : cutR 0 s.data.toList = A at *
  obtain ⟨a1, a2, E⟩ := A
  simp only at HR H1 hl1 hl2
  have H2 : Hid (∀ W, Calls Tryd.prog 63 #[.string ⟨a1.toArray⟩, .string ⟨#[32]⟩] W fun e w' => e = .returned (.tuple #[.string ⟨(cutR 32 a1).1.toArray⟩, .string ⟨(cutR 32 a1).2.1.toArray⟩, .bool (cutR 32 a1).2.2]) ∧ ∃ m, w' = W.drewN m) := fun W => cut_any ⟨a1.toArray⟩ 32 W (by show a1.toArray.size ≤ _; rw [List.size_toArray]; omega)
  generalize cutR 32 a1 = B at *
  obtain ⟨b1, b2, F⟩ := B
  simp only at HR H2
  have H3 : Hid (∀ W, Calls Tryd.prog 39 #[.string ⟨b2.toArray⟩] W fun e w' => e = .returned (.tuple #[.int .i64 (numV b2 : Nat), .bool (numT b2)]) ∧ w' = W) := fun W => number_any ⟨b2.toArray⟩ W
  have H4 : Hid (∀ W, NamesAt W → Calls Tryd.prog 41 #[.string ⟨b1.toArray⟩] W fun e w' => e = .returned (.int .i64 (kindL b1 : Nat)) ∧ w' = W) := fun W h => kind_any ⟨b1.toArray⟩ W h
  have hDL : Hid ((⟨a2.toArray⟩ : ByteArray).size = a2.length) := by unfold Hid; show a2.toArray.size = _; simp
  have hDD : Hid (a2 = (⟨a2.toArray⟩ : ByteArray).data.toList) := rfl
  have hn9 : numV b2 ≤ 999999999 := by unfold numV; split; exact num_le _ (by assumption); omega
  generalize numV b2 = n at *
  generalize numT b2 = T at *
  generalize kindL b1 = k at *
  generalize (⟨a1.toArray⟩ : ByteArray) = X1 at *
  generalize (⟨b1.toArray⟩ : ByteArray) = Y1 at *
  generalize (⟨b2.toArray⟩ : ByteArray) = Y2 at *
  have hd1 : a2.length ≤ 9223372036854775807 := by omega
  clear hN hA hl hl1 hl2
  go_enter Tryd.func35, Tryd.ntmps35
  go_wp2_with fail
  refine (H1.out _).mono ?_
  rintro _ w1 ⟨rfl, m1, rfl⟩
  go_wp2_with fail
  refine (H2.out _).mono ?_
  rintro _ w1 ⟨rfl, m2, rfl⟩
  go_wp2_with fail
  refine (H3.out _).mono ?_
  rintro _ w1 ⟨rfl, rfl⟩
  have HLD : Hid (∀ m v0 v1, (loadVar 52 ⟨w.heap.size, 0, none⟩).run Tryd.prog ((((w.alloc (.cells #[.int .i64 0, .string ⟨#[]⟩] 52)).drewN m).setCell ⟨w.heap.size, 0, none⟩ v0).setCell ⟨w.heap.size, 1, none⟩ v1) = .ok (.agg #[v0, v1]) _) :=
    fun m v0 v1 => run_loadVar_row _ w.heap.size 52 52 #[v0, v1] (0, 0) _ (box2 w m _ _ v0 v1) Tryd.underlying52 rfl size52
  by_cases hx : (E && F && T) = false
  · have HQ : Hid (decR s.data.toList = (0, [], 3)) := by unfold Hid; rw [HR.out]; unfold decQ; rw [if_pos hx]
    clear HR H1 H2 H3 H4
    cases E <;> cases F <;> cases T
    case true.true.true => cases hx
    all_goals (
      go_wp2_with fail
      refine bodyPost_ret (results_box rfl _ _ w.heap.size _ rfl (HLD.out _ _ _)) rfl ?_
      exact ⟨by rw [HQ.out]; rfl, below2 w _ _ _ _ _⟩)
  · obtain ⟨rfl, rfl, rfl⟩ : E = true ∧ F = true ∧ T = true := by simpa using hx
    have HND := hidM (HN.out.below (below_drewN (Below.refl _ _) (m1 + m2)))
    go_wp2_with fail
    refine (H4.out _ HND.out).mono ?_
    rintro _ w1 ⟨rfl, rfl⟩
    have HQ : Hid (decR s.data.toList = if k = 0 then (0, [], 10) else if 65000 < n then (0, [], 2)
       else if a2.length < n then (0, [], 6) else if n < a2.length then (0, [], 3) else (k, a2, 0)) := by unfold Hid; rw [HR.out]; unfold decQ; rw [if_neg hx]
    clear HR H1 H2 H3 H4 hx HND
    have dsz : (⟨a2.toArray⟩ : ByteArray).size = a2.length := by show a2.toArray.size = _; simp
    by_cases h1 : k = 0
    · rw [if_pos h1] at HQ
      subst h1
      go_wp2_with fail
      refine bodyPost_ret (results_box rfl _ _ w.heap.size _ rfl (HLD.out _ _ _)) rfl ?_
      exact ⟨by rw [HQ.out]; rfl, below2 w _ _ _ _ _⟩
    rw [if_neg h1] at HQ
    have g1 : ((k : Int) == 0) = false := beq_false_of_ne (by omega)
    by_cases h2 : 65000 < n
    · rw [if_pos h2] at HQ
      have g2 : decide ((65000 : Int) < (n : Int)) = true := by simp; omega
      go_wp2_with fail
      refine bodyPost_ret (results_box rfl _ _ w.heap.size _ rfl (HLD.out _ _ _)) rfl ?_
      exact ⟨by rw [HQ.out]; rfl, below2 w _ _ _ _ _⟩
    rw [if_neg h2] at HQ
    have g2 : decide ((65000 : Int) < (n : Int)) = false := by simp; omega
    generalize hZ : (⟨a2.toArray⟩ : ByteArray) = Z at *
    by_cases h3 : a2.length < n
    · rw [if_pos h3] at HQ
      have g3 : decide ((Z.size : Int) < (n : Int)) = true := by simp; omega
      go_wp2_with fail
      refine bodyPost_ret (results_box rfl _ _ w.heap.size _ rfl (HLD.out _ _ _)) rfl ?_
      exact ⟨by rw [HQ.out]; rfl, below2 w _ _ _ _ _⟩
    rw [if_neg h3] at HQ
    have g3 : decide ((Z.size : Int) < (n : Int)) = false := by simp; omega
    by_cases h4 : n < a2.length
    · rw [if_pos h4] at HQ
      have g4 : decide ((n : Int) < (Z.size : Int)) = true := by simp; omega
      go_wp2_with fail
      refine bodyPost_ret (results_box rfl _ _ w.heap.size _ rfl (HLD.out _ _ _)) rfl ?_
      exact ⟨by rw [HQ.out]; rfl, below2 w _ _ _ _ _⟩
    rw [if_neg h4] at HQ
    have g4 : decide ((n : Int) < (Z.size : Int)) = false := by simp; omega
    go_wp2_with fail
    refine bodyPost_ret (results_box rfl _ _ w.heap.size _ rfl (HLD.out _ _ _)) rfl ?_
    exact ⟨by rw [HQ.out, ← hZ]; rfl, below2 w _ _ _ _ _⟩
end Go.Proofs.YtolohndbbnbfbaaDoor
