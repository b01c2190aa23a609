/-
  attempt: what gives up by a panic is told by its number.
-/
import Derived.Test.YtekpdnlogfaggaaDltA
import Derived.Defers
import Derived.Recover
namespace Go.Proofs.Ytekpdnlogfaggaa
open Go.RowKit

theorem catch_idle (p : Addr) (w : World) :
    CallsD Try.prog 27 #[.pointer (some p)] .returning w fun e u' w' => e = .returned (.tuple #[]) ∧ u' = .returning ∧ w' = w := by
  have hnn : ∀ w, (binOp .eql 20 .nilIface .nilIface).run Try.prog w = .ok (.bool true) w := fun w => rfl
  refine callsD_of_wpS Try.func27 rfl fun c₀ cs hu => ?_
  apply wpS_seq
  apply wpS_region
  simp [wpOpsS, go_sem, recoverD, hu, Try.ntmps27, Exit.thenS]
  apply wpS_seq
  apply wpS_seq
  apply wpS_region
  simp [wpOpsS, go_sem, Exit.thenS, hnn]
  refine wpS_cond (t := true) (by simp [Act.eval, Array.replicate]) ?_
  simp only [if_true]
  refine wpS_of_wp (wp_ret ?_)
  cases c₀
  simp_all [bodyPostS, results, Try.results27, Exit.thenS]

theorem tmps27 (a b u v : Value) : (#[a] ++ ((((Array.replicate 16 u).setIfInBounds 3 b).setIfInBounds 0 b).setIfInBounds 4 b).setIfInBounds 5 v) = #[a, b, u, u, b, b, v, u, u, u, u, u, u, u, u, u, u] := by kernel_rfl
theorem catch_gave (p : Addr) (n : Nat) (v : Value) (w : World) (hp : p.block < w.heap.size) (hc : w.cell? p = some v) (hz : w.frozen? p = false) :
    CallsD Try.prog 27 #[.pointer (some p)] (.panicking [{ v := .iface 56 (.agg #[.int .i64 (n : Int)]), recovered := false }]) w fun e u' w' =>
      e = .returned (.tuple #[]) ∧ u' = .panicking [{ v := .iface 56 (.agg #[.int .i64 (n : Int)]), recovered := true }] ∧ w' = (w.alloc (.cells #[.int .i64 (n : Int)] 56)).setCell p (.int .i64 (n : Int)) := by
  have hnn : ∀ w, (binOp .eql 20 (.iface 56 (.agg #[.int .i64 (n : Int)])) .nilIface).run Try.prog w = .ok (.bool false) w := fun w => rfl
  have hta : ∀ w, (Instr.typeAssert (.iface 56 (.agg #[.int .i64 (n : Int)])) 20 56 true).run Try.prog w = .ok (.tuple #[.agg #[.int .i64 (n : Int)], .bool true]) w := fun w => by kernel_rfl
  have hfz : (w.alloc (.cells #[.int .i64 (n : Int)] 56)).frozen? p = false := by
    rw [((Below.refl w.heap.size w).alloc (Nat.le_refl _) _).frozen hp]; exact hz
  refine callsD_of_wpS Try.func27 rfl fun c₀ cs hu => ?_
  apply wpS_seq
  apply wpS_region
  simp [wpOpsS, go_sem, recoverD, hu, Try.ntmps27, Exit.thenS]
  apply wpS_seq
  apply wpS_seq
  apply wpS_region
  simp [wpOpsS, go_sem, Exit.thenS, hnn]
  refine wpS_cond (t := false) (by simp [Act.eval, Array.replicate]) ?_
  simp only [Bool.false_eq_true, if_false]
  refine wpS_of_wp ?_
  apply wp_skip
  simp only [Exit.thenS]
  refine wpS_of_wp ?_
  rw [tmps27]
  go_wp2
  simp [bodyPostS, results, Try.results27]

set_option maxHeartbeats 1000000 in
theorem attempt_ok (F : Nat) (cap : Array Value) (w : World) (Q : World → Prop) (hF : ∀ args w, (callFunc F args).run Try.prog w = .ok (.enter F args) w)
    (hc : Calls Try.prog F cap (w.alloc (.cells #[.int .i64 0] 23)) fun e w' => e = .returned (.tuple #[]) ∧ w'.heap[w.heap.size]? = some (.cells #[.int .i64 0] 23 (0, 0)) ∧ Q w') :
    Calls Try.prog 15 #[.func (.func F) #[] cap] w fun e w' => e = .returned (.int .i64 0) ∧ ∃ w1, Q w1 ∧ w' = w1.setCell ⟨w.heap.size, 0, none⟩ (.int .i64 0) := by
  have hmf : ∀ (fn : Fn) (first cap : Array Value) (w : World), (Instr.makeFunc fn first cap).run Try.prog w = .ok (.func fn first cap) w := fun _ _ _ _ => rfl
  go_enter_defers Try.func15, Try.ntmps15
  go_wp2_with fail
  refine hc.mono ?_
  rintro e w1 ⟨rfl, hk, hq⟩
  have c1 : w1.cell? ⟨w.heap.size, 0, none⟩ = some (.int .i64 0) := by rw [cell_of_row w1 _ _ _ 23 (0, 0) hk]; rfl
  have c2 : w1.frozen? ⟨w.heap.size, 0, none⟩ = false := frozen_of_row w1 _ 0 _ 23 hk
  have HQ := hidM hq
  have HK := hidM hk
  clear hq hk hc
  go_wp2
  refine leaves_cons (f := 27) (args := #[.pointer (some ⟨w.heap.size, 0, none⟩)]) (by simp) (by simp [go_sem]) ?_
  refine (catch_idle ⟨w.heap.size, 0, none⟩ _).mono ?_
  rintro e u' w'' ⟨rfl, rfl, rfl⟩
  have c3 : (w1.setCell ⟨w.heap.size, 0, none⟩ (.int .i64 0)).cell? ⟨w.heap.size, 0, none⟩ = some (.int .i64 0) := World.cell?_setCell_same _ _ _ c1
  simp [Leaves, settle, results, Try.results15, go_sem, c3]
  exact ⟨w1, HQ.out, rfl⟩

set_option maxHeartbeats 1000000 in
theorem attempt_gave (F : Nat) (cap : Array Value) (n : Nat) (w : World) (Q : World → Prop) (hF : ∀ args w, (callFunc F args).run Try.prog w = .ok (.enter F args) w)
    (hc : Calls Try.prog F cap (w.alloc (.cells #[.int .i64 0] 23)) fun e w' => e = gave n ∧ w'.heap[w.heap.size]? = some (.cells #[.int .i64 0] 23 (0, 0)) ∧ Q w') :
    Calls Try.prog 15 #[.func (.func F) #[] cap] w fun e w' => e = .returned (.int .i64 (n : Int)) ∧ ∃ w1, Q w1 ∧ w.heap.size < w1.heap.size ∧ w' = (w1.alloc (.cells #[.int .i64 (n : Int)] 56)).setCell ⟨w.heap.size, 0, none⟩ (.int .i64 (n : Int)) := by
  have hmf : ∀ (fn : Fn) (first cap : Array Value) (w : World), (Instr.makeFunc fn first cap).run Try.prog w = .ok (.func fn first cap) w := fun _ _ _ _ => rfl
  go_enter_defers Try.func15, Try.ntmps15
  go_wp2_with fail
  refine hc.mono ?_
  rintro e w1 ⟨rfl, hk, hq⟩
  have c1 : w1.cell? ⟨w.heap.size, 0, none⟩ = some (.int .i64 0) := by rw [cell_of_row w1 _ _ _ 23 (0, 0) hk]; rfl
  have c2 : w1.frozen? ⟨w.heap.size, 0, none⟩ = false := frozen_of_row w1 _ 0 _ 23 hk
  have hlt : w.heap.size < w1.heap.size := (Array.getElem?_eq_some_iff.1 hk).1
  have HQ := hidM hq
  have HK := hidM hk
  clear hq hk hc
  unfold gave
  go_wp2
  refine leaves_cons (f := 27) (args := #[.pointer (some ⟨w.heap.size, 0, none⟩)]) (by simp) (by simp [go_sem]) ?_
  refine (catch_gave ⟨w.heap.size, 0, none⟩ n _ w1 hlt c1 c2).mono ?_
  rintro e u' w'' ⟨rfl, rfl, rfl⟩
  have c3 : ((w1.alloc (.cells #[.int .i64 (n : Int)] 56)).setCell ⟨w.heap.size, 0, none⟩ (.int .i64 (n : Int))).cell? ⟨w.heap.size, 0, none⟩ = some (.int .i64 (n : Int)) :=
    World.cell?_setCell_same _ _ _ (u := .int .i64 0) (by rw [((Below.refl w1.heap.size w1).alloc (Nat.le_refl _) _).cell hlt]; exact c1)
  simp [Leaves, settle, results, Try.results15, go_sem, c3]
  exact ⟨w1, HQ.out, hlt, rfl⟩
end Go.Proofs.Ytekpdnlogfaggaa
