/-
  Walks of inflate: the lengths of the fixed sets, a row of fives.
-/
import Derived.Test.YtkckobhpanghiaaDoorHufX
import Derived.Laws.CopyOwn
namespace Go.Proofs.YtkckobhpanghiaaDoor
open Go.RowKit

def fixL (s : Nat) : Nat := if s < 144 then 8 else if s < 256 then 9 else if s < 280 then 7 else 8
set_option maxRecDepth 100000 in
theorem fixedLength_any (s : Nat) (w : World) (hs : s < 288) :
    Calls Tryd.prog 89 #[.int .i64 (s : Int)] w fun e w' => e = .returned (.int .i64 (fixL s : Int)) ∧ w' = w := by
  go_enter Tryd.func89, Tryd.ntmps89
  by_cases h1 : s < 144
  · have e1 : (s : Int) < 144 := by omega
    go_wp2
    go_ret
    exact ⟨by unfold fixL; rw [if_pos h1]; rfl, rfl⟩
  · have e1 : ¬ (s : Int) < 144 := by omega
    by_cases h2 : s < 256
    · have e2 : (s : Int) < 256 := by omega
      go_wp2
      go_ret
      exact ⟨by unfold fixL; rw [if_neg h1, if_pos h2]; rfl, rfl⟩
    · have e2 : ¬ (s : Int) < 256 := by omega
      by_cases h3 : s < 280
      · have e3 : (s : Int) < 280 := by omega
        go_wp2
        go_ret
        exact ⟨by unfold fixL; rw [if_neg h1, if_neg h2, if_pos h3]; rfl, rfl⟩
      · have e3 : ¬ (s : Int) < 280 := by omega
        go_wp2
        go_ret
        exact ⟨by unfold fixL; rw [if_neg h1, if_neg h2, if_neg h3]; rfl, rfl⟩
set_option maxRecDepth 100000 in
theorem mul64_one (w : World) : Calls Tryd.prog 114 #[.int .u64 1, .int .u64 32] w fun e w' => e = .returned (.tuple #[.int .u64 0, .int .u64 32]) ∧ w' = w := by
  have a0 : bits .and .u64 0 4294967295 = 0 := by decide +kernel
  have a1 : bits .and .u64 1 4294967295 = 1 := by decide +kernel
  have a2 : bits .and .u64 32 4294967295 = 32 := by decide +kernel
  go_enter Tryd.func114, Tryd.ntmps114
  go_wp2
  go_ret2
  exact ⟨rfl, rfl⟩
set_option maxRecDepth 100000 in
theorem mul_one (w : World) : Calls Tryd.prog 109 #[.int .u64 1, .int .u64 32] w fun e w' => e = .returned (.tuple #[.int .u64 0, .int .u64 32]) ∧ w' = w := by
  go_enter Tryd.func109, Tryd.ntmps109
  go_wp2_with fail
  refine (mul64_one w).mono ?_
  rintro _ _ ⟨rfl, rfl⟩
  go_wp2
  go_ret2
  exact ⟨rfl, rfl⟩

/-- a row of 32 numbers whose first n are 5 -/
def Fives (w : World) (g n : Nat) : Prop := ∃ cur : List Value, w.heap[g]? = some (.cells cur.toArray 3 (0, 0)) ∧ cur.length = 32 ∧ ∀ j, j < n → cur[j]? = some (.int .i64 5)
theorem Fives.splice {w' : World} {g n k : Nat} {cur : List Value} (hl : cur.length = 32) (h5 : ∀ j, j < n → cur[j]? = some (.int .i64 5)) (hn : n + k ≤ 32) (h : w'.heap[g]? = some (.cells (Go.splice cur n (List.replicate k (.int .i64 5))).toArray 3 (0, 0))) : Fives w' g (n + k) := by
  refine ⟨_, h, ?_, fun j hj => ?_⟩
  · rw [length_splice _ _ _ (by rw [List.length_replicate, hl]; exact hn), hl]
  · unfold Go.splice
    by_cases h1 : j < n
    · rw [List.getElem?_append_left (by rw [List.length_take, hl]; omega), List.getElem?_take, if_pos h1]; exact h5 j h1
    · rw [List.getElem?_append_right (by rw [List.length_take, hl]; omega), List.length_take, hl, Nat.min_eq_left (by omega), List.getElem?_append_left (by rw [List.length_replicate]; omega), List.getElem?_replicate, if_pos (by omega)]
set_option maxHeartbeats 2000000 in
set_option maxRecDepth 100000 in
theorem repeat5_any (g0 cap : Nat) (w : World) (h5 : w.cell? ⟨g0, 0, none⟩ = some (.int .i64 5)) (hg0 : g0 < w.heap.size) :
    Calls Tryd.prog 91 #[.slice (some ⟨g0, 0, none⟩) 1 cap, .int .i64 32] w fun e w' => ∃ g, e = .returned (.slice (some ⟨g, 0, none⟩) 32 32) ∧ Fives w' g 32 ∧ Below w.heap.size w w' := by
  obtain ⟨i3, hi3, hz30, hz31, hz32⟩ := info_parts Tryd.info3
  go_enter Tryd.func91, Tryd.ntmps91
  go_wp2_with fail
  refine (mul_one w).mono ?_
  rintro _ w9 ⟨rfl, h9⟩
  rw [h9]
  clear h9 w9
  go_wp2_with (at_make; refine wpList_make_full _ rfl _ _ 61 rfl w.heap.size 3 i3 (.int .i64 0) 1 Tryd.underlying61 hi3 hz30 hz31 .i64 .i64 _ _ 32 rfl rfl rfl rfl ?c1 ?c2 ?c3 ?_)
  case c1 => rw [hz32]; omega
  case c2 => unfold maxLen; omega
  case c3 => exact Nat.le_refl _
  intro w1 hown hgr
  have HF0 : Hid (∃ cur : List Value, w1.heap[w.heap.size]? = some (.cells cur.toArray 3 (0, 0)) ∧ cur.length = 32) := by
    have h := ABox.of_row hown (by rw [← made_one, Nat.mul_one])
    exact ⟨_, h, by simp⟩
  have HB1 : Hid (Below w.heap.size w w1) := (Below.refl _ w).grown hgr (Nat.le_refl _) (by intro k hk; cases hk)
  have h51 : w1.cell? ⟨g0, 0, none⟩ = some (.int .i64 5) := (World.cell?_of_block (w := w) (a := ⟨g0, 0, none⟩) (HB1.out.block g0 hg0)).trans h5
  have hsz : (Tryd.prog.info? 3).map (·.size) = some 1 := by rw [hi3]; simp [hz31]
  clear hown hgr
  obtain ⟨cur, hcur, hlen⟩ := HF0.out
  have HCU := hidM hcur
  generalize hG : w.heap.size = G at *
  have HG := hidM hG
  clear hcur hG HF0
  have HP : Hid (0 < [Value.int .i64 5].length → some (⟨G, 0, none⟩ : Addr) = some ⟨G, 0, none⟩ ∧ ∃ ad, some (⟨g0, 0, none⟩ : Addr) = some ad ∧ ∀ j v, [Value.int .i64 5][j]? = some v → w1.cell? (ad.add j) = some v) := fun _ => ⟨rfl, _, rfl, fun j v hj => by
    match j, hj with
    | 0, hj => simp only [List.getElem?_cons_zero, Option.some.injEq] at hj; subst hj; exact h51
    | j + 1, hj => simp at hj⟩
  go_wp2_with ((with_reducible refine wpList_copy_splice rfl (.tmp 31) (.tmp 32) 61 61 rfl 3 Tryd.underlying61 hsz (some ⟨G, 0, none⟩) (some ⟨g0, 0, none⟩) 32 32 1 cap ?n5 ?n6 G 0 cur 3 HCU.out [.int .i64 5] rfl HP.out ?n3 ?n4 G w HB1.out (Nat.le_refl _) ?_))
  case n4 => rfl
  intro w2 hg2 hb2
  have HF2 : Hid (Fives w2 G 1) := Fives.splice (n := 0) (k := 1) hlen (fun j hj => by omega) (by decide) hg2.out
  have HB2 := hidM hb2
  clear hg2 hb2 h51 HB1 HCU h5
  go_wp2
  go_loopw [8] (fun iv wr => ∃ n : Nat, 1 ≤ n ∧ n ≤ 32 ∧ iv = .int .i64 n ∧ Fives wr G n ∧ Below G w wr) (fun i _ => 32 - (intOf i).toNat)
  case atStart => exact ⟨1, by decide, by decide, rfl, HF2.out, HB2.out⟩
  case round =>
    obtain ⟨n, hn1, hn2, rfl, hf, hb⟩ := hrel
    have HF := hidM hf
    have HB := hidM hb
    clear hf hb HF2 HB2
    by_cases hlt : n < 32
    · have k1 : (n : Int) < 32 := by omega
      have k2 : (n : Int) ≤ 32 := by omega
      obtain ⟨m, hm⟩ : ∃ m, m = 32 - n := ⟨_, rfl⟩
      have k3 : (32 : Int) - (n : Int) = (m : Int) := by omega
      have k4 : ¬ n = 32 := by omega
      have k5 : ¬ 32 = n := by omega
      obtain ⟨k, hk⟩ : ∃ k, k = min n m := ⟨_, rfl⟩
      obtain ⟨z, hz⟩ : ∃ z, z = n + k := ⟨_, rfl⟩
      have k6 : (n : Int) + (k : Int) = (z : Int) := by omega
      obtain ⟨cu, hcu, hcl, hc5⟩ := HF.out
      have HCU := hidM hcu
      have HC5 := hidM hc5
      have HM := hidM hm
      have HK := hidM hk
      have HZ := hidM hz
      have hcell : ∀ j, j < n → wr.cell? ⟨G, j, none⟩ = some (.int .i64 5) := fun j hj => by
        rw [cell_of_row wr G j _ 3 (0, 0) hcu]
        rw [List.getElem?_toArray]
        exact hc5 j hj
      have HCE := hidM hcell
      clear hcu hc5 hcell
      have hmm : k = Nat.min n m := hk
      have HKM := hidM hmm
      have k7 : 32 - n = m := hm.symm
      clear hm hk hz hmm
      have HP2 : Hid (∀ j v, (List.replicate k (Value.int .i64 5))[j]? = some v → wr.cell? ((⟨G, 0, none⟩ : Addr).add j) = some v) := fun j v hj => by
        rw [List.getElem?_replicate] at hj
        split at hj
        · rename_i hjk
          simp only [Option.some.injEq] at hj
          subst hj
          have := HCE.out j (by have := HK.out; omega)
          unfold Addr.add
          split
          · rename_i h0; subst h0; exact this
          · simpa using this
        · cases hj
      have HN : Hid ((List.replicate k (Value.int .i64 5)).length = Nat.min n m) := by unfold Hid; rw [List.length_replicate]; exact HKM.out
      have HL : Hid (n + (List.replicate k (Value.int .i64 5)).length ≤ cu.length) := by unfold Hid; rw [List.length_replicate, hcl]; have := HK.out; have := HM.out; omega
      have HO : Hid (∀ v ∈ List.replicate k (Value.int .i64 5), v.oneCell' = true) := fun v hv => by rw [(List.mem_replicate.1 hv).2]; rfl
      have HLR : Hid (goInt (List.replicate k (Value.int .i64 5)).length = .int .i64 (k : Int)) := by unfold Hid; rw [List.length_replicate]; rfl
      have HBD : Hid (Below G w wr.drew) := ⟨HB.out.os, HB.out.tape, HB.out.output, HB.out.size, HB.out.block⟩
      have ew : IntKind.i64.wrap (z : Int) = (z : Int) := by have := HZ.out; have := HK.out; have := HM.out; rw [IntKind.wrap_i64]; omega
      go_wp2
      go_region_law ((refine step_copy_splice rfl (.tmp 41) (.tmp 44) 61 61 rfl 3 Tryd.underlying61 hsz (some ⟨G, n, none⟩) (some ⟨G, 0, none⟩) m m n 32 (by simp [Act.eval, Act.put]) (by simp [Act.eval, Act.put]) G n cu 3 HCU.out (List.replicate k (.int .i64 5)) HN.out (fun _ => ⟨rfl, _, rfl, HP2.out⟩) HL.out HO.out G w HBD.out (Nat.le_refl _) ?_; intro w4 hg4 hb4; rw [HLR.out]; have HF4 : Hid (Fives w4 G z) := (by have h := Fives.splice (n := n) (k := k) hcl HC5.out (by have := HK.out; have := HM.out; omega) hg4.out; rw [← HZ.out] at h; exact h); have HB4 := hidM hb4; clear hg4 hb4))
      all_goals
        go_simp

        go_wp2
        go_roundw
        case rel => exact ⟨z, by have := HZ.out; omega, by have := HZ.out; have := HK.out; have := HM.out; omega, by go_num, HF4.out, HB4.out⟩
        case measure => (show 32 - ((z : Int)).toNat < 32 - ((n : Int)).toNat); have := HZ.out; have := HK.out; have := HM.out; omega
    · obtain rfl : n = 32 := by omega
      go_wp2
      go_ret
      exact ⟨G, rfl, HF.out, by rw [HG.out]; exact HB.out⟩
end Go.Proofs.YtkckobhpanghiaaDoor
