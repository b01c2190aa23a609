/-
  Walks of inflate: lengths told by the first set.
-/
import Derived.Test.YtkckobhpanghiaaDoorInfW
namespace Go.Proofs.YtkckobhpanghiaaDoor
open Go.RowKit

/-- nothing elder but block B has turned -/
structure ButR (B : Nat) (w w' : World) : Prop where
  os : w'.os = w.os
  tape : w'.tape = w.tape
  output : w'.output = w.output
  size : w.heap.size ≤ w'.heap.size
  block : ∀ k, k < w.heap.size → k ≠ B → w'.heap[k]? = w.heap[k]?
theorem ButR.refl (B : Nat) (w : World) : ButR B w w := ⟨rfl, rfl, rfl, Nat.le_refl _, fun _ _ _ => rfl⟩
theorem ButR.only {B : Nat} {w w' w'' : World} (h : ButR B w w') (k : Only B w' w'') : ButR B w w'' :=
  ⟨k.os.trans h.os, k.tape.trans h.tape, k.output.trans h.output, by rw [k.size]; exact h.size, fun i h1 h2 => (k.block i h2).trans (h.block i h1 h2)⟩
theorem ButR.kept {B : Nat} {w w' : World} (h : ButR B w w') (hB : B < w.heap.size) : Kept B w w' :=
  ⟨⟨h.os, h.tape, h.output, h.size, fun k hk => h.block k (by omega) (by omega)⟩, fun k h1 h2 _ => h.block k h2 (by omega)⟩
/-- a row of the call's own grew -/
theorem ButR.grow {B : Nat} {w wr w1 : World} {v : Value} {l : List Nat} {ob : Obj} (h : ButR B w wr) (hown : OwnN wr w.heap.size v l) (hg : (wr.alloc ob).grownBy w1 v.ownBlock) : ButR B w w1 :=
  ⟨hg.os.trans h.os, hg.tape.trans h.tape, hg.output.trans h.output, by have := hg.size; have := h.size; simp at *; omega, fun k h1 h2 => by
    have hs := h.size
    refine (hg.block k (by simp; omega) (fun e => ?_)).trans ((Below.heap_alloc wr ob k (by omega)).trans (h.block k h1 h2))
    have := (World.ownsRow.lt hown k e.symm).1
    omega⟩
theorem OwnN.only {B b : Nat} {w w' : World} {v : Value} {l : List Nat} (h : OwnN w b v l) (ho : Only B w w') (hB : B < b) : OwnN w' b v l := by
  refine ⟨h.1, ?_⟩
  rcases h.2 with h0 | ⟨g, cap, cur, hv, hg, hc, hr⟩
  · exact .inl h0
  · exact .inr ⟨g, cap, cur, hv, hg, by rw [ho.block g (by omega)]; exact hc, hr⟩
def lenV : Value → Nat
  | .slice _ n _ => n
  | _ => 0
theorem info3_parts : ∃ i, Tryd.prog.info? 3 = some i ∧ i.zero = some (.int .i64 0) ∧ i.size = 1 ∧ i.bytes = 8 := by
  have h : (Tryd.prog.info? 3).map (fun i => (i.zero, i.size, i.bytes)) = some (some (.int .i64 0), 1, 8) := by kernel_rfl
  exact info_parts h

/-- what readLengths answers -/
def LensPost (c : Cd) (X : ByteArray) (n t B : Nat) (w : World) (e : Ending) (w' : World) : Prop :=
  (∃ k, k ≠ 0 ∧ Lens c X.data.toList n t [] (.inl k) ∧ e = .returned (.tuple #[.slice none 0 0, .int .i64 (k : Int)])) ∨
  (∃ t' l v, Lens c X.data.toList n t [] (.inr (t', l)) ∧ OwnN w' w.heap.size v l ∧ RBox w' B X t' ∧ e = .returned (.tuple #[v, .int .i64 0]))
set_option maxHeartbeats 4000000 in
set_option maxRecDepth 100000 in
theorem readLengths_any (B : Nat) (X : ByteArray) (t n : Nat) (p : Value) (c : Cd) (w : World) (h0 : w.cell? ⟨B + 1, 0, none⟩ = some (.pointer (some ⟨B, 0, none⟩))) (hB : B + 1 < w.heap.size) (hr : RBox w B X t) (hc : c.Ok) (hT : TabQ w B p c) (hX : X.size ≤ 1000000) (ht : t ≤ 8 * X.size) (hn : n ≤ 400) :
    Calls Tryd.prog 80 #[.pointer (some ⟨B + 1, 0, none⟩), p, .int .i64 (n : Int)] w fun e w' => LensPost c X n t B w e w' ∧ ButR B w w' := by
  obtain ⟨i0, hi, hz0, hz1, hz2⟩ := info3_parts
  have HRD := hidM hr
  have HT := hidM hT
  have HC := hidM h0
  have hp1 : p.cells.toList = [p] := by obtain ⟨tb, E, rfl, _⟩ := hT; rfl
  obtain ⟨tb, E, rfl, _⟩ := hT
  clear hr h0 hp1
  go_enter Tryd.func80, Tryd.ntmps80
  go_wp2
  go_loopw [8] (fun v wr => ∃ (l : List Nat) (t' : Nat), OwnN wr w.heap.size v l ∧ l.length ≤ n ∧ (∀ x ∈ l, x ≤ 15) ∧ RBox wr B X t' ∧ t' ≤ 8 * X.size ∧ ButR B w wr ∧ (∀ r, Lens c X.data.toList n t' l r → Lens c X.data.toList n t [] r)) (fun v _ => n - lenV v)
  case atStart => exact ⟨[], t, ⟨rfl, .inl ⟨rfl, rfl⟩⟩, Nat.zero_le _, (fun x hx => by simp at hx), HRD.out, ht, ButR.refl _ _, fun r h => h⟩
  case round =>
    obtain ⟨l, t', hown, hln, h15, hrd, ht', hbut, hlens⟩ := hrel
    obtain ⟨a8, c8, rfl, _⟩ := hown.shape
    have HO := hidM hown
    have HRW := hidM hrd
    have HBU := hidM hbut
    have HLE := hidM hlens
    have H15 := hidM h15
    clear hown hrd hbut hlens h15 HRD
    by_cases hlt : l.length < n
    · have kk : (l.length : Int) < (n : Int) := by omega
      have d0 : wr.cell? ⟨B + 1, 0, none⟩ = some (.pointer (some ⟨B, 0, none⟩)) := (World.cell?_of_block (w := w) (a := ⟨B + 1, 0, none⟩) (HBU.out.block (B + 1) hB (by omega))).trans HC.out
      have HSR := hidM (sread_any B c (.pointer (some ⟨tb, 0, none⟩)) X t' (8 * X.size - t') wr hc (HT.out.kept (HBU.out.kept (by omega))) HRW.out hX (by omega))
      go_wp2_with fail
      refine HSR.out.mono ?_
      rintro _ w1 ⟨⟨s, k, rfl, HSY⟩, ho1⟩
      have HO1 : Hid (OwnN w1 w.heap.size (.slice a8 l.length c8) l) := HO.out.only ho1 (by omega)
      have HB1 : Hid (ButR B w w1) := HBU.out.only ho1
      have d1 : w1.cell? ⟨B + 1, 0, none⟩ = some (.pointer (some ⟨B, 0, none⟩)) := (World.cell?_of_block (w := wr) (a := ⟨B + 1, 0, none⟩) (ho1.block (B + 1) (by omega))).trans d0
      clear ho1 HSR d0 HBU HO
      rcases HSY.out with ⟨t2, hk0, hsym, hrd2⟩ | ⟨hk0, hsym, hs0⟩
      · subst hk0
        have HSM := hidM hsym
        have HRD2 := hidM hrd2
        have hlt2 := hsym.lt
        rw [total_size] at hlt2
        have hs320 : s < 320 := Nat.lt_of_lt_of_le hlt2.1 hc.few
        clear hsym hrd2 HSY
        -- MAIN
        by_cases h16 : s < 16
        · have e1 : ((s : Int) == 16) = false := by simp; omega
          have e2 : ¬ (16 : Int) ≤ (s : Int) := by omega
          have e3 : decide (16 ≤ s) = false := by simp; omega
          have e4 : (s : Int) < 16 := by omega
          obtain ⟨z, hz⟩ : ∃ z, z = s := ⟨_, rfl⟩
          obtain ⟨T2, hT20⟩ : ∃ T2, T2 = t2 := ⟨_, rfl⟩
          obtain ⟨T, hT⟩ : ∃ T, T = 1 := ⟨_, rfl⟩
          have hT2 : T2 ≤ 8 * X.size := by omega
          have HMANY : Hid (n < l.length + 1 → StepL c X.data.toList n t' l (.inl 3)) := fun hm => by omega
          have HGOOD : Hid (l.length + 1 ≤ n → StepL c X.data.toList n t' l (.inr (T2, l ++ List.replicate 1 z))) := fun _ => by rw [hT20, hz]; exact .plain s t2 HSM.out h16
          have HZ15 : Hid (∀ x ∈ l ++ List.replicate 1 z, x ≤ 15) := fun y hy => by
            rcases List.mem_append.1 hy with hy | hy
            · exact H15.out y hy
            · have := (List.mem_replicate.1 hy).2
              omega
          have HOW := HO1
          have HBW := HB1
          have HRW2 : Hid (RBox w1 B X T2) := by unfold Hid; rw [hT20]; exact HRD2.out
          subst hz
          clear hT20 hT HO1 HB1 HRD2 HSM d1
          obtain ⟨rm, hrm⟩ : ∃ rm, rm = n - l.length := ⟨_, rfl⟩
          have er : (n : Int) - (l.length : Int) = (rm : Int) := by omega
          have hmany : ¬ rm < 1 := by omega
          have eg : ¬ (rm : Int) < (1 : Int) := by omega
          have eb : decide (rm < 1) = false := by simp; omega
          have HNX : Hid (∀ r, Lens c X.data.toList n T2 (l ++ List.replicate 1 z) r → Lens c X.data.toList n t [] r) := fun r h => HLE.out _ (.next _ _ _ _ _ hlt (HGOOD.out (by omega)) h)
          have hTl : l.length + 1 ≤ n := by omega
          clear hrm hmany HMANY HGOOD
          go_wp2
          go_loopw [8, 58] (fun v i wr => ∃ (j : Nat), j ≤ 1 ∧ i = .int .i64 j ∧ OwnN wr w.heap.size v (l ++ List.replicate j z) ∧ RBox wr B X T2 ∧ ButR B w wr) (fun _ i _ => 1 - (intOf i).toNat)
          case atStart => exact ⟨0, Nat.zero_le _, rfl, by simpa using HOW.out, HRW2.out, HBW.out⟩
          case round =>
            obtain ⟨j, hj, rfl, hown, hrd3, hbut3⟩ := hrel
            have HO3 := hidM hown
            have HR3 := hidM hrd3
            have HB3 := hidM hbut3
            have hsz3 := hbut3.size
            have hll : (l ++ List.replicate j z).length ≤ 700 := by simp; omega
            clear hown hrd3 hbut3 HOW HRW2 HBW
            by_cases hjT : j < 1
            · have kj : (j : Int) < (1 : Int) := by omega
              have HNE : Hid (l ++ List.replicate (j + 1) z = (l ++ List.replicate j z) ++ [z]) := by unfold Hid; rw [List.replicate_succ', List.append_assoc]
              generalize l ++ List.replicate j z = lj at *
              obtain ⟨a9, c9, rfl, _⟩ := HO3.out.shape
              go_wp2_with (first
                | (at_builtin; go_loud (refine wpList_append_own_at _ rfl _ _ 61 rfl w.heap.size 3 i0 (.int .i64 0) 1 8 Tryd.underlying61 hi hz0 hz1 hz2 rfl (by decide) (.slice a9 lj.length c9) lj.length (natsV lj) rfl (World.ownsRow.alloc HO3.out _) ⟨wr.heap.size, 0, none⟩ 1 1 [.int .i64 (z : Int)] ?f0 rfl ?f1 ?f2 ?f3 ?f4 ?f5 ?_)))
              try (case f0 => rfl)
              case f1 => exact World.news_of_block (heap_alloc_new _ _)
              case f2 => first | rfl | (intro u hu; simp at hu; subst hu; rfl)
              case f3 => first | (unfold maxLen; omega) | (simp [maxLen]; omega)
              case f4 => first | omega | (simp; omega)
              case f5 => first | omega | (simp; omega)
              intro v' w6 hown' hgrow _ _
              have HO6 : Hid (OwnN w6 w.heap.size v' (lj ++ [z])) := by
                unfold Hid OwnN
                rw [natsV_app, List.length_append]
                exact hown'
              have HB6 := hidM (HB3.out.grow HO3.out hgrow)
              have HR6 : Hid (RBox w6 B X T2) := HR3.out.same ((hgrow.block B (by simp; omega) (fun e => by have := (World.ownsRow.lt HO3.out B e.symm).1; omega)).trans (Below.heap_alloc wr _ B (by omega)))
              clear hown' hgrow
              go_wp2
              go_roundw
              case rel => exact ⟨j + 1, by omega, by go_num, by rw [HNE.out]; exact HO6.out, HR6.out, HB6.out⟩
              case measure => (show 1 - ((j : Int) + 1).toNat < 1 - ((j : Int)).toNat); omega
            · obtain rfl : j = 1 := by omega
              have kj : ¬ (1 : Int) < (1 : Int) := by omega
              obtain ⟨a9, c9, rfl, _⟩ := HO3.out.shape
              go_wp2
              go_roundw
              case rel => exact ⟨_, T2, HO3.out, by simp; omega, HZ15.out, HR3.out, hT2, HB3.out, HNX.out⟩
              case measure => (show n - (l ++ List.replicate 1 z).length < n - l.length); simp; omega
        · have h16 : 16 ≤ s := by omega
          have e2 : (16 : Int) ≤ (s : Int) := by omega
          have e3 : decide (16 ≤ s) = true := by simp; omega
          by_cases hs16 : s = 16
          · have e1 : ((s : Int) == 16) = true := by simp; omega
            by_cases hl0 : l = []
            · have HR : Hid (Lens c X.data.toList n t [] (.inl 3)) := HLE.out _ (.stop _ _ _ hlt (.first t2 (by rw [← hs16]; exact HSM.out) hl0))
              have e5 : ((l.length : Int) == 0) = true := by rw [hl0]; rfl
              clear hs16 hl0
              go_wp2
              go_ret2
              exact ⟨.inl ⟨3, by decide, HR.out, rfl⟩, HB1.out⟩
            · have hno : ¬ (s = 16 ∧ l = []) := fun h => hl0 h.2
              have hlp : 0 < l.length := List.length_pos_iff.2 hl0
              have e5 : ((l.length : Int) == 0) = false := by simp; omega
              clear hs16 hl0
              have HTM := hidM (readTimes_any (B + 1) B X t2 (8 * X.size - t2) s w1 d1 HRD2.out (by omega) (by omega) (by omega))
              go_wp2_with fail
              refine HTM.out.mono ?_
              rintro _ w2 ⟨hpt, ho2⟩
              have HOW : Hid (OwnN w2 w.heap.size (.slice a8 l.length c8) l) := HO1.out.only ho2 (by omega)
              have HBW : Hid (ButR B w w2) := HB1.out.only ho2
              clear ho2 HTM
              rcases hpt with ⟨hnone, y, rfl⟩ | ⟨x, hsome, hx, rfl, hrd3⟩
              · have HR : Hid (Lens c X.data.toList n t [] (.inl 6)) := HLE.out _ (.stop _ _ _ hlt (.times6 s t2 HSM.out h16 hno hnone))
                clear hnone
                go_wp2
                go_ret2
                exact ⟨.inl ⟨6, by decide, HR.out, rfl⟩, HBW.out⟩
              · obtain ⟨T, hT0⟩ : ∃ T, T = (timesOf s).1 + x := ⟨_, rfl⟩
                obtain ⟨T2, hT20⟩ : ∃ T2, T2 = t2 + (timesOf s).2 := ⟨_, rfl⟩
                obtain ⟨z, hz⟩ : ∃ z, z = (if s = 16 then l.getLast?.getD 0 else 0 : Nat) := ⟨_, rfl⟩
                have hT200 : T ≤ 200 := by rw [hT0]; unfold timesOf; split; (simp only; omega); split; (simp only; omega); simp only; omega
                have hTp : 1 ≤ T := by rw [hT0]; unfold timesOf; split; (simp only; omega); split; (simp only; omega); simp only; omega
                have hT2 : T2 ≤ 8 * X.size := by
                  rw [hT20]
                  have h := hsome
                  unfold num at h
                  rw [total_size] at h
                  split at h
                  · assumption
                  · cases h
                have HMANY : Hid (n < l.length + T → StepL c X.data.toList n t' l (.inl 3)) := fun hm => .many s t2 x HSM.out h16 hno hsome (by rw [← hT0]; exact hm)
                have HGOOD : Hid (l.length + T ≤ n → StepL c X.data.toList n t' l (.inr (T2, l ++ List.replicate T z))) := fun hm => by
                  rw [hT20, hT0, hz]
                  exact .good s t2 x HSM.out h16 hno hsome (by rw [← hT0]; exact hm)
                have HRP := hidM (repeated_any s (.slice a8 l.length c8) w.heap.size l w2 HOW.out (fun e hl => hno ⟨e, hl⟩) (by omega))
                have HZ15 : Hid (∀ x ∈ l ++ List.replicate T z, x ≤ 15) := fun y hy => by
                  rcases List.mem_append.1 hy with hy | hy
                  · exact H15.out y hy
                  · have := (List.mem_replicate.1 hy).2
                    subst this
                    rw [hz]
                    split
                    · cases hg : l.getLast? with
                      | none => simp
                      | some q => exact H15.out q (List.mem_of_getLast? hg)
                    · omega
                have HRW2 : Hid (RBox w2 B X T2) := by unfold Hid; rw [hT20]; exact hrd3
                rw [← hz] at HRP
                rw [← hT0]
                clear hT0 hT20 hz hsome hrd3 hx
                go_wp2_with fail
                refine HRP.out.mono ?_
                rintro _ _ ⟨rfl, rfl⟩
                obtain ⟨rm, hrm⟩ : ∃ rm, rm = n - l.length := ⟨_, rfl⟩
                have er : (n : Int) - (l.length : Int) = (rm : Int) := by omega
                by_cases hmany : rm < T
                · have eg : (rm : Int) < (T : Int) := by omega
                  have HR : Hid (Lens c X.data.toList n t [] (.inl 3)) := HLE.out _ (.stop _ _ _ hlt (HMANY.out (by omega)))
                  clear hrm
                  go_wp2
                  go_ret2
                  exact ⟨.inl ⟨3, by decide, HR.out, rfl⟩, HBW.out⟩
                · have eg : ¬ (rm : Int) < (T : Int) := by omega
                  have eb : decide (rm < T) = false := by simp; omega
                  have HNX : Hid (∀ r, Lens c X.data.toList n T2 (l ++ List.replicate T z) r → Lens c X.data.toList n t [] r) := fun r h => HLE.out _ (.next _ _ _ _ _ hlt (HGOOD.out (by omega)) h)
                  have hTl : l.length + T ≤ n := by omega
                  clear hrm hmany HMANY HGOOD
                  go_wp2
                  go_loopw [8, 58] (fun v i wr => ∃ (j : Nat), j ≤ T ∧ i = .int .i64 j ∧ OwnN wr w.heap.size v (l ++ List.replicate j z) ∧ RBox wr B X T2 ∧ ButR B w wr) (fun _ i _ => T - (intOf i).toNat)
                  case atStart => exact ⟨0, Nat.zero_le _, rfl, by simpa using HOW.out, HRW2.out, HBW.out⟩
                  case round =>
                    obtain ⟨j, hj, rfl, hown, hrd3, hbut3⟩ := hrel
                    have HO3 := hidM hown
                    have HR3 := hidM hrd3
                    have HB3 := hidM hbut3
                    have hsz3 := hbut3.size
                    have hll : (l ++ List.replicate j z).length ≤ 700 := by simp; omega
                    clear hown hrd3 hbut3 HOW HRW2 HBW
                    by_cases hjT : j < T
                    · have kj : (j : Int) < (T : Int) := by omega
                      have HNE : Hid (l ++ List.replicate (j + 1) z = (l ++ List.replicate j z) ++ [z]) := by unfold Hid; rw [List.replicate_succ', List.append_assoc]
                      generalize l ++ List.replicate j z = lj at *
                      obtain ⟨a9, c9, rfl, _⟩ := HO3.out.shape
                      go_wp2_with (first
                        | (at_builtin; go_loud (refine wpList_append_own_at _ rfl _ _ 61 rfl w.heap.size 3 i0 (.int .i64 0) 1 8 Tryd.underlying61 hi hz0 hz1 hz2 rfl (by decide) (.slice a9 lj.length c9) lj.length (natsV lj) rfl (World.ownsRow.alloc HO3.out _) ⟨wr.heap.size, 0, none⟩ 1 1 [.int .i64 (z : Int)] ?f0 rfl ?f1 ?f2 ?f3 ?f4 ?f5 ?_)))
                      try (case f0 => rfl)
                      case f1 => exact World.news_of_block (heap_alloc_new _ _)
                      case f2 => first | rfl | (intro u hu; simp at hu; subst hu; rfl)
                      case f3 => first | (unfold maxLen; omega) | (simp [maxLen]; omega)
                      case f4 => first | omega | (simp; omega)
                      case f5 => first | omega | (simp; omega)
                      intro v' w6 hown' hgrow _ _
                      have HO6 : Hid (OwnN w6 w.heap.size v' (lj ++ [z])) := by
                        unfold Hid OwnN
                        rw [natsV_app, List.length_append]
                        exact hown'
                      have HB6 := hidM (HB3.out.grow HO3.out hgrow)
                      have HR6 : Hid (RBox w6 B X T2) := HR3.out.same ((hgrow.block B (by simp; omega) (fun e => by have := (World.ownsRow.lt HO3.out B e.symm).1; omega)).trans (Below.heap_alloc wr _ B (by omega)))
                      clear hown' hgrow
                      go_wp2
                      go_roundw
                      case rel => exact ⟨j + 1, by omega, by go_num, by rw [HNE.out]; exact HO6.out, HR6.out, HB6.out⟩
                      case measure => (show T - ((j : Int) + 1).toNat < T - ((j : Int)).toNat); omega
                    · obtain rfl : j = T := by omega
                      have kj : ¬ (j : Int) < (j : Int) := by omega
                      obtain ⟨a9, c9, rfl, _⟩ := HO3.out.shape
                      go_wp2
                      go_roundw
                      case rel => exact ⟨_, T2, HO3.out, by simp; omega, HZ15.out, HR3.out, hT2, HB3.out, HNX.out⟩
                      case measure => (show n - (l ++ List.replicate j z).length < n - l.length); simp; omega
          · have hno : ¬ (s = 16 ∧ l = []) := fun h => hs16 h.1
            have e1 : ((s : Int) == 16) = false := by simp; omega
            clear hs16
            have HTM := hidM (readTimes_any (B + 1) B X t2 (8 * X.size - t2) s w1 d1 HRD2.out (by omega) (by omega) (by omega))
            go_wp2_with fail
            refine HTM.out.mono ?_
            rintro _ w2 ⟨hpt, ho2⟩
            have HOW : Hid (OwnN w2 w.heap.size (.slice a8 l.length c8) l) := HO1.out.only ho2 (by omega)
            have HBW : Hid (ButR B w w2) := HB1.out.only ho2
            clear ho2 HTM
            rcases hpt with ⟨hnone, y, rfl⟩ | ⟨x, hsome, hx, rfl, hrd3⟩
            · have HR : Hid (Lens c X.data.toList n t [] (.inl 6)) := HLE.out _ (.stop _ _ _ hlt (.times6 s t2 HSM.out h16 hno hnone))
              clear hnone
              go_wp2
              go_ret2
              exact ⟨.inl ⟨6, by decide, HR.out, rfl⟩, HBW.out⟩
            · obtain ⟨T, hT0⟩ : ∃ T, T = (timesOf s).1 + x := ⟨_, rfl⟩
              obtain ⟨T2, hT20⟩ : ∃ T2, T2 = t2 + (timesOf s).2 := ⟨_, rfl⟩
              obtain ⟨z, hz⟩ : ∃ z, z = (if s = 16 then l.getLast?.getD 0 else 0 : Nat) := ⟨_, rfl⟩
              have hT200 : T ≤ 200 := by rw [hT0]; unfold timesOf; split; (simp only; omega); split; (simp only; omega); simp only; omega
              have hTp : 1 ≤ T := by rw [hT0]; unfold timesOf; split; (simp only; omega); split; (simp only; omega); simp only; omega
              have hT2 : T2 ≤ 8 * X.size := by
                rw [hT20]
                have h := hsome
                unfold num at h
                rw [total_size] at h
                split at h
                · assumption
                · cases h
              have HMANY : Hid (n < l.length + T → StepL c X.data.toList n t' l (.inl 3)) := fun hm => .many s t2 x HSM.out h16 hno hsome (by rw [← hT0]; exact hm)
              have HGOOD : Hid (l.length + T ≤ n → StepL c X.data.toList n t' l (.inr (T2, l ++ List.replicate T z))) := fun hm => by
                rw [hT20, hT0, hz]
                exact .good s t2 x HSM.out h16 hno hsome (by rw [← hT0]; exact hm)
              have HRP := hidM (repeated_any s (.slice a8 l.length c8) w.heap.size l w2 HOW.out (fun e hl => hno ⟨e, hl⟩) (by omega))
              have HZ15 : Hid (∀ x ∈ l ++ List.replicate T z, x ≤ 15) := fun y hy => by
                rcases List.mem_append.1 hy with hy | hy
                · exact H15.out y hy
                · have := (List.mem_replicate.1 hy).2
                  subst this
                  rw [hz]
                  split
                  · cases hg : l.getLast? with
                    | none => simp
                    | some q => exact H15.out q (List.mem_of_getLast? hg)
                  · omega
              have HRW2 : Hid (RBox w2 B X T2) := by unfold Hid; rw [hT20]; exact hrd3
              rw [← hz] at HRP
              rw [← hT0]
              clear hT0 hT20 hz hsome hrd3 hx
              go_wp2_with fail
              refine HRP.out.mono ?_
              rintro _ _ ⟨rfl, rfl⟩
              obtain ⟨rm, hrm⟩ : ∃ rm, rm = n - l.length := ⟨_, rfl⟩
              have er : (n : Int) - (l.length : Int) = (rm : Int) := by omega
              by_cases hmany : rm < T
              · have eg : (rm : Int) < (T : Int) := by omega
                have HR : Hid (Lens c X.data.toList n t [] (.inl 3)) := HLE.out _ (.stop _ _ _ hlt (HMANY.out (by omega)))
                clear hrm
                go_wp2
                go_ret2
                exact ⟨.inl ⟨3, by decide, HR.out, rfl⟩, HBW.out⟩
              · have eg : ¬ (rm : Int) < (T : Int) := by omega
                have eb : decide (rm < T) = false := by simp; omega
                have HNX : Hid (∀ r, Lens c X.data.toList n T2 (l ++ List.replicate T z) r → Lens c X.data.toList n t [] r) := fun r h => HLE.out _ (.next _ _ _ _ _ hlt (HGOOD.out (by omega)) h)
                have hTl : l.length + T ≤ n := by omega
                clear hrm hmany HMANY HGOOD
                go_wp2
                go_loopw [8, 58] (fun v i wr => ∃ (j : Nat), j ≤ T ∧ i = .int .i64 j ∧ OwnN wr w.heap.size v (l ++ List.replicate j z) ∧ RBox wr B X T2 ∧ ButR B w wr) (fun _ i _ => T - (intOf i).toNat)
                case atStart => exact ⟨0, Nat.zero_le _, rfl, by simpa using HOW.out, HRW2.out, HBW.out⟩
                case round =>
                  obtain ⟨j, hj, rfl, hown, hrd3, hbut3⟩ := hrel
                  have HO3 := hidM hown
                  have HR3 := hidM hrd3
                  have HB3 := hidM hbut3
                  have hsz3 := hbut3.size
                  have hll : (l ++ List.replicate j z).length ≤ 700 := by simp; omega
                  clear hown hrd3 hbut3 HOW HRW2 HBW
                  by_cases hjT : j < T
                  · have kj : (j : Int) < (T : Int) := by omega
                    have HNE : Hid (l ++ List.replicate (j + 1) z = (l ++ List.replicate j z) ++ [z]) := by unfold Hid; rw [List.replicate_succ', List.append_assoc]
                    generalize l ++ List.replicate j z = lj at *
                    obtain ⟨a9, c9, rfl, _⟩ := HO3.out.shape
                    go_wp2_with (first
                      | (at_builtin; go_loud (refine wpList_append_own_at _ rfl _ _ 61 rfl w.heap.size 3 i0 (.int .i64 0) 1 8 Tryd.underlying61 hi hz0 hz1 hz2 rfl (by decide) (.slice a9 lj.length c9) lj.length (natsV lj) rfl (World.ownsRow.alloc HO3.out _) ⟨wr.heap.size, 0, none⟩ 1 1 [.int .i64 (z : Int)] ?f0 rfl ?f1 ?f2 ?f3 ?f4 ?f5 ?_)))
                    try (case f0 => rfl)
                    case f1 => exact World.news_of_block (heap_alloc_new _ _)
                    case f2 => first | rfl | (intro u hu; simp at hu; subst hu; rfl)
                    case f3 => first | (unfold maxLen; omega) | (simp [maxLen]; omega)
                    case f4 => first | omega | (simp; omega)
                    case f5 => first | omega | (simp; omega)
                    intro v' w6 hown' hgrow _ _
                    have HO6 : Hid (OwnN w6 w.heap.size v' (lj ++ [z])) := by
                      unfold Hid OwnN
                      rw [natsV_app, List.length_append]
                      exact hown'
                    have HB6 := hidM (HB3.out.grow HO3.out hgrow)
                    have HR6 : Hid (RBox w6 B X T2) := HR3.out.same ((hgrow.block B (by simp; omega) (fun e => by have := (World.ownsRow.lt HO3.out B e.symm).1; omega)).trans (Below.heap_alloc wr _ B (by omega)))
                    clear hown' hgrow
                    go_wp2
                    go_roundw
                    case rel => exact ⟨j + 1, by omega, by go_num, by rw [HNE.out]; exact HO6.out, HR6.out, HB6.out⟩
                    case measure => (show T - ((j : Int) + 1).toNat < T - ((j : Int)).toNat); omega
                  · obtain rfl : j = T := by omega
                    have kj : ¬ (j : Int) < (j : Int) := by omega
                    obtain ⟨a9, c9, rfl, _⟩ := HO3.out.shape
                    go_wp2
                    go_roundw
                    case rel => exact ⟨_, T2, HO3.out, by simp; omega, HZ15.out, HR3.out, hT2, HB3.out, HNX.out⟩
                    case measure => (show n - (l ++ List.replicate j z).length < n - l.length); simp; omega
        -- END
      · have HSM := hidM hsym
        have e0 : ((k : Int) == 0) = false := by simp; omega
        have HR : Hid (Lens c X.data.toList n t [] (.inl k)) := HLE.out _ (.stop _ _ _ hlt (.bad k hsym))
        clear hsym HSY
        go_wp2
        go_ret2
        exact ⟨.inl ⟨k, hk0, HR.out, rfl⟩, HB1.out⟩
    · have HR : Hid (Lens c X.data.toList n t [] (.inr (t', l))) := HLE.out _ (.done _ _ (by omega))
      have kk : ¬ (l.length : Int) < (n : Int) := by omega
      clear hlt
      go_wp2
      go_ret2
      exact ⟨.inr ⟨t', l, _, HR.out, HO.out, HRW.out, rfl⟩, HBU.out⟩
end Go.Proofs.YtkckobhpanghiaaDoor
