/-
  Walks of the document's semver: Parse.
-/
import Derived.Test.YtdbkmcjdkiljaaaDoorRefC
namespace Go.Proofs.YtdbkmcjdkiljaaaDoor
open Go.RowKit

theorem idx_cut (c : UInt8) (l : List UInt8) : (Lib.indexByte l c = -1 ∧ cutR c l = (l, [], false)) ∨ ∃ k, k < l.length ∧ Lib.indexByte l c = (k : Int) ∧ cutR c l = (l.take k, l.drop (k + 1), true) := by
  unfold cutR
  cases h : splitC c l with
  | none => exact Or.inl ⟨(split_none h).1, rfl⟩
  | some x =>
    obtain ⟨p, q⟩ := x
    obtain ⟨h1, h2, h3⟩ := split_some h
    refine Or.inr ⟨p.length, by rw [h2]; simp, h1, ?_⟩
    show (p, q, true) = _
    rw [h2, List.take_left, List.drop_append]
    simp
theorem size26 : (Tryd.prog.info? 26).map (·.size) = some 6 := by kernel_rfl
/-- the two boxes of the document's Parse: what it answers, and v -/
structure PR (w : World) (cs : Array Value) (V : World) : Prop where
  bel : Below w.heap.size w V
  z : V.heap[w.heap.size]? = some (.cells zero23 26)
  v : V.heap[w.heap.size + 1]? = some (.cells cs 26)
theorem PR.next {w V V' : World} {cs : Array Value} (H : PR w cs V) (hb : Below V.heap.size V V') : PR w cs V' := ⟨H.bel.trans (hb.mono H.bel.size), box_kept H.z hb, box_kept H.v hb⟩
theorem PR.set {w V : World} {cs : Array Value} (H : PR w cs V) (i : Nat) (x : Value) : PR w (cs.setIfInBounds i x) (V.setCell ⟨w.heap.size + 1, i, none⟩ x) := by
  refine ⟨H.bel.trans ⟨rfl, rfl, rfl, by simp, fun k hk => Below.heap_setCell V ⟨w.heap.size + 1, i, none⟩ x k (by simp; omega)⟩, ?_, ?_⟩
  · rw [← H.z]; exact Below.heap_setCell V ⟨w.heap.size + 1, i, none⟩ x w.heap.size (by simp)
  · rw [setCell_eq_setRow V _ i cs 26 (0, 0) x H.v]
    exact setRow_heap V _ cs _ 26 (0, 0) H.v
theorem PR.cell {w V : World} {cs : Array Value} (H : PR w cs V) (i : Nat) : V.cell? ⟨w.heap.size + 1, i, none⟩ = cs[i]? := cell_of_row _ _ _ _ 26 (0, 0) H.v
theorem PR.free {w V : World} {cs : Array Value} (H : PR w cs V) (i : Nat) : V.frozen? ⟨w.heap.size + 1, i, none⟩ = false := by simp [World.frozen?, H.v]
theorem PR.start (w : World) : PR w zero23 ((w.alloc (.cells zero23 26)).alloc (.cells zero23 26)) :=
  ⟨((Below.refl _ w).alloc (Nat.le_refl _) _).alloc (by simp) _, heap_alloc2_old _ _ _, heap_alloc2_new _ _ _⟩
theorem PR.grow {w V V' : World} {cs : Array Value} (H : PR w cs V) (hb : Below (w.heap.size + 2) V V') : PR w cs V' :=
  ⟨H.bel.trans (hb.mono (by omega)), by rw [hb.block _ (by omega)]; exact H.z, by rw [hb.block _ (by omega)]; exact H.v⟩
theorem head_bad {s : ByteArray} (h : s.size < 2 ∨ 100 < s.size ∨ s.data.toList.getD 0 0 ≠ 118) : parseR s = none := by
  unfold parseR
  by_cases h1 : 100 < s.size
  · rw [decide_eq_false (by omega)]; rfl
  · have hk : okC (cutsOf s) = false := by
      cases hl : s.data.toList with
      | nil =>
        unfold okC cutsOf
        rw [hl]
        rfl
      | cons x l =>
        by_cases hx : x = 118
        · have hl0 : l = [] := by
            rcases h with h | h | h
            · rw [← size_len, hl] at h
              exact List.length_eq_zero_iff.1 (by simp at h; omega)
            · exact absurd h h1
            · rw [hl] at h; exact absurd hx h
          subst hl0 hx
          unfold okC cutsOf
          rw [hl]
          decide +kernel
        · have hm : (cutsOf s).marked = false := by
            unfold cutsOf
            rw [hl]
            simp [vCut, hx]
          unfold okC
          rw [hm]; rfl
    rw [hk, Bool.and_false]; rfl
theorem head_good {s : ByteArray} {l : List UInt8} (hl : s.data.toList = 118 :: l) (hs : s.size ≤ 100) : parseR s = (let b := cutR 43 l
    let p := cutR 45 b.1
    if okC ⟨true, strOf p.1, strOf p.2.1, strOf b.2.1, p.2.2, b.2.2⟩ then some (verC ⟨true, strOf p.1, strOf p.2.1, strOf b.2.1, p.2.2, b.2.2⟩) else none) := by
  unfold parseR
  rw [decide_eq_true hs, Bool.true_and]
  have e : cutsOf s = ⟨true, strOf (cutR 45 (cutR 43 l).1).1, strOf (cutR 45 (cutR 43 l).1).2.1, strOf (cutR 43 l).2.1, (cutR 45 (cutR 43 l).1).2.2, (cutR 43 l).2.2⟩ := by
    unfold cutsOf
    rw [hl]
    simp [vCut]
  rw [e]
set_option maxHeartbeats 2000000 in
set_option maxRecDepth 100000 in
theorem rparse_head (s : ByteArray) (w : World) (hm : s.size ≤ 9223372036854775807) (h : s.size < 2 ∨ 100 < s.size ∨ s.data.toList.getD 0 0 ≠ 118) :
    Calls Tryd.prog 12 #[.string s] w fun x w' => x = .returned (verV (parseR s)) ∧ Below w.heap.size w w' := by
  have HR := hidM (head_bad h)
  have HZ : Hid ((w.alloc (.cells zero23 26)).heap[w.heap.size]? = some (.cells zero23 26)) := _root_.Go.heap_alloc_new _ _
  have HB : Hid (Below w.heap.size w (w.alloc (.cells zero23 26))) := (Below.refl _ w).alloc (Nat.le_refl _) _
  unfold zero23 at HZ HB
  by_cases h1 : s.size < 2
  · have b1 : decide ((s.size : Int) < 2) = true := decide_eq_true (by omega)
    clear h
    go_enter Tryd.func12, Tryd.ntmps12
    go_wp2
    exact bodyPost_ret (results_box rfl _ _ w.heap.size _ rfl (run_loadVar_row _ w.heap.size 26 26 _ (0, 0) _ HZ.out Tryd.underlying26 rfl size26)) rfl ⟨by rw [HR.out]; rfl, HB.out⟩
  · have b1 : decide ((s.size : Int) < 2) = false := decide_eq_false (by omega)
    by_cases h2 : 100 < s.size
    · have b2 : decide ((100 : Int) < (s.size : Int)) = true := decide_eq_true (by omega)
      clear h
      go_enter Tryd.func12, Tryd.ntmps12
      go_wp2
      exact bodyPost_ret (results_box rfl _ _ w.heap.size _ rfl (run_loadVar_row _ w.heap.size 26 26 _ (0, 0) _ HZ.out Tryd.underlying26 rfl size26)) rfl ⟨by rw [HR.out]; rfl, HB.out⟩
    · have b2 : decide ((100 : Int) < (s.size : Int)) = false := decide_eq_false (by omega)
      have p0 : 0 < s.size := by omega
      have h3 : s[0] ≠ 118 := by
        rcases h with h | h | h
        · exact absurd h h1
        · exact absurd h h2
        · rw [List.getD_eq_getElem?_getD, ba_list s 0 p0] at h; exact h
      have h3n : ¬ (s[0].toNat : Int) = 118 := fun e => h3 (by rw [← UInt8.toNat_inj]; show s[0].toNat = 118; omega)
      have b3 : ((s[0].toNat : Int) != 118) = true := by simpa using h3n
      have b4 : ((s[0].toNat : Int) == 118) = false := by simpa using h3n
      have p1 : (0 : Int) < (s.size : Int) := by omega
      clear h h3
      go_enter Tryd.func12, Tryd.ntmps12
      go_wp2
      exact bodyPost_ret (results_box rfl _ _ w.heap.size _ rfl (run_loadVar_row _ w.heap.size 26 26 _ (0, 0) _ HZ.out Tryd.underlying26 rfl size26)) rfl ⟨by rw [HR.out]; rfl, HB.out⟩
end Go.Proofs.YtdbkmcjdkiljaaaDoor
