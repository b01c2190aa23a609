/-
  Walks of huff: giveCodes.
-/
import Derived.Test.YtpidofgmbjkbiaaHufB
import Derived.OwnWalk
import Derived.BigRegion
namespace Go.Proofs.Ytpidofgmbjkbiaa
open Go.RowKit

theorem at_mono (ln : Nat → Nat) (L m n : Nat) (h : m < n) : atC ln L m + cnt ln m L ≤ atC ln L n := by
  induction n with
  | zero => omega
  | succ n ih =>
    rw [atC]
    rcases Nat.lt_or_ge m n with hm | hm
    · have := ih hm; omega
    · have : m = n := by omega
      subst this; omega
theorem at_total (ln : Nat → Nat) (L n : Nat) (hn : n ≤ 15) : atC ln L n + cnt ln n L ≤ atC ln L 15 + cnt ln 15 L := by
  rcases Nat.lt_or_ge n 15 with h | h
  · have := at_mono ln L n 15 h; omega
  · have : n = 15 := by omega
    subst this; exact Nat.le_refl _
theorem at_ne (ln : Nat → Nat) (L s k : Nat) (hs : s < k) (hk : k < L) (h0 : 0 < ln s) (h1 : 0 < ln k) : atC ln L (ln s) + cnt ln (ln s) s ≠ atC ln L (ln k) + cnt ln (ln k) k := by
  rcases Nat.lt_trichotomy (ln s) (ln k) with h | h | h
  · have := at_mono ln L (ln s) (ln k) h
    have := cnt_lt ln (show s < L by omega) h0
    omega
  · have := cnt_lt ln hs h0
    rw [← h]
    omega
  · have := at_mono ln L (ln k) (ln s) h
    have := cnt_lt ln hk h1
    omega

/-- The cells of a block, by a function. -/
def arrF (N : Nat) (h : Nat → Value) : Array Value := ((List.range N).map h).toArray
theorem arrF_get (N : Nat) (h : Nat → Value) (i : Nat) (hi : i < N) : (arrF N h)[i]? = some (h i) := by
  unfold arrF
  rw [List.getElem?_toArray, List.getElem?_map, List.getElem?_range hi]; rfl
theorem arrF_set (N : Nat) (h : Nat → Value) (i : Nat) (v : Value) : (arrF N h).setIfInBounds i v = arrF N (upd h i v) := by
  unfold arrF
  rw [List.setIfInBounds_toArray]
  congr 1
  apply List.ext_getElem?
  intro j
  rw [List.getElem?_set]
  by_cases hj : j < N
  · rw [List.getElem?_map, List.getElem?_map, List.getElem?_range hj]
    by_cases he : i = j
    · subst he; simp [upd, hj]
    · have : j ≠ i := fun h => he h.symm
      simp [he, upd, this]
  · have h1 : ((List.range N).map h)[j]? = none := List.getElem?_eq_none (by simp; omega)
    have h2 : ((List.range N).map (upd h i v))[j]? = none := List.getElem?_eq_none (by simp; omega)
    rw [h1, h2]
    by_cases he : i = j
    · subst he; simp; omega
    · simp [he]
def ABox (w : World) (b : Nat) (t : TypeId) (N : Nat) (h : Nat → Value) : Prop := w.heap[b]? = some (.cells (arrF N h) t (0, 0))
theorem ABox.cell {w : World} {b t N : Nat} {h : Nat → Value} (x : ABox w b t N h) (i : Nat) (hi : i < N) : w.cell? ⟨b, i, none⟩ = some (h i) := by
  rw [cell_of_row w b _ _ t (0, 0) x, arrF_get N h i hi]
theorem ABox.fz {w : World} {b t N : Nat} {h : Nat → Value} (x : ABox w b t N h) (i : Nat) : w.frozen? ⟨b, i, none⟩ = false := frozen_of_row w b i _ t x
theorem ABox.set {w : World} {b t N : Nat} {h : Nat → Value} (x : ABox w b t N h) (i : Nat) (v : Value) : ABox (w.setCell ⟨b, i, none⟩ v) b t N (upd h i v) := by
  unfold ABox
  rw [heap_setCell_same w b _ _ t _ x, arrF_set]
theorem ABox.lt {w : World} {b t N : Nat} {h : Nat → Value} (x : ABox w b t N h) : b < w.heap.size := (Array.getElem?_eq_some_iff.1 x).1
theorem ABox.same {w w' : World} {b t N : Nat} {h : Nat → Value} (x : ABox w b t N h) (hh : w'.heap[b]? = w.heap[b]?) : ABox w' b t N h := by unfold ABox; rw [hh]; exact x
theorem ABox.of_row {w : World} {B g n t sz : Nat} {xs : List Value} {h : Nat → Value} (ho : w.ownsRow B t sz (.slice (some ⟨g, 0, none⟩) n n) n xs) (hx : xs = (List.range (n * sz)).map h) : ABox w g t (n * sz) h := by
  rcases ho.2 with ⟨h', _⟩ | ⟨g', cap', cur, h', hb, hg, hn, _, hcs, htake⟩
  · simp at h'
  · simp only [Value.slice.injEq, Option.some.injEq, Addr.mk.injEq, and_true, true_and] at h'
    obtain ⟨rfl, rfl⟩ := h'
    unfold ABox
    rw [hg]
    congr 2
    unfold arrF
    rw [← hx, ← htake, List.take_of_length_le (by simp; omega)]
theorem made_one (z : Value) (n : Nat) : (madeCells #[z] (n * 1)).toList = (List.range (n * 1)).map fun _ => z := by
  rw [Nat.mul_one, toList_madeCells_one, List.map_const', List.length_range]
theorem made_two (y z : Value) (n : Nat) : (madeCells #[y, z] (n * 2)).toList = (List.range (n * 2)).map fun i => if i % 2 = 0 then y else z := by
  unfold madeCells
  rw [Array.toList_map, show (Array.range (n * 2)).toList = List.range (n * 2) by simp]
  apply List.map_congr_left
  intro i _
  rcases Nat.mod_two_eq_zero_or_one i with h | h <;> simp [h]

theorem Try.info3 : (Try.prog.info? 3).map (fun i => (i.zero, i.size, i.bytes)) = some (some (.int .i64 0), 1, 8) := by kernel_rfl
theorem Try.info68 : (Try.prog.info? 68).map (fun i => (i.zero, i.size, i.bytes)) = some (some (.agg #[.int .u32 0, .int .i64 0]), 2, 16) := by kernel_rfl
/-- What is given so far. -/
structure Given (w : World) (b gs gc gg : Nat) (ln : Nat → Nat) (L M k : Nat) (g : Nat → Value) : Prop where
  tab : TBox w b g
  sym : ∃ hs, ABox w gs 3 M hs ∧ ∀ s, s < k → 0 < ln s → hs (atC ln L (ln s) + cnt ln (ln s) s) = .int .i64 (s : Int)
  cod : ∃ hc, ABox w gc 68 (L * 2) hc ∧ (∀ s, s < k → hc (s * 2) = .int .u32 (codeC ln L s : Int) ∧ hc (s * 2 + 1) = .int .i64 (ln s : Int)) ∧ (∀ s, k ≤ s → hc (s * 2) = .int .u32 0 ∧ hc (s * 2 + 1) = .int .i64 0)
  giv : ∃ hg, ABox w gg 76 16 hg ∧ ∀ n, n < 16 → hg n = .int .u32 (cnt ln n k : Int)

theorem IntsAt.low {w w' : World} {a : Option Addr} {len B : Nat} {k : IntKind} {f : Nat → Int} (h : IntsAt w a len k f) (hb : Below B w w') (hab : 0 < len → ∀ bb o, a = some ⟨bb, o, none⟩ → bb < B) : IntsAt w' a len k f := by
  refine ⟨h.1, h.2.1, ?_⟩
  rcases h.2.2 with h0 | ⟨b, off, rfl, hc⟩
  · exact .inl h0
  · exact .inr ⟨b, off, rfl, fun i hi => (hb.cell (p := ⟨b, off + i, none⟩) (hab (by omega) b off rfl)).trans (hc i hi)⟩
theorem Given.skip {w : World} {b gs gc gg : Nat} {ln : Nat → Nat} {L M k : Nat} {g : Nat → Value} (h : Given w b gs gc gg ln L M k g) (h0 : ln k = 0) : Given w b gs gc gg ln L M (k + 1) g := by
  obtain ⟨hs, hs1, hs2⟩ := h.sym
  obtain ⟨hc, hc1, hc2, hc3⟩ := h.cod
  obtain ⟨hg, hg1, hg2⟩ := h.giv
  refine ⟨h.tab, ⟨hs, hs1, fun s hs' h1 => ?_⟩, ⟨hc, hc1, fun s hs' => ?_, fun s hs' => hc3 s (by omega)⟩, ⟨hg, hg1, fun n hn => ?_⟩⟩
  · have : s ≠ k := fun he => by subst he; omega
    exact hs2 s (by omega) h1
  · by_cases he : s = k
    · subst he
      have := hc3 s (Nat.le_refl _)
      unfold codeC
      rw [if_pos h0, h0]
      exact this
    · exact hc2 s (by omega)
  · rw [hg2 n hn, cnt, if_neg (by omega)]; rfl
theorem Given.next {w' : World} {b gs gc gg : Nat} {ln : Nat → Nat} {L M k : Nat} {g : Nat → Value} {hs hc hg : Nat → Value} (h0 : 0 < ln k) (hkL : k < L)
    (t1 : TBox w' b g) (hs2 : ∀ s, s < k → 0 < ln s → hs (atC ln L (ln s) + cnt ln (ln s) s) = .int .i64 (s : Int)) (hc2 : ∀ s, s < k → hc (s * 2) = .int .u32 (codeC ln L s : Int) ∧ hc (s * 2 + 1) = .int .i64 (ln s : Int)) (hc3 : ∀ s, k ≤ s → hc (s * 2) = .int .u32 0 ∧ hc (s * 2 + 1) = .int .i64 0)
    (hg2 : ∀ n, n < 16 → hg n = .int .u32 (cnt ln n k : Int))
    (s1 : ABox w' gs 3 M (upd hs (atC ln L (ln k) + cnt ln (ln k) k) (.int .i64 (k : Int))))
    (c1 : ABox w' gc 68 (L * 2) (upd (upd hc (k * 2) (.int .u32 (codeC ln L k : Int))) (k * 2 + 1) (.int .i64 (ln k : Int))))
    (g1 : ABox w' gg 76 16 (upd hg (ln k) (.int .u32 ((cnt ln (ln k) k + 1 : Nat) : Int)))) : Given w' b gs gc gg ln L M (k + 1) g := by
  refine ⟨t1, ⟨_, s1, fun s hs' h1 => ?_⟩, ⟨_, c1, fun s hs' => ?_, fun s hs' => ?_⟩, ⟨_, g1, fun n hn => ?_⟩⟩
  · by_cases he : s = k
    · subst he; rw [upd_same]
    · rw [upd_other _ _ _ _ (at_ne ln L s k (by omega) hkL h1 h0)]
      exact hs2 s (by omega) h1
  · by_cases he : s = k
    · subst he
      exact ⟨by rw [upd_other _ _ _ _ (by omega), upd_same], by rw [upd_same]⟩
    · rw [upd_other _ _ _ _ (by omega), upd_other _ _ _ _ (by omega), upd_other _ _ _ _ (by omega), upd_other _ _ _ _ (by omega)]
      exact hc2 s (by omega)
  · rw [upd_other _ _ _ _ (by omega), upd_other _ _ _ _ (by omega), upd_other _ _ _ _ (by omega), upd_other _ _ _ _ (by omega)]
    exact hc3 s (by omega)
  · by_cases he : n = ln k
    · subst he
      rw [upd_same, cnt, if_pos ⟨rfl, h0⟩]
    · rw [upd_other _ _ _ _ he, hg2 n hn, cnt, if_neg (by omega)]; rfl

set_option maxHeartbeats 2000000 in
theorem give_any (b : Nat) (a : Option Addr) (len cap : Nat) (ln : Nat → Nat) (g : Nat → Value) (w : World) (hl : len ≤ 320) (hf : IntsAt w a len .i64 (fun i => (ln i : Int))) (h15 : ∀ i, ln i ≤ 15) (hb : TBox w b g) (hab : 0 < len → ∀ bb o, a = some ⟨bb, o, none⟩ → bb < b)
    (hr : RowsAre g (fstC ln len) (fun n => cnt ln n len) (atC ln len)) (hkr : kr ln len 15 ≤ 32768) :
    Calls Try.prog 30 #[.pointer (some ⟨b, 0, none⟩), .slice a len cap] w fun e w' => e = .returned (.tuple #[]) ∧ (∃ g' gs gc gg M, Given w' b gs gc gg ln len M len g' ∧ RowsAre g' (fstC ln len) (fun n => cnt ln n len) (atC ln len) ∧ M = atC ln len 15 + cnt ln 15 len ∧ g' 48 = g 48 ∧ g' 49 = .slice (some ⟨gs, 0, none⟩) M M ∧ g' 50 = .slice (some ⟨gc, 0, none⟩) len len ∧ b < gs ∧ b < gc ∧ gs ≠ gc ∧ b < gg) ∧ Below b w w' := by
  obtain ⟨i3, hi3, hz30, hz31, hz32⟩ := info_parts Try.info3
  obtain ⟨i8, hi8, hz80, hz81, hz82⟩ := info_parts Try.info68
  have HF := hidM hf
  have HTB := hidM hb
  have HAB := hidM hab
  have HR := hidM hr
  have H15 := hidM h15
  have c45 := hb.cell 45 (by decide)
  have c46 : w.cell? ⟨b, 46, none⟩ = some (.int .u32 ((cnt ln 15 len : Nat) : Int)) := (hb.cell 46 (by decide)).trans (by rw [(hr 15 (by decide)).2.1])
  have c47 := hb.cell 47 (by decide)
  rw [(hr 15 (by decide)).1] at c45
  rw [(hr 15 (by decide)).2.2] at c47
  have ba : atC ln len 15 + cnt ln 15 len ≤ 10000 := by
    have h1 := atC_le ln len 15
    have h3 := cnt_le ln 15 len
    omega
  obtain ⟨F, hF⟩ : ∃ F, F = fstC ln len 15 := ⟨_, rfl⟩
  obtain ⟨C, hC⟩ : ∃ C, C = cnt ln 15 len := ⟨_, rfl⟩
  obtain ⟨A, hA⟩ : ∃ A, A = atC ln len 15 := ⟨_, rfl⟩
  rw [← hF] at c45
  rw [← hC] at c46 ba
  rw [← hA] at c47 ba
  have HM : Hid (A + C = atC ln len 15 + cnt ln 15 len) := by unfold Hid; rw [hA, hC]
  have HTA : Hid (TBox (w.alloc (.cells #[.int .u32 (F : Int), .int .u32 (C : Int), .int .u32 (A : Int)] 61)) b g) := hb.same (Below.heap_alloc w _ b hb.lt)
  have HBA : Hid (Below b w (w.alloc (.cells #[.int .u32 (F : Int), .int .u32 (C : Int), .int .u32 (A : Int)] 61))) := (Below.refl _ _).alloc (Nat.le_of_lt hb.lt) _
  clear hf hb hab hr h15 hF hC hA
  obtain ⟨M, hM⟩ : ∃ M, M = A + C := ⟨_, rfl⟩
  have HMM := hidM hM
  have eM : (A : Int) + (C : Int) = (M : Int) := by omega
  have m4 : M ≤ 10000 := by omega
  clear hM
  go_enter Try.func30, Try.ntmps30
  go_wp2_with (at_make; refine wpList_make_full _ rfl _ _ 22 rfl b 3 i3 (.int .i64 0) 1 Try.underlying22 hi3 hz30 hz31 .u32 .u32 _ _ M rfl rfl rfl rfl ?c1 ?c2 ?c3 ?_)
  case c1 => rw [hz32]; omega
  case c2 => unfold maxLen; omega
  case c3 => exact Nat.le_of_lt HTA.out.lt
  intro w1 hown1 hgr1
  have HLTb : Hid (b < w.heap.size) := HTB.out.lt
  have HT1 : Hid (TBox w1 b g) := HTA.out.same (hgr1.block b (by have := HLTb.out; simp; omega) (by simp))
  have HS1 : Hid (ABox w1 (w.heap.size + 1) 3 (M * 1) (fun _ => .int .i64 0)) := ABox.of_row hown1 (by rw [← made_one, Nat.mul_one])
  have HB1 : Hid (Below b w w1) := HBA.out.grown hgr1 (by have := HLTb.out; simp; omega) (by intro k hk; cases hk)
  have HBG : Hid (b < w.heap.size + 1) := by have := HLTb.out; unfold Hid; omega
  clear hown1 hgr1 c45 c46 c47
  generalize w.heap.size + 1 = gs at *
  have t0 := HT1.out.cell 49 (by decide)
  have t1 := HT1.out.fz 49
  have HT2 : Hid (TBox (w1.setCell ⟨b, 49, none⟩ (.slice (some ⟨gs, 0, none⟩) M M)) b (upd g 49 (.slice (some ⟨gs, 0, none⟩) M M))) := HT1.out.set 49 _
  have HS2 : Hid (ABox (w1.setCell ⟨b, 49, none⟩ (.slice (some ⟨gs, 0, none⟩) M M)) gs 3 (M * 1) (fun _ => .int .i64 0)) := HS1.out.same (Below.heap_setCell w1 ⟨b, 49, none⟩ _ gs (by have := HBG.out; simp; omega))
  have HB2 : Hid (Below b w (w1.setCell ⟨b, 49, none⟩ (.slice (some ⟨gs, 0, none⟩) M M))) := below_set HB1.out (Nat.le_refl b)
  go_wp2_with (at_make; refine wpList_make_full _ rfl _ _ 63 rfl b 68 i8 (.agg #[.int .u32 0, .int .i64 0]) 2 Try.underlying63 hi8 hz80 hz81 .i64 .i64 _ _ len rfl rfl rfl rfl ?c4 ?c5 ?c6 ?_)
  case c4 => rw [hz82]; omega
  case c5 => unfold maxLen; omega
  case c6 => exact Nat.le_of_lt HT2.out.lt
  intro w3 hown3 hgr3
  clear t0 t1
  have HGC : Hid (gs < w1.heap.size) := HS1.out.lt
  generalize w1.setCell ⟨b, 49, none⟩ (.slice (some ⟨gs, 0, none⟩) M M) = w2 at *
  generalize w1.heap.size = gc at *
  have HT3 : Hid (TBox w3 b (upd g 49 (.slice (some ⟨gs, 0, none⟩) M M))) := HT2.out.same (hgr3.block b HT2.out.lt (by simp))
  have HS3 : Hid (ABox w3 gs 3 (M * 1) (fun _ => .int .i64 0)) := HS2.out.same (hgr3.block gs HS2.out.lt (by simp))
  have HC3 : Hid (ABox w3 gc 68 (len * 2) (fun i => if i % 2 = 0 then .int .u32 0 else .int .i64 0)) := ABox.of_row hown3 (made_two _ _ _)
  have HB3 : Hid (Below b w w3) := HB2.out.grown hgr3 (Nat.le_of_lt HT2.out.lt) (by intro k hk; cases hk)
  clear hown3 hgr3
  have t0 := HT3.out.cell 50 (by decide)
  have t1 := HT3.out.fz 50
  have HNb : Hid (gs ≠ b ∧ gc ≠ b) := by have := HBG.out; have := HGC.out; unfold Hid; omega
  have HT4 : Hid (TBox (w3.setCell ⟨b, 50, none⟩ (.slice (some ⟨gc, 0, none⟩) len len)) b (upd (upd g 49 (.slice (some ⟨gs, 0, none⟩) M M)) 50 (.slice (some ⟨gc, 0, none⟩) len len))) := HT3.out.set 50 _
  have HS4 : Hid (ABox (w3.setCell ⟨b, 50, none⟩ (.slice (some ⟨gc, 0, none⟩) len len)) gs 3 (M * 1) (fun _ => .int .i64 0)) := HS3.out.same (Below.heap_setCell w3 ⟨b, 50, none⟩ _ gs HNb.out.1)
  have HC4 : Hid (ABox (w3.setCell ⟨b, 50, none⟩ (.slice (some ⟨gc, 0, none⟩) len len)) gc 68 (len * 2) (fun i => if i % 2 = 0 then .int .u32 0 else .int .i64 0)) := HC3.out.same (Below.heap_setCell w3 ⟨b, 50, none⟩ _ gc HNb.out.2)
  have HB4 : Hid (Below b w (w3.setCell ⟨b, 50, none⟩ (.slice (some ⟨gc, 0, none⟩) len len))) := below_set HB3.out (Nat.le_refl b)
  have HW4 : Hid ((w3.setCell ⟨b, 50, none⟩ (.slice (some ⟨gc, 0, none⟩) len len)).heap.size = w3.heap.size) := by unfold Hid; simp
  go_wp2
  generalize w3.setCell ⟨b, 50, none⟩ (.slice (some ⟨gc, 0, none⟩) len len) = w4 at *
  clear t0 t1
  have HGG : Hid (b < w3.heap.size ∧ gs < w3.heap.size ∧ gc < w3.heap.size) := ⟨HT3.out.lt, HS3.out.lt, HC3.out.lt⟩
  have HG5 : Hid (Given (w4.alloc (.cells #[.int .u32 0, .int .u32 0, .int .u32 0, .int .u32 0, .int .u32 0, .int .u32 0, .int .u32 0, .int .u32 0, .int .u32 0, .int .u32 0, .int .u32 0, .int .u32 0, .int .u32 0, .int .u32 0, .int .u32 0, .int .u32 0] 76)) b gs gc w3.heap.size ln len M 0 (upd (upd g 49 (.slice (some ⟨gs, 0, none⟩) M M)) 50 (.slice (some ⟨gc, 0, none⟩) len len))) := by
    refine ⟨HT4.out.same (Below.heap_alloc w4 _ b HT4.out.lt), ⟨fun _ => .int .i64 0, ?_, fun s hs => by omega⟩, ⟨_, HC4.out.same (Below.heap_alloc w4 _ gc HC4.out.lt), fun s hs => by omega, fun s _ => ⟨?_, ?_⟩⟩, ⟨fun _ => .int .u32 0, ?_, fun n _ => rfl⟩⟩
    · have h1 := HS4.out.same (w' := w4.alloc (.cells #[.int .u32 0, .int .u32 0, .int .u32 0, .int .u32 0, .int .u32 0, .int .u32 0, .int .u32 0, .int .u32 0, .int .u32 0, .int .u32 0, .int .u32 0, .int .u32 0, .int .u32 0, .int .u32 0, .int .u32 0, .int .u32 0] 76)) (Below.heap_alloc w4 _ gs HS4.out.lt)
      rw [Nat.mul_one] at h1
      exact h1
    · simp
    · simp
    · rw [← HW4.out]
      exact heap_alloc_new w4 _
  have HB5 : Hid (Below b w (w4.alloc (.cells #[.int .u32 0, .int .u32 0, .int .u32 0, .int .u32 0, .int .u32 0, .int .u32 0, .int .u32 0, .int .u32 0, .int .u32 0, .int .u32 0, .int .u32 0, .int .u32 0, .int .u32 0, .int .u32 0, .int .u32 0, .int .u32 0] 76))) := HB4.out.alloc (Nat.le_of_lt HT4.out.lt) _
  generalize w4.alloc (.cells #[.int .u32 0, .int .u32 0, .int .u32 0, .int .u32 0, .int .u32 0, .int .u32 0, .int .u32 0, .int .u32 0, .int .u32 0, .int .u32 0, .int .u32 0, .int .u32 0, .int .u32 0, .int .u32 0, .int .u32 0, .int .u32 0] 76) = w5 at *
  have H48 : Hid (upd (upd g 49 (.slice (some ⟨gs, 0, none⟩) M M)) 50 (.slice (some ⟨gc, 0, none⟩) len len) 48 = g 48) := by unfold Hid; rw [upd_other _ _ _ _ (by decide), upd_other _ _ _ _ (by decide)]
  have H49 : Hid (upd (upd g 49 (.slice (some ⟨gs, 0, none⟩) M M)) 50 (.slice (some ⟨gc, 0, none⟩) len len) 49 = .slice (some ⟨gs, 0, none⟩) M M) := by unfold Hid; rw [upd_other _ _ _ _ (by decide), upd_same]
  have H50 : Hid (upd (upd g 49 (.slice (some ⟨gs, 0, none⟩) M M)) 50 (.slice (some ⟨gc, 0, none⟩) len len) 50 = .slice (some ⟨gc, 0, none⟩) len len) := by unfold Hid; rw [upd_same]
  have HRR : Hid (RowsAre (upd (upd g 49 (.slice (some ⟨gs, 0, none⟩) M M)) 50 (.slice (some ⟨gc, 0, none⟩) len len)) (fstC ln len) (fun n => cnt ln n len) (atC ln len)) := (HR.out.far 49 (by decide) _).far 50 (by decide) _
  generalize upd (upd g 49 (.slice (some ⟨gs, 0, none⟩) M M)) 50 (.slice (some ⟨gc, 0, none⟩) len len) = g5 at *
  generalize w3.heap.size = gg at *
  clear HT1 HS1 HB1 HT2 HS2 HB2 HT3 HS3 HC3 HB3 HT4 HS4 HC4 HB4 HTA HBA HW4
  go_loopw [6, 7, 30] (fun _ _ i wr => ∃ k : Nat, k ≤ len ∧ i = .int .i64 k ∧ Given wr b gs gc gg ln len M k g5 ∧ Below b w wr) (fun _ _ i _ => len - (intOf i).toNat)
  case atStart => exact ⟨0, Nat.zero_le _, rfl, HG5.out, HB5.out⟩
  case round =>
    obtain ⟨k, hk, rfl, hgv, hbr⟩ := hrel
    have HGV := hidM hgv
    have HBR := hidM hbr
    clear hgv hbr HG5 HB5
    by_cases hlt : k < len
    · obtain ⟨bb, off, rfl, hc⟩ := (HF.out.low HBR.out HAB.out).get k hlt
      have hk15 := H15.out k
      obtain ⟨n, hn⟩ : ∃ n, n = ln k := ⟨_, rfl⟩
      have HN := hidM hn
      have hc' : wr.cell? ⟨bb, off + k, none⟩ = some (.int .i64 (n : Int)) := by rw [hn]; exact hc
      rw [← hn] at hk15
      clear hc hn
      by_cases h0 : n = 0
      · subst h0
        have HG1 := hidM (HGV.out.skip HN.out.symm)
        go_wp2
        go_roundw
        case rel => exact ⟨k + 1, by omega, by go_num, HG1.out, HBR.out⟩
        case measure => simp [intOf]; omega
      · have h0b : ((n : Int) == 0) = false := by simp; omega
        obtain ⟨hs, hs1, hs2⟩ := HGV.out.sym
        obtain ⟨hcc, hc1, hc2, hc3⟩ := HGV.out.cod
        obtain ⟨hg, hg1, hg2⟩ := HGV.out.giv
        have htab := HGV.out.tab
        obtain ⟨r1, r2, r3⟩ := HRR.out n (by omega)
        have c50 := htab.cell 50 (by decide)
        rw [H50.out] at c50
        have c49 := htab.cell 49 (by decide)
        rw [H49.out] at c49
        have cF := htab.cell (n * 3) (by omega)
        rw [r1] at cF
        have cA := htab.cell (n * 3 + 2) (by omega)
        rw [r3] at cA
        have cG := hg1.cell n (by omega)
        rw [hg2 n (by omega)] at cG
        have gF := hg1.fz n
        have d0 := hc1.cell (k * 2) (by omega)
        have d1 := hc1.cell (k * 2 + 1) (by omega)
        have e0 := hc1.fz (k * 2)
        have e1 := hc1.fz (k * 2 + 1)
        have HFB : fstC ln len n + cnt ln n k ≤ 32768 := by
          have h1 := code_fits ln len n hk15 hkr
          have h2 : 2 ^ n ≤ 2 ^ 15 := Nat.pow_le_pow_right (by decide) hk15
          have h3 := cnt_mono ln n (show k ≤ len by omega)
          omega
        have HAM : atC ln len n + cnt ln n k < M := by
          have h1 := at_total ln len n hk15
          have h2 : cnt ln n k < cnt ln n len := by
            have := cnt_lt ln hlt (show 0 < ln k by rw [← HN.out]; omega)
            rw [← HN.out] at this
            exact this
          have := HMM.out
          have := HM.out
          omega
        have HSB := hidM hs1
        have HCB := hidM hc1
        have HGB := hidM hg1
        have HTB2 := hidM htab
        have H2 := hidM (And.intro hs2 (And.intro hc2 (And.intro hc3 hg2)))
        have HCC : Hid (codeC ln len k = fstC ln len n + cnt ln n k) := by unfold Hid codeC; rw [← HN.out, if_neg h0]
        obtain ⟨Fn, hFn⟩ : ∃ Fn, Fn = fstC ln len n := ⟨_, rfl⟩
        obtain ⟨An, hAn⟩ : ∃ An, An = atC ln len n := ⟨_, rfl⟩
        obtain ⟨y, hy⟩ : ∃ y, y = cnt ln n k := ⟨_, rfl⟩
        rw [← hFn] at cF HFB HCC
        rw [← hAn] at cA HAM
        rw [← hy] at cG HFB HAM HCC
        have HFN := hidM hFn
        have HAN := hidM hAn
        have HYN := hidM hy
        have n1 : b ≠ gc := by have := HNb.out.2; omega
        have n2 : gg ≠ gc := by have := HGG.out; omega
        have n3 : gc ≠ b := Ne.symm n1
        have n4 : gc ≠ gg := Ne.symm n2
        have b1 : (0 : Int) ≤ (n : Int) := by omega
        have b2 : (n : Int) < 16 := by omega
        have b3 : (k : Int) < (len : Int) := by omega
        clear hs1 hs2 hc1 hc2 hc3 hg1 hg2 htab r1 r2 r3 hFn hAn hy
        go_wp2
        go_region_held3 (fun w' => w'.cell? ⟨b, 50, none⟩ = some (.slice (some ⟨gc, 0, none⟩) len len) ∧ w'.cell? ⟨b, n * 3, none⟩ = some (.int .u32 (Fn : Int)) ∧ w'.cell? ⟨gg, n, none⟩ = some (.int .u32 (y : Int))) (go_keep) (fail)
        obtain ⟨Z, hZ⟩ : ∃ Z, Z = Fn + y := ⟨_, rfl⟩
        have hwr : IntKind.u32.wrap ((Fn : Int) + (y : Int)) = (Z : Int) := by rw [IntKind.wrap_u32']; omega
        rw [hwr]
        have HZ : Hid (codeC ln len k = Z) := by unfold Hid; rw [HCC.out, hZ]
        have HTa : Hid (TBox (((wr.setCell ⟨gc, k * 2, none⟩ (.int .u32 (Z : Int))).setCell ⟨gc, k * 2 + 1, none⟩ (.int .i64 (n : Int))).drew) b g5) :=
          (HTB2.out.same (Below.heap_setCell wr ⟨gc, k * 2, none⟩ _ b n1)).same (Below.heap_setCell _ ⟨gc, k * 2 + 1, none⟩ _ b n1)
        have HGa : Hid (ABox (((wr.setCell ⟨gc, k * 2, none⟩ (.int .u32 (Z : Int))).setCell ⟨gc, k * 2 + 1, none⟩ (.int .i64 (n : Int))).drew) gg 76 16 hg) :=
          (HGB.out.same (Below.heap_setCell wr ⟨gc, k * 2, none⟩ _ gg n2)).same (Below.heap_setCell _ ⟨gc, k * 2 + 1, none⟩ _ gg n2)
        have n5 : gs ≠ gc := by have := HGC.out; omega
        have HSa : Hid (ABox (((wr.setCell ⟨gc, k * 2, none⟩ (.int .u32 (Z : Int))).setCell ⟨gc, k * 2 + 1, none⟩ (.int .i64 (n : Int))).drew) gs 3 M hs) :=
          (HSB.out.same (Below.heap_setCell wr ⟨gc, k * 2, none⟩ _ gs n5)).same (Below.heap_setCell _ ⟨gc, k * 2 + 1, none⟩ _ gs n5)
        have HCa : Hid (ABox (((wr.setCell ⟨gc, k * 2, none⟩ (.int .u32 (Z : Int))).setCell ⟨gc, k * 2 + 1, none⟩ (.int .i64 (n : Int))).drew) gc 68 (len * 2) (upd (upd hcc (k * 2) (.int .u32 (Z : Int))) (k * 2 + 1) (.int .i64 (n : Int)))) := (HCB.out.set (k * 2) _).set (k * 2 + 1) _
        have HBa : Hid (Below b w (((wr.setCell ⟨gc, k * 2, none⟩ (.int .u32 (Z : Int))).setCell ⟨gc, k * 2 + 1, none⟩ (.int .i64 (n : Int))).drew)) :=
          below_drewN (below_set (below_set HBR.out (by have := HBG.out; have := HGC.out; omega)) (by have := HBG.out; have := HGC.out; omega)) 1
        generalize ((wr.setCell ⟨gc, k * 2, none⟩ (.int .u32 (Z : Int))).setCell ⟨gc, k * 2 + 1, none⟩ (.int .i64 (n : Int))).drew = wA at *
        have C49 := HTa.out.cell 49 (by decide)
        rw [H49.out] at C49
        have CA := HTa.out.cell (n * 3 + 2) (by omega)
        rw [(HRR.out n (by omega)).2.2, ← HAN.out] at CA
        have CG := HGa.out.cell n (by omega)
        rw [H2.out.2.2.2 n (by omega), ← HYN.out] at CG
        obtain ⟨P, hP⟩ : ∃ P, P = An + y := ⟨_, rfl⟩
        have eP : (An : Int) + (y : Int) = (P : Int) := by omega
        have wP : IntKind.u32.wrap ((P : Nat) : Int) = (P : Int) := by rw [IntKind.wrap_u32']; omega
        have pM : P < M := by omega
        have HP := hidM hP
        have D0 := HSa.out.cell P pM
        have E0 := HSa.out.fz P
        have b4 : (P : Int) < (M : Int) := by omega
        have m1 : b ≠ gs := by have := HNb.out.1; omega
        have m2 : gg ≠ gs := by have := HGG.out; omega
        have m3 : gs ≠ b := Ne.symm m1
        have m4' : gs ≠ gg := Ne.symm m2
        clear c50 c49 cF cA cG gF d0 d1 e0 e1 hc' hwr hZ hP
        go_wp2
        go_region_held3 (fun w' => w'.cell? ⟨b, 49, none⟩ = some (.slice (some ⟨gs, 0, none⟩) M M) ∧ w'.cell? ⟨b, n * 3 + 2, none⟩ = some (.int .u32 (An : Int)) ∧ w'.cell? ⟨gg, n, none⟩ = some (.int .u32 (y : Int))) (go_keep) (fail)
        have HTb : Hid (TBox ((wA.setCell ⟨gs, P, none⟩ (.int .i64 (k : Int))).drew) b g5) := HTa.out.same (Below.heap_setCell wA ⟨gs, P, none⟩ _ b m1)
        have HGb : Hid (ABox ((wA.setCell ⟨gs, P, none⟩ (.int .i64 (k : Int))).drew) gg 76 16 hg) := HGa.out.same (Below.heap_setCell wA ⟨gs, P, none⟩ _ gg m2)
        have HCb : Hid (ABox ((wA.setCell ⟨gs, P, none⟩ (.int .i64 (k : Int))).drew) gc 68 (len * 2) (upd (upd hcc (k * 2) (.int .u32 (Z : Int))) (k * 2 + 1) (.int .i64 (n : Int)))) := HCa.out.same (Below.heap_setCell wA ⟨gs, P, none⟩ _ gc (Ne.symm n5))
        have HSb : Hid (ABox ((wA.setCell ⟨gs, P, none⟩ (.int .i64 (k : Int))).drew) gs 3 M (upd hs P (.int .i64 (k : Int)))) := HSa.out.set P _
        have HBb : Hid (Below b w ((wA.setCell ⟨gs, P, none⟩ (.int .i64 (k : Int))).drew)) := below_drewN (below_set HBa.out (Nat.le_of_lt HBG.out)) 1
        generalize (wA.setCell ⟨gs, P, none⟩ (.int .i64 (k : Int))).drew = wB at *
        have CG2 := HGb.out.cell n (by omega)
        rw [H2.out.2.2.2 n (by omega), ← HYN.out] at CG2
        have CF2 := HGb.out.fz n
        have y4 : y ≤ 32768 := by omega
        have HTc : Hid (TBox (wB.setCell ⟨gg, n, none⟩ (.int .u32 ((y : Int) + 1))) b g5) := HTb.out.same (Below.heap_setCell wB ⟨gg, n, none⟩ _ b (by have := HGG.out; simp; omega))
        have HCc : Hid (ABox (wB.setCell ⟨gg, n, none⟩ (.int .u32 ((y : Int) + 1))) gc 68 (len * 2) (upd (upd hcc (k * 2) (.int .u32 (Z : Int))) (k * 2 + 1) (.int .i64 (n : Int)))) := HCb.out.same (Below.heap_setCell wB ⟨gg, n, none⟩ _ gc n4)
        have HSc : Hid (ABox (wB.setCell ⟨gg, n, none⟩ (.int .u32 ((y : Int) + 1))) gs 3 M (upd hs P (.int .i64 (k : Int)))) := HSb.out.same (Below.heap_setCell wB ⟨gg, n, none⟩ _ gs m4')
        have HGc : Hid (ABox (wB.setCell ⟨gg, n, none⟩ (.int .u32 ((y : Int) + 1))) gg 76 16 (upd hg n (.int .u32 ((y : Int) + 1)))) := HGb.out.set n _
        have HBc : Hid (Below b w (wB.setCell ⟨gg, n, none⟩ (.int .u32 ((y : Int) + 1)))) := below_set HBb.out (by have := HGG.out; omega)
        have HG9 : Hid (Given (wB.setCell ⟨gg, n, none⟩ (.int .u32 ((y : Int) + 1))) b gs gc gg ln len M (k + 1) g5) := by
          have q1 := HN.out
          refine Given.next (hs := hs) (hc := hcc) (hg := hg) (by rw [← q1]; omega) hlt HTc.out H2.out.1 H2.out.2.1 H2.out.2.2.1 H2.out.2.2.2 ?_ ?_ ?_
          · rw [← q1, ← HAN.out, ← HYN.out, ← HP.out]; exact HSc.out
          · rw [HZ.out, ← q1]; exact HCc.out
          · rw [← q1, ← HYN.out]; exact HGc.out
        clear C49 CA CG D0 E0 eP wP
        go_wp2
        go_roundw
        case rel => exact ⟨k + 1, by omega, by go_num, HG9.out, HBc.out⟩
        case measure => simp [intOf]; omega
    · have HK : Hid (k = len) := by unfold Hid; omega
      go_wp2
      refine bodyPost_end (results_none Try.results30 _ _ _) rfl ⟨rfl, ⟨g5, gs, gc, gg, M, by have := HGV.out; rw [HK.out] at this; exact this, HRR.out, by rw [HMM.out, HM.out], H48.out, H49.out, H50.out, HBG.out, by have := HBG.out; have := HGC.out; omega, by have := HGC.out; omega, HGG.out.1⟩, HBR.out⟩
end Go.Proofs.Ytpidofgmbjkbiaa
