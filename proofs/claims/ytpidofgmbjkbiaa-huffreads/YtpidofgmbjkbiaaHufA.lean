/-
  Walks of huff: the table's box; countLengths.
-/
import Derived.Test.YtpidofgmbjkbiaaRows
import Derived.Test.YtpidofgmbjkbiaaHufM
import Derived.WalkKit
import Derived.WalkSpells
import Derived.WalkLawsBesides
import Derived.Laws.IdiomStrings
import Derived.Laws.BitsAllLaws
import Derived.Deep.QuietTactic
import Derived.BigQuiet
import Derived.Deep.RegionHeld3
import Derived.Deep.MidRow
import Derived.OpenShut
namespace Go.Proofs.Ytpidofgmbjkbiaa
open Go.RowKit

theorem hidM {p : Prop} (h : p) : Hid p := h
theorem ret_int {k : IntKind} {a b : Int} (h : a = b) : Ending.returned (.int k a) = .returned (.int k b) := by rw [h]
theorem val_int {k : IntKind} {a b : Int} (h : a = b) : Value.int k a = .int k b := by rw [h]
theorem ret_two {k l : IntKind} {a b c d : Int} (h : a = b) (g : c = d) : Ending.returned (.tuple #[.int k a, .int l c]) = .returned (.tuple #[.int k b, .int l d]) := by rw [h, g]
theorem below_set {B b o : Nat} {a w : World} {v : Value} (h : Below B a w) (hb : B ≤ b) : Below B a (w.setCell ⟨b, o, none⟩ v) :=
  h.trans ⟨rfl, rfl, rfl, by simp, fun k hk => Below.heap_setCell w ⟨b, o, none⟩ v k (by simp; omega)⟩

/-- A row of numbers that is an argument. -/
def IntsAt (w : World) (a : Option Addr) (len : Nat) (k : IntKind) (f : Nat → Int) : Prop :=
  len ≤ maxLen ∧ (∀ i, (Lit.int k (f i)).wf = true) ∧ (len = 0 ∨ ∃ b off, a = some ⟨b, off, none⟩ ∧ ∀ i, i < len → w.cell? ⟨b, off + i, none⟩ = some (.int k (f i)))
theorem IntsAt.below {w w' : World} {a : Option Addr} {len : Nat} {k : IntKind} {f : Nat → Int} (h : IntsAt w a len k f) (hb : Below w.heap.size w w') : IntsAt w' a len k f := by
  refine ⟨h.1, h.2.1, ?_⟩
  rcases h.2.2 with h0 | ⟨b, off, rfl, hc⟩
  · exact .inl h0
  · exact .inr ⟨b, off, rfl, fun i hi => (hb.cell (p := ⟨b, off + i, none⟩) (World.block_lt_of_cell? w _ (hc i hi))).trans (hc i hi)⟩
theorem IntsAt.get {w : World} {a : Option Addr} {len : Nat} {k : IntKind} {f : Nat → Int} (h : IntsAt w a len k f) (i : Nat) (hi : i < len) : ∃ b off, a = some ⟨b, off, none⟩ ∧ w.cell? ⟨b, off + i, none⟩ = some (.int k (f i)) := by
  rcases h.2.2 with h0 | ⟨b, off, rfl, hc⟩
  · omega
  · exact ⟨b, off, rfl, hc i hi⟩

/-- Of all memory block b alone may have turned; no block is new. -/
structure Only (b : Nat) (w w' : World) : Prop where
  os : w'.os = w.os
  tape : w'.tape = w.tape
  output : w'.output = w.output
  size : w'.heap.size = w.heap.size
  block : ∀ k, k ≠ b → w'.heap[k]? = w.heap[k]?
theorem Only.refl (b : Nat) (w : World) : Only b w w := ⟨rfl, rfl, rfl, rfl, fun _ _ => rfl⟩
theorem Only.trans {b : Nat} {u v w : World} (h : Only b u v) (k : Only b v w) : Only b u w :=
  ⟨k.os.trans h.os, k.tape.trans h.tape, k.output.trans h.output, k.size.trans h.size, fun i hi => (k.block i hi).trans (h.block i hi)⟩
theorem Only.drewN {b : Nat} {w w' : World} (h : Only b w w') (n : Nat) : Only b w (w'.drewN n) := ⟨h.os, h.tape, h.output, h.size, h.block⟩
theorem Only.setCell {b : Nat} {w w' : World} (h : Only b w w') (o : Nat) (v : Value) : Only b w (w'.setCell ⟨b, o, none⟩ v) :=
  ⟨h.os, h.tape, h.output, by simpa using h.size, fun k hk => (Below.heap_setCell w' ⟨b, o, none⟩ v k hk).trans (h.block k hk)⟩
theorem Only.below {b B : Nat} {w w' : World} (h : Only b w w') (hB : B ≤ b) : Below B w w' :=
  ⟨h.os, h.tape, h.output, by rw [h.size]; exact Nat.le_refl _, fun k hk => h.block k (by omega)⟩

theorem IntsAt.only {w w' : World} {a : Option Addr} {len b : Nat} {k : IntKind} {f : Nat → Int} (h : IntsAt w a len k f) (ho : Only b w w') (hab : 0 < len → ∀ bb o, a = some ⟨bb, o, none⟩ → bb ≠ b) : IntsAt w' a len k f := by
  refine ⟨h.1, h.2.1, ?_⟩
  rcases h.2.2 with h0 | ⟨b', off, rfl, hc⟩
  · exact .inl h0
  · exact .inr ⟨b', off, rfl, fun i hi => (World.cell?_of_block (a := ⟨b', off + i, none⟩) (ho.block b' (hab (by omega) b' off rfl))).trans (hc i hi)⟩

/-- The cells of a table's box, by a function. -/
def tabA (g : Nat → Value) : Array Value := ((List.range 51).map g).toArray
def upd (g : Nat → Value) (i : Nat) (v : Value) : Nat → Value := fun j => if j = i then v else g j
theorem tabA_get (g : Nat → Value) (i : Nat) (h : i < 51) : (tabA g)[i]? = some (g i) := by
  unfold tabA
  rw [List.getElem?_toArray, List.getElem?_map, List.getElem?_range h]; rfl
theorem tabA_set (g : Nat → Value) (i : Nat) (v : Value) : (tabA g).setIfInBounds i v = tabA (upd g i v) := by
  unfold tabA
  rw [List.setIfInBounds_toArray]
  congr 1
  apply List.ext_getElem?
  intro j
  rw [List.getElem?_set]
  by_cases hj : j < 51
  · rw [List.getElem?_map, List.getElem?_map, List.getElem?_range hj]
    by_cases he : i = j
    · subst he; simp [upd, hj]
    · have : j ≠ i := fun h => he h.symm
      simp [he, upd, this]
  · have h1 : ((List.range 51).map g)[j]? = none := List.getElem?_eq_none (by simp; omega)
    have h2 : ((List.range 51).map (upd g i v))[j]? = none := List.getElem?_eq_none (by simp; omega)
    rw [h1, h2]
    by_cases he : i = j
    · subst he; simp; omega
    · simp [he]
/-- A table's box at b. -/
def TBox (w : World) (b : Nat) (g : Nat → Value) : Prop := w.heap[b]? = some (.cells (tabA g) 65 (0, 0))
theorem TBox.cell {w : World} {b : Nat} {g : Nat → Value} (h : TBox w b g) (i : Nat) (hi : i < 51) : w.cell? ⟨b, i, none⟩ = some (g i) := by
  rw [cell_of_row w b _ _ 65 (0, 0) h, tabA_get g i hi]
theorem TBox.fz {w : World} {b : Nat} {g : Nat → Value} (h : TBox w b g) (i : Nat) : w.frozen? ⟨b, i, none⟩ = false := frozen_of_row w b i _ 65 h
theorem TBox.set {w : World} {b : Nat} {g : Nat → Value} (h : TBox w b g) (i : Nat) (v : Value) : TBox (w.setCell ⟨b, i, none⟩ v) b (upd g i v) := by
  unfold TBox
  rw [heap_setCell_same w b _ _ 65 _ h, tabA_set]
theorem TBox.lt {w : World} {b : Nat} {g : Nat → Value} (h : TBox w b g) : b < w.heap.size := (Array.getElem?_eq_some_iff.1 h).1
theorem TBox.same {w w' : World} {b : Nat} {g : Nat → Value} (h : TBox w b g) (hh : w'.heap[b]? = w.heap[b]?) : TBox w' b g := by unfold TBox; rw [hh]; exact h
theorem upd_same (g : Nat → Value) (i : Nat) (v : Value) : upd g i v i = v := by simp [upd]
theorem upd_other (g : Nat → Value) (i j : Nat) (v : Value) (h : j ≠ i) : upd g i v j = g j := by simp [upd, h]
/-- The rows of a table: the first code, how many, where the symbols begin. -/
def RowsAre (g : Nat → Value) (f c a : Nat → Nat) : Prop := ∀ n, n < 16 → g (n * 3) = .int .u32 (f n : Int) ∧ g (n * 3 + 1) = .int .u32 (c n : Int) ∧ g (n * 3 + 2) = .int .u32 (a n : Int)
theorem RowsAre.setC {g : Nat → Value} {f c a c' : Nat → Nat} (h : RowsAre g f c a) (n : Nat) (hc : ∀ m, m < 16 → m ≠ n → c' m = c m) : RowsAre (upd g (n * 3 + 1) (.int .u32 (c' n : Int))) f c' a := by
  intro m hm
  obtain ⟨h1, h2, h3⟩ := h m hm
  refine ⟨by rw [upd_other _ _ _ _ (by omega)]; exact h1, ?_, by rw [upd_other _ _ _ _ (by omega)]; exact h3⟩
  by_cases he : m = n
  · subst he; rw [upd_same]
  · rw [upd_other _ _ _ _ (by omega), h2, hc m hm he]
theorem RowsAre.far {g : Nat → Value} {f c a : Nat → Nat} (h : RowsAre g f c a) (i : Nat) (hi : 48 ≤ i) (v : Value) : RowsAre (upd g i v) f c a := by
  intro m hm
  obtain ⟨h1, h2, h3⟩ := h m hm
  exact ⟨by rw [upd_other _ _ _ _ (by omega)]; exact h1, by rw [upd_other _ _ _ _ (by omega)]; exact h2, by rw [upd_other _ _ _ _ (by omega)]; exact h3⟩

/-- The greatest of the first k lengths. -/
def lgs (ln : Nat → Nat) : Nat → Nat
  | 0 => 0
  | k + 1 => max (lgs ln k) (ln k)
theorem lgs_le (ln : Nat → Nat) (m : Nat) (h : ∀ i, ln i ≤ m) (k : Nat) : lgs ln k ≤ m := by
  induction k with
  | zero => exact Nat.zero_le _
  | succ k ih => have := h k; rw [lgs]; omega

theorem cntS (ln : Nat → Nat) (k m : Nat) (h0 : 0 < ln k) : (fun n => cnt ln n (k + 1)) (ln k) = cnt ln (ln k) k + 1 ∧ (m ≠ ln k → (fun n => cnt ln n (k + 1)) m = cnt ln m k) := by
  refine ⟨?_, fun hm => ?_⟩
  · show cnt ln (ln k) (k + 1) = _
    rw [cnt, if_pos ⟨rfl, h0⟩]
  · show cnt ln m (k + 1) = _
    rw [cnt, if_neg (by omega)]; rfl

set_option maxHeartbeats 2000000 in
theorem count_any (b : Nat) (a : Option Addr) (len cap : Nat) (ln : Nat → Nat) (g : Nat → Value) (w : World) (hl : len ≤ 320) (hf : IntsAt w a len .i64 (fun i => (ln i : Int))) (h15 : ∀ i, ln i ≤ 15) (hb : TBox w b g) (hab : 0 < len → ∀ bb o, a = some ⟨bb, o, none⟩ → bb ≠ b)
    (hr : RowsAre g (fun _ => 0) (fun _ => 0) (fun _ => 0)) (hg : g 48 = .int .i64 0) :
    Calls Try.prog 27 #[.pointer (some ⟨b, 0, none⟩), .slice a len cap] w fun e w' => e = .returned (.tuple #[]) ∧ (∃ g', TBox w' b g' ∧ RowsAre g' (fun _ => 0) (fun n => cnt ln n len) (fun _ => 0) ∧ g' 48 = .int .i64 (lgs ln len : Int) ∧ g' 49 = g 49 ∧ g' 50 = g 50) ∧ Only b w w' := by
  have HF := hidM hf
  have HTB := hidM hb
  have HAB := hidM hab
  have HR := hidM hr
  have HG := hidM hg
  have H15 := hidM h15
  clear hf hb hab hr hg h15
  go_enter Try.func27, Try.ntmps27
  go_wp2
  go_loopw [5, 8] (fun _ i wr => ∃ (k : Nat) (g' : Nat → Value), k ≤ len ∧ i = .int .i64 k ∧ TBox wr b g' ∧ RowsAre g' (fun _ => 0) (fun n => cnt ln n k) (fun _ => 0) ∧ g' 48 = .int .i64 (lgs ln k : Int) ∧ g' 49 = g 49 ∧ g' 50 = g 50 ∧ Only b w wr) (fun _ i _ => len - (intOf i).toNat)
  case atStart => exact ⟨0, g, Nat.zero_le _, rfl, HTB.out, HR.out, HG.out, rfl, rfl, Only.refl _ _⟩
  case round =>
    obtain ⟨k, g', hk, rfl, htb, hro, hlg, e49, e50, hon⟩ := hrel
    have HB := hidM htb
    have HRO := hidM hro
    have HLG := hidM hlg
    have HE := hidM (And.intro e49 e50)
    have HO := hidM hon
    clear htb hro hlg e49 e50 hon
    by_cases hlt : k < len
    · obtain ⟨bb, off, rfl, hc⟩ := (HF.out.only HO.out HAB.out).get k hlt
      have hk15 := H15.out k
      have HCS : Hid (0 < ln k → ∀ m, (fun n => cnt ln n (k + 1)) (ln k) = cnt ln (ln k) k + 1 ∧ (m ≠ ln k → (fun n => cnt ln n (k + 1)) m = cnt ln m k)) := fun h m => cntS ln k m h
      have HLS : Hid (lgs ln (k + 1) = max (lgs ln k) (ln k)) := rfl
      have HCL : Hid (cnt ln (ln k) k ≤ k) := cnt_le ln (ln k) k
      have HL15 : Hid (lgs ln k ≤ 15) := lgs_le ln 15 H15.out k
      obtain ⟨n, hn⟩ : ∃ n, n = ln k := ⟨_, rfl⟩
      rw [← hn] at hc hk15 HCS HLS HCL
      have HN := hidM hn
      clear hn
      by_cases h0 : n = 0
      · subst h0
        have HC0 : Hid ((fun m => cnt ln m (k + 1)) = fun m => cnt ln m k) := by
          unfold Hid; funext m; rw [cnt, if_neg (by rw [← HN.out]; omega)]; rfl
        have HL0 : Hid (lgs ln (k + 1) = lgs ln k) := by unfold Hid; rw [HLS.out]; omega
        go_wp2
        go_roundw
        case rel => exact ⟨k + 1, g', by omega, by go_num, HB.out, by rw [HC0.out]; exact HRO.out, by rw [HL0.out]; exact HLG.out, HE.out.1, HE.out.2, HO.out⟩
        case measure => simp [intOf]; omega
      · have hpos : 0 < n := by omega
        have hcc := HB.out.cell (n * 3 + 1) (by omega)
        rw [(HRO.out n (by omega)).2.1] at hcc
        have hfz := HB.out.fz (n * 3 + 1)
        have b1 : (0 : Int) ≤ (n : Int) := by omega
        have b2 : (n : Int) < 16 := by omega
        obtain ⟨y, hy⟩ : ∃ y, y = cnt ln n k := ⟨_, rfl⟩
        have hcc2 : wr.cell? ⟨b, n * 3 + 1, none⟩ = some (.int .u32 (y : Int)) := by rw [hy]; exact hcc
        have y320 : y < 1000 := by have := HCL.out; omega
        have HY := hidM hy
        clear hcc hy
        go_wp2
        go_region
        have HT2 : Hid (TBox ((wr.setCell ⟨b, n * 3 + 1, none⟩ (.int .u32 ((y : Int) + 1))).drew) b (upd g' (n * 3 + 1) (.int .u32 ((y + 1 : Nat) : Int)))) := HB.out.set (n * 3 + 1) (.int .u32 ((y + 1 : Nat) : Int))
        have HO2 : Hid (Only b w ((wr.setCell ⟨b, n * 3 + 1, none⟩ (.int .u32 ((y : Int) + 1))).drew)) := (HO.out.setCell (n * 3 + 1) _).drewN 1
        have HR2 : Hid (RowsAre (upd g' (n * 3 + 1) (.int .u32 ((y + 1 : Nat) : Int))) (fun _ => 0) (fun m => cnt ln m (k + 1)) (fun _ => 0)) := by
          have h1 := HRO.out.setC (c' := fun m => cnt ln m (k + 1)) n (fun m _ hm => ((HCS.out hpos m).2 hm))
          rw [show cnt ln n (k + 1) = y + 1 by rw [HY.out]; exact (HCS.out hpos 0).1] at h1
          exact h1
        have H48 : Hid (upd g' (n * 3 + 1) (.int .u32 ((y + 1 : Nat) : Int)) 48 = .int .i64 (lgs ln k : Int)) := by unfold Hid; rw [upd_other _ _ _ _ (by omega)]; exact HLG.out
        have H49 : Hid (upd g' (n * 3 + 1) (.int .u32 ((y + 1 : Nat) : Int)) 49 = g 49 ∧ upd g' (n * 3 + 1) (.int .u32 ((y + 1 : Nat) : Int)) 50 = g 50) := by unfold Hid; rw [upd_other _ _ _ _ (by omega), upd_other _ _ _ _ (by omega)]; exact HE.out
        generalize (wr.setCell ⟨b, n * 3 + 1, none⟩ (.int .u32 ((y : Int) + 1))).drew = w2 at *
        generalize upd g' (n * 3 + 1) (.int .u32 ((y + 1 : Nat) : Int)) = g2 at *
        have l48 := HT2.out.cell 48 (by decide)
        rw [H48.out] at l48
        have f48 := HT2.out.fz 48
        obtain ⟨lg, hlg⟩ : ∃ lg, lg = lgs ln k := ⟨_, rfl⟩
        rw [← hlg] at l48
        have HLGG := hidM hlg
        obtain ⟨mx, hmx⟩ : ∃ mx, mx = max lg n := ⟨_, rfl⟩
        have emx : (if lg < n then (n : Int) else (lg : Int)) = (mx : Int) := by rw [hmx]; split <;> omega
        have HT3 : Hid (TBox (w2.setCell ⟨b, 48, none⟩ (.int .i64 (mx : Int))) b (upd g2 48 (.int .i64 (mx : Int)))) := HT2.out.set 48 _
        have HMX : Hid (mx = lgs ln (k + 1)) := by unfold Hid; rw [HLS.out, ← hlg, hmx]
        clear hcc2 hfz hc hlg hmx
        go_wp2
        go_roundw
        case rel => exact ⟨k + 1, _, by omega, by go_num, HT3.out, HR2.out.far 48 (by decide) _, by rw [upd_same, HMX.out], by rw [upd_other _ _ _ _ (by decide)]; exact H49.out.1, by rw [upd_other _ _ _ _ (by decide)]; exact H49.out.2, HO2.out.setCell _ _⟩
        case measure => simp [intOf]; omega
    · have HKL : Hid (k = len) := by unfold Hid; omega
      go_wp2
      refine bodyPost_end (results_none Try.results27 _ _ _) rfl ⟨rfl, ⟨g', HB.out, ?_, ?_, HE.out.1, HE.out.2⟩, HO.out⟩
      · have := HRO.out; rw [HKL.out] at this; exact this
      · have := HLG.out; rw [HKL.out] at this; exact this
end Go.Proofs.Ytpidofgmbjkbiaa
