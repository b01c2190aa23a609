/-
  Walks of huff: New, Code.
-/
import Derived.Test.YtpidofgmbjkbiaaHufC
namespace Go.Proofs.Ytpidofgmbjkbiaa
open Go.RowKit

theorem lgs_ge (ln : Nat → Nat) (k i : Nat) (h : i < k) : ln i ≤ lgs ln k := by
  induction k with
  | zero => omega
  | succ k ih =>
    rw [lgs]
    rcases Nat.lt_or_ge i k with hi | hi
    · have := ih hi; omega
    · have : i = k := by omega
      subst this; omega
theorem cnt_none (ln : Nat → Nat) (n k : Nat) (h : ∀ i, i < k → ln i < n) : cnt ln n k = 0 := by
  induction k with
  | zero => rfl
  | succ k ih =>
    have := h k (by omega)
    rw [cnt, ih (fun i hi => h i (by omega)), if_neg (by omega)]
theorem kr_flat (ln : Nat → Nat) (L m n : Nat) (hm : m ≤ n) (h : lgs ln L ≤ m) : kr ln L n = kr ln L m := by
  induction n with
  | zero => have : m = 0 := by omega
            subst this; rfl
  | succ n ih =>
    rcases Nat.lt_or_ge n m with hn | hn
    · have : m = n + 1 := by omega
      subst this; rfl
    · rw [kr, ih hn, cnt_none ln (n + 1) L (fun i hi => by have := lgs_ge ln L i hi; omega), Nat.zero_mul, Nat.add_zero]
/-- The codes are a set. -/
def Fit (ln : Nat → Nat) (L : Nat) : Prop := kr ln L 15 = 32768 ∨ lgs ln L = 0 ∨ (lgs ln L = 1 ∧ cnt ln 1 L = 1)
theorem Fit.le {ln : Nat → Nat} {L : Nat} (h : Fit ln L) : kr ln L 15 ≤ 32768 := by
  rcases h with h | h | ⟨h, h1⟩
  · omega
  · rw [kr_flat ln L 0 15 (by decide) (by omega)]
    exact Nat.zero_le _
  · rw [kr_flat ln L 1 15 (by decide) (by omega), kr, kr, h1]
    decide
/-- A table of codes at b. -/
def Tab (w : World) (b : Nat) (ln : Nat → Nat) (L : Nat) : Prop :=
  ∃ g gs gc gg M, Given w b gs gc gg ln L M L g ∧ RowsAre g (fstC ln L) (fun n => cnt ln n L) (atC ln L) ∧ M = atC ln L 15 + cnt ln 15 L ∧ g 48 = .int .i64 (lgs ln L : Int) ∧ g 49 = .slice (some ⟨gs, 0, none⟩) M M ∧ g 50 = .slice (some ⟨gc, 0, none⟩) L L
theorem Tab.below {w w' : World} {b : Nat} {ln : Nat → Nat} {L : Nat} (h : Tab w b ln L) (hb : Below w.heap.size w w') : Tab w' b ln L := by
  obtain ⟨g, gs, gc, gg, M, hg, hr⟩ := h
  obtain ⟨hs, hs1, hs2⟩ := hg.sym
  obtain ⟨hc, hc1, hc2⟩ := hg.cod
  obtain ⟨hv, hv1, hv2⟩ := hg.giv
  exact ⟨g, gs, gc, gg, M, ⟨hg.tab.same (hb.block b hg.tab.lt), ⟨hs, hs1.same (hb.block gs hs1.lt), hs2⟩, ⟨hc, hc1.same (hb.block gc hc1.lt), hc2⟩, ⟨hv, hv1.same (hb.block gg hv1.lt), hv2⟩⟩, hr⟩
def g0 : Nat → Value := fun i => if i < 48 then .int .u32 0 else if i = 48 then .int .i64 0 else .slice none 0 0
theorem g0_rows : RowsAre g0 (fun _ => 0) (fun _ => 0) (fun _ => 0) := by
  intro n hn
  unfold g0
  exact ⟨by rw [if_pos (by omega)]; rfl, by rw [if_pos (by omega)]; rfl, by rw [if_pos (by omega)]; rfl⟩
/-- What New answers. -/
def NewPost (f : Nat → Int) (len : Nat) (e : Ending) (w' : World) : Prop :=
  (320 < len ∧ e = .returned (.tuple #[.pointer none, .int .i64 2])) ∨
  (len ≤ 320 ∧ (∃ i, i < len ∧ (f i < 0 ∨ 15 < f i)) ∧ e = .returned (.tuple #[.pointer none, .int .i64 1])) ∨
  (len ≤ 320 ∧ ∃ ln : Nat → Nat, (∀ i, i < len → f i = (ln i : Int)) ∧ (∀ i, ln i ≤ 15) ∧
    ((¬ Fit ln len ∧ e = .returned (.tuple #[.pointer none, .int .i64 4])) ∨ (Fit ln len ∧ ∃ b, e = .returned (.tuple #[.pointer (some ⟨b, 0, none⟩), .int .i64 0]) ∧ Tab w' b ln len)))

set_option maxHeartbeats 2000000 in
theorem new_any (a : Option Addr) (len cap : Nat) (f : Nat → Int) (w : World) (hf : IntsAt w a len .i64 f) :
    Calls Try.prog 10 #[.slice a len cap] w fun e w' => NewPost f len e w' ∧ Below w.heap.size w w' := by
  have hlen : len ≤ 9223372036854775807 := by have := hf.1; unfold maxLen at this; omega
  have HF := hidM hf
  clear hf
  by_cases h320 : 320 < len
  · go_enter Try.func10, Try.ntmps10
    go_wp2
    go_ret2
    exact ⟨.inl ⟨h320, rfl⟩, Below.refl _ _⟩
  · go_enter Try.func10, Try.ntmps10
    go_wp2
    go_loopw [5, 12] (fun _ i wr => ∃ k : Nat, k ≤ len ∧ i = .int .i64 k ∧ (∀ i, i < k → 0 ≤ f i ∧ f i ≤ 15) ∧ wr = w) (fun _ i _ => len - (intOf i).toNat)
    case atStart => exact ⟨0, Nat.zero_le _, rfl, fun i hi => by omega, rfl⟩
    case round =>
      obtain ⟨k, hk, rfl, hall, rfl⟩ := hrel
      have HA := hidM hall
      clear hall
      by_cases hlt : k < len
      · obtain ⟨bb, off, rfl, hc⟩ := HF.out.get k hlt
        generalize hfk : f k = c at *
        have HFK := hidM hfk
        clear hfk
        by_cases hbad : c < 0 ∨ 15 < c
        · have HBD := hidM hbad
          rcases hbad with hb | hb
          · go_wp2
            go_ret2
            exact ⟨.inr (.inl ⟨by omega, ⟨k, hlt, by rw [HFK.out]; exact HBD.out⟩, rfl⟩), Below.refl _ _⟩
          · go_wp2
            go_ret2
            exact ⟨.inr (.inl ⟨by omega, ⟨k, hlt, by rw [HFK.out]; exact HBD.out⟩, rfl⟩), Below.refl _ _⟩
        · have hb1 : ¬ c < 0 := by omega
          have hb2 : ¬ 15 < c := by omega
          have HA2 : Hid (∀ i, i < k + 1 → 0 ≤ f i ∧ f i ≤ 15) := fun i hi => by
            rcases Nat.lt_or_ge i k with h | h
            · exact HA.out i h
            · have : i = k := by omega
              subst this; rw [HFK.out]; omega
          clear hbad
          go_wp2
          go_roundw
          case rel => exact ⟨k + 1, by omega, by go_num, HA2.out, trivial⟩
          case measure => simp [intOf]; omega
      · have HK : Hid (k = len) := by unfold Hid; omega
        obtain ⟨ln, hln⟩ : ∃ ln : Nat → Nat, ln = fun i => if i < len then (f i).toNat else 0 := ⟨_, rfl⟩
        have HLN : Hid (∀ i, i < len → f i = (ln i : Int)) := fun i hi => by
          have := HA.out i (by rw [HK.out]; exact hi)
          rw [hln]; simp only [hi, if_true]; omega
        have H15 : Hid (∀ i, ln i ≤ 15) := fun i => by
          rw [hln]; simp only
          split
          · have := HA.out i (by rw [HK.out]; assumption)
            omega
          · omega
        have HFL : Hid (IntsAt wr a len .i64 (fun i => (ln i : Int))) := by
          refine ⟨HF.out.1, fun i => ?_, ?_⟩
          · have := H15.out i
            simp [Lit.wf, IntKind.min, IntKind.max, IntKind.signed, IntKind.bits]
            omega
          · rcases HF.out.2.2 with h0 | ⟨b', o', h1, h2⟩
            · exact .inl h0
            · exact .inr ⟨b', o', h1, fun i hi => by rw [h2 i hi, HLN.out i hi]⟩
        clear hln
        have HLT : Hid (0 < len → ∀ bb o, a = some ⟨bb, o, none⟩ → bb < wr.heap.size) := fun h0 bb o he => by
          obtain ⟨b', o', h1, h2⟩ := HF.out.get 0 h0
          rw [he] at h1
          simp only [Option.some.injEq, Addr.mk.injEq, and_true] at h1
          rw [h1.1]
          exact World.block_lt_of_cell? wr _ h2
        go_wp2_with fail
        refine (count_any wr.heap.size a len cap ln g0 _ (by omega) (HFL.out.low ((Below.refl _ _).alloc (Nat.le_refl _) _) HLT.out) H15.out (heap_alloc_new wr _) (fun h0 bb o he => by have := HLT.out h0 bb o he; omega) g0_rows rfl).mono ?_
        rintro e w1 ⟨rfl, ⟨g1, ht1, hr1, e48, e49, e50⟩, ho1⟩
        have HB1 : Hid (Below wr.heap.size wr w1) := ((Below.refl _ _).alloc (Nat.le_refl _) _).trans (ho1.below (Nat.le_refl _))
        have HT1 := hidM ht1
        have HR1 := hidM hr1
        have HE1 := hidM (And.intro e48 (And.intro e49 e50))
        clear ht1 hr1 e48 e49 e50 ho1
        go_wp2_with fail
        refine (fits_any wr.heap.size ln len g1 _ _ w1 HT1.out HR1.out (by omega) HE1.out.1 H15.out).mono ?_
        rintro e w2 ⟨rfl, hb2⟩
        have HB2 : Hid (Below wr.heap.size wr w2) := HB1.out.trans (hb2.mono HB1.out.size)
        have HT2 : Hid (TBox w2 wr.heap.size g1) := HT1.out.same (hb2.block _ HT1.out.lt)
        clear hb2
        by_cases hfit : kr ln len 15 = 32768 ∨ lgs ln len = 0 ∨ (lgs ln len = 1 ∧ cnt ln 1 len = 1)
        · have HFit : Hid (Fit ln len) := hfit
          rw [decide_eq_true hfit]
          clear hfit
          go_wp2_with fail
          refine (lay_any wr.heap.size ln len g1 w2 HT2.out HR1.out (by omega) HFit.out.le).mono ?_
          rintro e w3 ⟨rfl, ⟨g3, ht3, hr3, e48, e49, e50⟩, hb3⟩
          have HB3 : Hid (Below wr.heap.size wr w3) := HB2.out.trans hb3
          have HT3 := hidM ht3
          have HR3 := hidM hr3
          have H48 : Hid (g3 48 = .int .i64 (lgs ln len : Int)) := e48.trans HE1.out.1
          clear ht3 hr3 e48 e49 e50 hb3
          go_wp2_with fail
          refine (give_any wr.heap.size a len cap ln g3 w3 (by omega) (HFL.out.low HB3.out HLT.out) H15.out HT3.out HLT.out HR3.out HFit.out.le).mono ?_
          rintro e w4 ⟨rfl, ⟨g4, gs, gc, gg, M, hgv, hr4, hM, e48, e49, e50, _⟩, hb4⟩
          have HB4 : Hid (Below wr.heap.size wr w4) := HB3.out.trans hb4
          have HTab : Hid (Tab w4 wr.heap.size ln len) := ⟨g4, gs, gc, gg, M, hgv, hr4, hM, e48.trans H48.out, e49, e50⟩
          clear hgv hr4 hM e48 e49 e50 hb4
          go_wp2
          go_ret2
          exact ⟨.inr (.inr ⟨by omega, ln, HLN.out, H15.out, .inr ⟨HFit.out, _, rfl, HTab.out⟩⟩), HB4.out⟩
        · have HFit : Hid (¬ Fit ln len) := hfit
          rw [decide_eq_false hfit]
          clear hfit
          go_wp2
          go_ret2
          exact ⟨.inr (.inr ⟨by omega, ln, HLN.out, H15.out, .inl ⟨HFit.out, rfl⟩⟩), HB2.out⟩
end Go.Proofs.Ytpidofgmbjkbiaa
