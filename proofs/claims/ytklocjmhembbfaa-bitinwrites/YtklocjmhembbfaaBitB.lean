/-
  Walks: awake, BitinPeeks: looking ahead takes nothing and tells what comes next, for every text and numbers.
-/
import Derived.Test.YtklocjmhembbfaaBitA
namespace Go.Proofs.Ytklocjmhembbfaa
open Go.RowKit

theorem RBox.put {w : World} {b : Nat} {s : ByteArray} {t : Nat} (h : RBox w b s t) (m n : Nat) : RBox ((w.drewN m).setCell ⟨b, 1, none⟩ (.int .i64 ((t + n : Nat) : Int))) b s (t + n) := (h.drewN m).set (t + n)
theorem below_set {B b o : Nat} {a w : World} {v : Value} (h : Below B a w) (hb : B ≤ b) : Below B a (w.setCell ⟨b, o, none⟩ v) :=
  h.trans ⟨rfl, rfl, rfl, by simp, fun k hk => Below.heap_setCell w ⟨b, o, none⟩ v k (by simp; omega)⟩

def a50f : ByteArray := ⟨#[165, 15]⟩
set_option maxHeartbeats 1000000 in
theorem awake_any (w : World) :
    Calls Try.prog 22 #[] w fun e w' => e = .returned (.bool true) ∧ Below w.heap.size w w' := by
  go_enter Try.func22, Try.ntmps22
  go_wp2_with fail
  refine (newR_any a50f w (by decide)).mono ?_
  rintro e w1 ⟨rfl, hr1, hb1⟩
  have HR1 := hidM hr1
  have HB1 := hidM hb1
  clear hr1 hb1
  go_wp2_with fail
  refine (bits_yes _ a50f 0 16 4 w1 HR1.out (by decide) (by decide) (by decide) (by decide)).mono ?_
  rintro e w2 ⟨rfl, m1, rfl⟩
  have e1 : bitsN a50f.data.toList 0 4 = 5 := by decide
  rw [e1]
  have HR2 := hidM (HR1.out.put m1 4)
  have HB2 : Hid (Below w.heap.size w _) := below_set (b := w.heap.size) (o := 1) (v := (.int .i64 ((0 + 4 : Nat) : Int))) (below_drewN HB1.out m1) (Nat.le_refl _)
  generalize (w1.drewN m1).setCell ⟨w.heap.size, 1, none⟩ (.int .i64 ((0 + 4 : Nat) : Int)) = w2 at *
  go_wp2_with fail
  refine (bits_yes _ a50f 4 12 8 w2 HR2.out (by decide) (by decide) (by decide) (by decide)).mono ?_
  rintro e w3 ⟨rfl, m2, rfl⟩
  have e2 : bitsN a50f.data.toList 4 8 = 250 := by decide
  rw [e2]
  have HR3 := hidM (HR2.out.put m2 8)
  have HB3 : Hid (Below w.heap.size w _) := below_set (b := w.heap.size) (o := 1) (v := (.int .i64 ((4 + 8 : Nat) : Int))) (below_drewN HB2.out m2) (Nat.le_refl _)
  generalize (w2.drewN m2).setCell ⟨w.heap.size, 1, none⟩ (.int .i64 ((4 + 8 : Nat) : Int)) = w3 at *
  go_wp2_with fail
  refine (left_any _ a50f 12 4 w3 HR3.out (by decide) (by decide)).mono ?_
  rintro e w4 ⟨rfl, m3, rfl⟩
  go_wp2
  go_ret
  exact ⟨rfl, below_drewN HB3.out _⟩

/-- A row of numbers that is an argument. -/
def IntsAt (w : World) (a : Option Addr) (len : Nat) (k : IntKind) (f : Nat → Int) : Prop :=
  len ≤ maxLen ∧ (∀ i, (Lit.int k (f i)).wf = true) ∧ (len = 0 ∨ ∃ b off, a = some ⟨b, off, none⟩ ∧ ∀ i, i < len → w.cell? ⟨b, off + i, none⟩ = some (.int k (f i)))
theorem IntsAt.below {w w' : World} {a : Option Addr} {len : Nat} {k : IntKind} {f : Nat → Int} (h : IntsAt w a len k f) (hb : Below w.heap.size w w') : IntsAt w' a len k f := by
  refine ⟨h.1, h.2.1, ?_⟩
  rcases h.2.2 with h0 | ⟨b, off, rfl, hc⟩
  · exact .inl h0
  · exact .inr ⟨b, off, rfl, fun i hi => (hb.cell (p := ⟨b, off + i, none⟩) (World.block_lt_of_cell? w _ (hc i hi))).trans (hc i hi)⟩
theorem IntsAt.get {w : World} {a : Option Addr} {len : Nat} {k : IntKind} {f : Nat → Int} (h : IntsAt w a len k f) (i : Nat) (hi : i < len) : ∃ b off, a = some ⟨b, off, none⟩ ∧ w.cell? ⟨b, off + i, none⟩ = some (.int k (f i)) := by
  rcases h.2.2 with h0 | ⟨b, off, rfl, hc⟩
  · omega
  · exact ⟨b, off, rfl, hc i hi⟩
theorem clampN (c : Int) : ∃ (m : Int) (v : Nat), v ≤ 32 ∧ (if (32 : Int) < c then 32 else c) = m ∧ (if (0 : Int) < m then m else 0) = (v : Int) := by
  refine ⟨_, (if (0 : Int) < (if (32 : Int) < c then 32 else c) then (if (32 : Int) < c then 32 else c) else 0).toNat, ?_, rfl, ?_⟩
  · split <;> split <;> omega
  · split <;> split <;> omega

set_option maxRecDepth 20000 in
set_option maxHeartbeats 4000000 in
theorem peeks_walk (s : ByteArray) (a : Option Addr) (len cap : Nat) (f : Nat → Int) (w : World) (hf : IntsAt w a len .i64 f) :
    Calls Try.prog 6 #[.string s, .slice a len cap] w fun e w' => e = .returned (.bool true) ∧ Below w.heap.size w w' := by
  have hlen : len ≤ 9223372036854775807 := by have := hf.1; unfold maxLen at this; omega
  have HF := hidM hf
  clear hf
  go_enter Try.func6, Try.ntmps6
  by_cases h200 : 200 < s.size
  · go_wp2_with fail
    have hs : (s.extract 0 200).size ≤ 200 := by simp; omega
    generalize s.extract 0 200 = S at *
    refine (newR_any S w (by omega)).mono ?_
    rintro e w1 ⟨rfl, hr1, hb1⟩
    have HR1 := hidM hr1
    have HB1 := hidM hb1
    clear hr1 hb1
    go_wp2
    go_loopw [6, 7, 8, 9, 10, 11, 12, 13, 14] (fun i _ _ _ _ _ _ _ _ wr => ∃ (k t l : Nat), k ≤ len ∧ k ≤ 60 ∧ i = .int .i64 k ∧ t + l = 8 * S.size ∧ RBox wr w.heap.size S t ∧ Below w.heap.size w wr)
      (fun i _ _ _ _ _ _ _ _ _ => 60 - (intOf i).toNat)
    case atStart => exact ⟨0, 0, 8 * S.size, by omega, by omega, rfl, by omega, HR1.out, HB1.out⟩
    case round =>
      obtain ⟨k, t, l, hk, hk60, rfl, htl, hrr, hbr⟩ := hrel
      have HRR := hidM hrr
      have HBR := hidM hbr
      have HTL := hidM htl
      have tl : t ≤ 1600 := by omega
      clear hrr hbr htl HR1 HB1
      by_cases hlt : k < len ∧ k < 60
      · obtain ⟨hl1, hl2⟩ := hlt
        obtain ⟨b, off, rfl, hc⟩ := (HF.out.below HBR.out).get k hl1
        generalize f k = c at *
        obtain ⟨m, n, hn, e1, e2⟩ := clampN c
        go_wp2_with fail
        refine (left_any _ S t l wr HRR.out (by omega) HTL.out).mono ?_
        rintro e v1 ⟨rfl, m1, rfl⟩
        by_cases hnl : n ≤ l
        · have e3 : (if (l : Int) < (n : Int) then (l : Int) else (n : Int)) = (n : Int) := by rw [if_neg (by omega)]
          have e4 : decide ((n : Int) ≤ (l : Int)) = true := by simp; omega
          clear hc
          go_wp2_with fail
          refine (peek_any _ S t l n n _ (HRR.out.drewN _) (by omega) HTL.out hn (by omega)).mono ?_
          rintro e v2 ⟨rfl, m2, rfl⟩
          go_wp2_with fail
          refine (peek_any _ S t l n n _ (HRR.out.drewN _) (by omega) HTL.out hn (by omega)).mono ?_
          rintro e v3 ⟨rfl, m3, rfl⟩
          generalize hX : bitsN S.data.toList t n = X at *
          have HX := hidM hX
          clear hX
          go_wp2_with fail
          refine (left_any _ S t l _ (HRR.out.drewN _) (by omega) HTL.out).mono ?_
          rintro e v4 ⟨rfl, m4, rfl⟩
          go_wp2_with fail
          refine (bits_yes _ S t l n _ (HRR.out.drewN _) (by omega) HTL.out hn hnl).mono ?_
          rintro e v5 ⟨rfl, m5, rfl⟩
          rw [HX.out]
          have HB2 : Hid (Below w.heap.size w _) := below_set (b := w.heap.size) (o := 1) (v := (.int .i64 ((t + n : Nat) : Int))) (below_drewN HBR.out (m1 + m2 + m3 + m4 + m5)) (Nat.le_refl _)
          have HR2 := hidM (HRR.out.put (m1 + m2 + m3 + m4 + m5) n)
          rw [World.drewN_drewN]
          generalize (wr.drewN (m1 + m2 + m3 + m4 + m5)).setCell ⟨w.heap.size, 1, none⟩ (.int .i64 ((t + n : Nat) : Int)) = w2 at *
          clear e1 e2 e3
          go_wp2
          refine ⟨⟨k + 1, t + n, l - n, by omega, by omega, rfl, by have := HTL.out; omega, HR2.out, HB2.out⟩, ?_⟩
          simp [intOf]; omega
        · have e3 : (if (l : Int) < (n : Int) then (l : Int) else (n : Int)) = (l : Int) := by rw [if_pos (by omega)]
          have e4 : decide ((n : Int) ≤ (l : Int)) = false := by simp; omega
          clear hc
          go_wp2_with fail
          refine (peek_any _ S t l n l _ (HRR.out.drewN _) (by omega) HTL.out hn (by omega)).mono ?_
          rintro e v2 ⟨rfl, m2, rfl⟩
          go_wp2_with fail
          refine (peek_any _ S t l n l _ (HRR.out.drewN _) (by omega) HTL.out hn (by omega)).mono ?_
          rintro e v3 ⟨rfl, m3, rfl⟩
          generalize bitsN S.data.toList t l = X at *
          go_wp2_with fail
          refine (left_any _ S t l _ (HRR.out.drewN _) (by omega) HTL.out).mono ?_
          rintro e v4 ⟨rfl, m4, rfl⟩
          go_wp2_with fail
          refine (bits_no _ S t l n _ (HRR.out.drewN _) (by omega) HTL.out hn (by omega)).mono ?_
          rintro e v5 ⟨rfl, m5, rfl⟩
          clear e1 e2 e3
          go_wp2_with fail
          refine (left_any _ S t l _ (HRR.out.drewN _) (by omega) HTL.out).mono ?_
          rintro e v6 ⟨rfl, m6, rfl⟩
          go_wp2
          refine ⟨⟨k + 1, t, l, by omega, by omega, rfl, HTL.out, HRR.out.drewN _, below_drewN HBR.out _⟩, ?_⟩
          simp [intOf]; omega
      · by_cases hl1 : k < len
        · have hl2 : ¬ k < 60 := by omega
          clear hlt
          go_wp2_with fail
          refine (awake_any wr).mono ?_
          rintro e v1 ⟨rfl, hb1⟩
          have HR1 := hidM (HRR.out.below hb1)
          have HB1 : Hid (Below w.heap.size w v1) := HBR.out.trans (hb1.mono HBR.out.size)
          clear hb1
          go_wp2_with fail
          refine (used_any _ S t v1 HR1.out (by omega)).mono ?_
          rintro e v2 ⟨rfl, rfl⟩
          have HU : Hid ((t + 7) / 8 ≤ S.size) := by have := HTL.out; unfold Hid; omega
          generalize (t + 7) / 8 = U at *
          have hU := HU.out
          go_wp2
          go_ret
          exact ⟨rfl, HB1.out⟩
        · clear hlt
          go_wp2_with fail
          refine (awake_any wr).mono ?_
          rintro e v1 ⟨rfl, hb1⟩
          have HR1 := hidM (HRR.out.below hb1)
          have HB1 : Hid (Below w.heap.size w v1) := HBR.out.trans (hb1.mono HBR.out.size)
          clear hb1
          go_wp2_with fail
          refine (used_any _ S t v1 HR1.out (by omega)).mono ?_
          rintro e v2 ⟨rfl, rfl⟩
          have HU : Hid ((t + 7) / 8 ≤ S.size) := by have := HTL.out; unfold Hid; omega
          generalize (t + 7) / 8 = U at *
          have hU := HU.out
          go_wp2
          go_ret
          exact ⟨rfl, HB1.out⟩
  · have hs : s.size ≤ 200 := by omega
    clear h200
    go_wp2_with fail
    refine (newR_any s w (by omega)).mono ?_
    rintro e w1 ⟨rfl, hr1, hb1⟩
    have HR1 := hidM hr1
    have HB1 := hidM hb1
    clear hr1 hb1
    go_wp2
    go_loopw [6, 7, 8, 9, 10, 11, 12, 13, 14] (fun i _ _ _ _ _ _ _ _ wr => ∃ (k t l : Nat), k ≤ len ∧ k ≤ 60 ∧ i = .int .i64 k ∧ t + l = 8 * s.size ∧ RBox wr w.heap.size s t ∧ Below w.heap.size w wr)
      (fun i _ _ _ _ _ _ _ _ _ => 60 - (intOf i).toNat)
    case atStart => exact ⟨0, 0, 8 * s.size, by omega, by omega, rfl, by omega, HR1.out, HB1.out⟩
    case round =>
      obtain ⟨k, t, l, hk, hk60, rfl, htl, hrr, hbr⟩ := hrel
      have HRR := hidM hrr
      have HBR := hidM hbr
      have HTL := hidM htl
      have tl : t ≤ 1600 := by omega
      clear hrr hbr htl HR1 HB1
      by_cases hlt : k < len ∧ k < 60
      · obtain ⟨hl1, hl2⟩ := hlt
        obtain ⟨b, off, rfl, hc⟩ := (HF.out.below HBR.out).get k hl1
        generalize f k = c at *
        obtain ⟨m, n, hn, e1, e2⟩ := clampN c
        go_wp2_with fail
        refine (left_any _ s t l wr HRR.out (by omega) HTL.out).mono ?_
        rintro e v1 ⟨rfl, m1, rfl⟩
        by_cases hnl : n ≤ l
        · have e3 : (if (l : Int) < (n : Int) then (l : Int) else (n : Int)) = (n : Int) := by rw [if_neg (by omega)]
          have e4 : decide ((n : Int) ≤ (l : Int)) = true := by simp; omega
          clear hc
          go_wp2_with fail
          refine (peek_any _ s t l n n _ (HRR.out.drewN _) (by omega) HTL.out hn (by omega)).mono ?_
          rintro e v2 ⟨rfl, m2, rfl⟩
          go_wp2_with fail
          refine (peek_any _ s t l n n _ (HRR.out.drewN _) (by omega) HTL.out hn (by omega)).mono ?_
          rintro e v3 ⟨rfl, m3, rfl⟩
          generalize hX : bitsN s.data.toList t n = X at *
          have HX := hidM hX
          clear hX
          go_wp2_with fail
          refine (left_any _ s t l _ (HRR.out.drewN _) (by omega) HTL.out).mono ?_
          rintro e v4 ⟨rfl, m4, rfl⟩
          go_wp2_with fail
          refine (bits_yes _ s t l n _ (HRR.out.drewN _) (by omega) HTL.out hn hnl).mono ?_
          rintro e v5 ⟨rfl, m5, rfl⟩
          rw [HX.out]
          have HB2 : Hid (Below w.heap.size w _) := below_set (b := w.heap.size) (o := 1) (v := (.int .i64 ((t + n : Nat) : Int))) (below_drewN HBR.out (m1 + m2 + m3 + m4 + m5)) (Nat.le_refl _)
          have HR2 := hidM (HRR.out.put (m1 + m2 + m3 + m4 + m5) n)
          rw [World.drewN_drewN]
          generalize (wr.drewN (m1 + m2 + m3 + m4 + m5)).setCell ⟨w.heap.size, 1, none⟩ (.int .i64 ((t + n : Nat) : Int)) = w2 at *
          clear e1 e2 e3
          go_wp2
          refine ⟨⟨k + 1, t + n, l - n, by omega, by omega, rfl, by have := HTL.out; omega, HR2.out, HB2.out⟩, ?_⟩
          simp [intOf]; omega
        · have e3 : (if (l : Int) < (n : Int) then (l : Int) else (n : Int)) = (l : Int) := by rw [if_pos (by omega)]
          have e4 : decide ((n : Int) ≤ (l : Int)) = false := by simp; omega
          clear hc
          go_wp2_with fail
          refine (peek_any _ s t l n l _ (HRR.out.drewN _) (by omega) HTL.out hn (by omega)).mono ?_
          rintro e v2 ⟨rfl, m2, rfl⟩
          go_wp2_with fail
          refine (peek_any _ s t l n l _ (HRR.out.drewN _) (by omega) HTL.out hn (by omega)).mono ?_
          rintro e v3 ⟨rfl, m3, rfl⟩
          generalize bitsN s.data.toList t l = X at *
          go_wp2_with fail
          refine (left_any _ s t l _ (HRR.out.drewN _) (by omega) HTL.out).mono ?_
          rintro e v4 ⟨rfl, m4, rfl⟩
          go_wp2_with fail
          refine (bits_no _ s t l n _ (HRR.out.drewN _) (by omega) HTL.out hn (by omega)).mono ?_
          rintro e v5 ⟨rfl, m5, rfl⟩
          clear e1 e2 e3
          go_wp2_with fail
          refine (left_any _ s t l _ (HRR.out.drewN _) (by omega) HTL.out).mono ?_
          rintro e v6 ⟨rfl, m6, rfl⟩
          go_wp2
          refine ⟨⟨k + 1, t, l, by omega, by omega, rfl, HTL.out, HRR.out.drewN _, below_drewN HBR.out _⟩, ?_⟩
          simp [intOf]; omega
      · by_cases hl1 : k < len
        · have hl2 : ¬ k < 60 := by omega
          clear hlt
          go_wp2_with fail
          refine (awake_any wr).mono ?_
          rintro e v1 ⟨rfl, hb1⟩
          have HR1 := hidM (HRR.out.below hb1)
          have HB1 : Hid (Below w.heap.size w v1) := HBR.out.trans (hb1.mono HBR.out.size)
          clear hb1
          go_wp2_with fail
          refine (used_any _ s t v1 HR1.out (by omega)).mono ?_
          rintro e v2 ⟨rfl, rfl⟩
          have HU : Hid ((t + 7) / 8 ≤ s.size) := by have := HTL.out; unfold Hid; omega
          generalize (t + 7) / 8 = U at *
          have hU := HU.out
          go_wp2
          go_ret
          exact ⟨rfl, HB1.out⟩
        · clear hlt
          go_wp2_with fail
          refine (awake_any wr).mono ?_
          rintro e v1 ⟨rfl, hb1⟩
          have HR1 := hidM (HRR.out.below hb1)
          have HB1 : Hid (Below w.heap.size w v1) := HBR.out.trans (hb1.mono HBR.out.size)
          clear hb1
          go_wp2_with fail
          refine (used_any _ s t v1 HR1.out (by omega)).mono ?_
          rintro e v2 ⟨rfl, rfl⟩
          have HU : Hid ((t + 7) / 8 ≤ s.size) := by have := HTL.out; unfold Hid; omega
          generalize (t + 7) / 8 = U at *
          have hU := HU.out
          go_wp2
          go_ret
          exact ⟨rfl, HB1.out⟩
end Go.Proofs.Ytklocjmhembbfaa
