/-
  Walks of huff: Code; the law's few and awake.
-/
import Derived.Test.YtpidofgmbjkbiaaHufD
import Derived.Laws.AppendOwnNone
namespace Go.Proofs.Ytpidofgmbjkbiaa
open Go.RowKit

set_option maxHeartbeats 1000000 in
theorem code_in (b s : Nat) (ln : Nat → Nat) (L : Nat) (w : World) (h : Tab w b ln L) (hs : s < L) :
    Calls Try.prog 14 #[.pointer (some ⟨b, 0, none⟩), .int .i64 s] w fun e w' => e = .returned (.tuple #[.int .u32 (codeC ln L s : Int), .int .i64 (ln s : Int)]) ∧ Below w.heap.size w w' := by
  obtain ⟨g, gs, gc, gg, M, hg, hr, hM, e48, e49, e50⟩ := h
  obtain ⟨hc, hc1, hc2, hc3⟩ := hg.cod
  have c50 := hg.tab.cell 50 (by decide)
  rw [e50] at c50
  have d0 := hc1.cell (s * 2) (by omega)
  have d1 := hc1.cell (s * 2 + 1) (by omega)
  rw [(hc2 s hs).1] at d0
  rw [(hc2 s hs).2] at d1
  have HB : Hid (Below w.heap.size w (w.alloc (.cells #[.int .u32 (codeC ln L s : Int), .int .i64 (ln s : Int)] 68))) := (Below.refl _ _).alloc (Nat.le_refl _) _
  have b3 : (s : Int) < (L : Int) := by omega
  clear hg hr hM e48 e49 e50 hc1 hc2 hc3
  generalize codeC ln L s = c at *
  generalize ln s = n at *
  go_enter Try.func14, Try.ntmps14
  go_wp2
  go_quiet (fail)
  go_wp2
  go_ret2
  exact ⟨rfl, below_drewN HB.out _⟩
set_option maxHeartbeats 1000000 in
theorem code_out (b : Nat) (s : Int) (ln : Nat → Nat) (L : Nat) (w : World) (h : Tab w b ln L) (hs : s < 0 ∨ (L : Int) ≤ s) :
    Calls Try.prog 14 #[.pointer (some ⟨b, 0, none⟩), .int .i64 s] w fun e w' => e = .returned (.tuple #[.int .u32 0, .int .i64 0]) ∧ w' = w := by
  obtain ⟨g, gs, gc, gg, M, hg, hr, hM, e48, e49, e50⟩ := h
  have c50 := hg.tab.cell 50 (by decide)
  rw [e50] at c50
  clear hg hr hM e48 e49 e50
  go_enter Try.func14, Try.ntmps14
  rcases hs with hs | hs
  · go_wp2
    go_ret2
    exact ⟨rfl, rfl⟩
  · have h0 : ¬ s < 0 := by omega
    go_wp2
    go_ret2
    exact ⟨rfl, rfl⟩

/-- Numbers as the cells of a row. -/
def intsV (f : Nat → Int) (m : Nat) : List Value := (List.range m).map fun i => .int .i64 (f i)
theorem intsV_len (f : Nat → Int) (m : Nat) : (intsV f m).length = m := by simp [intsV]
theorem intsV_at (f : Nat → Int) (m j : Nat) (h : j < m) : (intsV f m)[j]? = some (.int .i64 (f j)) := by
  unfold intsV; rw [List.getElem?_map, List.getElem?_range h]; rfl
theorem ints_news {w : World} {b off : Nat} {f : Nat → Int} {len m : Nat} (h : ∀ i, i < len → w.cell? ⟨b, off + i, none⟩ = some (.int .i64 (f i))) (hm : m ≤ len) : ∀ j u, (intsV f m)[j]? = some u → w.cell? ((⟨b, off, none⟩ : Addr).add j) = some u := by
  intro j u hu
  have hj : j < m := by have := (List.getElem?_eq_some_iff.1 hu).1; rwa [intsV_len] at this
  rw [intsV_at f m j hj] at hu
  rw [Addr.add_lit, h j (by omega)]
  exact hu
theorem ints_one (f : Nat → Int) (m : Nat) : ∀ u ∈ intsV f m, u.oneCell' = true := by
  intro u hu
  simp only [intsV, List.mem_map] at hu
  obtain ⟨c, _, rfl⟩ := hu
  rfl
theorem ints_of_own {w : World} {B m : Nat} {v : Value} {f : Nat → Int} (h : w.ownsRow B 3 1 v m (intsV f m)) (hf : ∀ i, (Lit.int .i64 (f i)).wf = true) (hm : m ≤ maxLen) : ∃ a c, v = .slice a m c ∧ IntsAt w a m .i64 f := by
  rcases h.2 with ⟨rfl, hn⟩ | ⟨g, cap, cur, rfl, hb, hg, hnc, hcm, hcs, htake⟩
  · subst hn
    exact ⟨none, 0, rfl, hm, hf, .inl rfl⟩
  · refine ⟨_, cap, rfl, hm, hf, .inr ⟨g, 0, rfl, fun i hi => ?_⟩⟩
    have := World.ownsRow.cells (g := g) h rfl i _ (intsV_at f m i hi)
    rwa [Addr.add_lit] at this
theorem own_start (w : World) : (w.alloc (.cells #[] 3)).ownsRow w.heap.size 3 1 (.slice (some ⟨w.heap.size, 0, none⟩) 0 0) 0 [] :=
  World.ownsRow_lit w #[] 0 (Nat.le_refl _) (Nat.zero_le _) rfl

def FewPost (f : Nat → Int) (m : Nat) (e : Ending) (w' : World) : Prop := ∃ a' c', e = .returned (.slice a' m c') ∧ IntsAt w' a' m .i64 f
set_option maxHeartbeats 1000000 in
theorem few_any (a : Option Addr) (len cap m : Nat) (f : Nat → Int) (w : World) (hf : IntsAt w a len .i64 f) (hm : m = min len 400) (hn : a = none → len = 0 ∧ cap = 0) (hcap : len ≤ cap) :
    Calls Try.prog 9 #[.slice a len cap] w fun e w' => FewPost f m e w' ∧ Below w.heap.size w w' := by
  obtain ⟨i0, hi, hz0, hz1, hz2⟩ := info_parts Try.info3
  have hlen : len ≤ 9223372036854775807 := by have := hf.1; unfold maxLen at this; omega
  have HF := hidM hf
  have HM := hidM hm
  have hml : m ≤ len := by omega
  have m400 : m ≤ 400 := by omega
  have HST := hidM (own_start w)
  have HB0 : Hid (Below w.heap.size w (w.alloc (.cells #[] 3))) := (Below.refl _ _).alloc (Nat.le_refl _) _
  have HMX : Hid (m ≤ maxLen) := by unfold Hid maxLen; omega
  clear hf hm
  cases a with
  | none =>
    obtain ⟨rfl, rfl⟩ := hn rfl
    have m0 : m = 0 := by omega
    subst m0
    go_enter Try.func9, Try.ntmps9
    go_wp2_with (first
      | (at_builtin; refine wpList_append_own_none rfl _ _ 22 rfl w.heap.size 3 i0 1 Try.underlying22 hi _ _ _ rfl HST.out rfl ?_))
    go_wp2
    go_ret
    have HIA : Hid (IntsAt (w.alloc (.cells #[] 3)) (some ⟨w.heap.size, 0, none⟩) 0 .i64 f) := ⟨HMX.out, HF.out.2.1, .inl rfl⟩
    exact ⟨⟨some ⟨w.heap.size, 0, none⟩, 0, rfl, HIA.out⟩, HB0.out⟩
  | some ad =>
    have HNW : Hid (∀ j u, (intsV f m)[j]? = some u → (w.alloc (.cells #[] 3)).cell? (ad.add j) = some u) := by
      intro j u hu
      have hj : j < m := by have := (List.getElem?_eq_some_iff.1 hu).1; rwa [intsV_len] at this
      rcases HF.out.2.2 with h0 | ⟨b, off, he, hc⟩
      · omega
      · simp only [Option.some.injEq] at he
        subst he
        have := ints_news hc hml j u hu
        rw [World.cell?_alloc_some w _ _ (by rw [this]; rfl)]
        exact this
    have HEND : Hid (∀ (v' : Value) (w1 : World), w1.ownsRow w.heap.size 3 1 v' m (intsV f m) → (w.alloc (.cells #[] 3)).grownBy w1 (some w.heap.size) → (∃ a' c', v' = .slice a' m c' ∧ IntsAt w1 a' m .i64 f) ∧ Below w.heap.size w w1) := fun v' w1 h1 h2 => by
      refine ⟨ints_of_own h1 HF.out.2.1 HMX.out, HB0.out.grown h2 (by simp) (fun k hk => by simp at hk; omega)⟩
    clear hn
    by_cases h400 : 400 < len
    · obtain rfl : m = 400 := by have := HM.out; omega
      clear HM
      go_enter Try.func9, Try.ntmps9
      go_wp2_with (first
        | (at_builtin; refine wpList_append_own _ rfl _ _ 22 rfl w.heap.size 3 i0 (.int .i64 0) 1 8 Try.underlying22 hi hz0 hz1 hz2 rfl (by decide) _ _ _ rfl HST.out ad 400 _ (intsV f 400) rfl ?c1 HNW.out (ints_one f 400) ?c2 ?c3 ?c4 ?_))
      case c1 => rw [intsV_len]
      case c2 => decide
      case c3 => decide
      case c4 => simp
      intro v' w1 hown hgr _
      obtain ⟨⟨a', c', rfl, hia⟩, hbel⟩ := HEND.out v' w1 hown hgr
      have HIA := hidM hia
      have HBL := hidM hbel
      clear hown hgr hia hbel
      go_wp2
      go_ret
      exact ⟨⟨a', c', rfl, HIA.out⟩, HBL.out⟩
    · obtain rfl : m = len := by have := HM.out; omega
      clear HM
      go_enter Try.func9, Try.ntmps9
      go_wp2_with (first
        | (at_builtin; refine wpList_append_own _ rfl _ _ 22 rfl w.heap.size 3 i0 (.int .i64 0) 1 8 Try.underlying22 hi hz0 hz1 hz2 rfl (by decide) _ _ _ rfl HST.out ad m _ (intsV f m) rfl ?c1 HNW.out (ints_one f m) ?c2 ?c3 ?c4 ?_))
      case c1 => rw [intsV_len]; omega
      case c2 => unfold maxLen; omega
      case c3 => omega
      case c4 => simp
      intro v' w1 hown hgr _
      obtain ⟨⟨a', c', rfl, hia⟩, hbel⟩ := HEND.out v' w1 hown hgr
      have HIA := hidM hia
      have HBL := hidM hbel
      clear hown hgr hia hbel
      go_wp2
      go_ret
      exact ⟨⟨a', c', rfl, HIA.out⟩, HBL.out⟩

def f4 : Nat → Int := fun i => match i with
  | 0 => 2
  | 1 => 1
  | 2 => 3
  | 3 => 3
  | _ => 0
theorem f4_at (w : World) : IntsAt (w.alloc (.cells #[.int .i64 2, .int .i64 1, .int .i64 3, .int .i64 3] 3)) (some ⟨w.heap.size, 0, none⟩) 4 .i64 f4 := by
  refine ⟨by decide, fun i => ?_, .inr ⟨w.heap.size, 0, rfl, fun i hi => ?_⟩⟩
  · unfold f4; split <;> decide
  · rw [cell_of_row _ w.heap.size (0 + i) _ 3 (0, 0) (heap_alloc_new w _)]
    match i, hi with
    | 0, _ => rfl
    | 1, _ => rfl
    | 2, _ => rfl
    | 3, _ => rfl
theorem f4_new {e : Ending} {w' : World} (h : NewPost f4 4 e w') : ∃ b ln, e = .returned (.tuple #[.pointer (some ⟨b, 0, none⟩), .int .i64 0]) ∧ Tab w' b ln 4 ∧ codeC ln 4 2 = 6 ∧ ln 2 = 3 := by
  have hln : ∀ ln : Nat → Nat, (∀ i, i < 4 → f4 i = (ln i : Int)) → ln 0 = 2 ∧ ln 1 = 1 ∧ ln 2 = 3 ∧ ln 3 = 3 := fun ln h => by
    have h0 := h 0 (by decide)
    have h1 := h 1 (by decide)
    have h2 := h 2 (by decide)
    have h3 := h 3 (by decide)
    simp only [f4] at h0 h1 h2 h3
    omega
  rcases h with ⟨h, _⟩ | ⟨_, ⟨i, hi, hb⟩, _⟩ | ⟨_, ln, hl, _, hr⟩
  · omega
  · exfalso
    match i, hi with
    | 0, _ => simp [f4] at hb
    | 1, _ => simp [f4] at hb
    | 2, _ => simp [f4] at hb
    | 3, _ => simp [f4] at hb
  · obtain ⟨l0, l1, l2, l3⟩ := hln ln hl
    have hk : kr ln 4 15 = 32768 := by simp [kr, cnt, l0, l1, l2, l3]
    rcases hr with ⟨hn, _⟩ | ⟨_, b, he, ht⟩
    · exact absurd (.inl hk) hn
    · exact ⟨b, ln, he, ht, by simp [codeC, fstC, cnt, l0, l1, l2, l3], l2⟩

set_option maxHeartbeats 1000000 in
theorem hawake_any (w : World) :
    Calls Try.prog 12 #[] w fun e w' => e = .returned (.bool true) ∧ Below w.heap.size w w' := by
  have HF := hidM (f4_at w)
  have HB0 : Hid (Below w.heap.size w (w.alloc (.cells #[.int .i64 2, .int .i64 1, .int .i64 3, .int .i64 3] 3))) := (Below.refl _ _).alloc (Nat.le_refl _) _
  go_enter Try.func12, Try.ntmps12
  go_wp2_with fail
  refine (new_any _ 4 4 f4 _ HF.out).mono ?_
  rintro e w1 ⟨hp, hb1⟩
  obtain ⟨b, ln, rfl, ht, hc, hl⟩ := f4_new hp
  have HT := hidM ht
  have HC := hidM hc
  have HL := hidM hl
  have HB1 : Hid (Below w.heap.size w w1) := HB0.out.trans (hb1.mono HB0.out.size)
  clear hp ht hb1 hc hl
  go_wp2_with fail
  refine (code_in b 2 ln 4 w1 HT.out (by decide)).mono ?_
  rintro e w2 ⟨rfl, hb2⟩
  rw [HC.out, HL.out]
  have HB2 : Hid (Below w.heap.size w w2) := HB1.out.trans (hb2.mono HB1.out.size)
  clear hb2
  go_wp2
  go_ret
  exact ⟨rfl, HB2.out⟩
end Go.Proofs.Ytpidofgmbjkbiaa
