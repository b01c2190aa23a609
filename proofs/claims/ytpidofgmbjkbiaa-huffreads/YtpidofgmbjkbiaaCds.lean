/-
  The document's Codes: of each symbol the row of its code's bits, the highest first.
-/
import Derived.Test.YtpidofgmbjkbiaaRefH
import Derived.Test.YtpidofgmbjkbiaaChk
namespace Go.Proofs.Ytpidofgmbjkbiaa
open Go.RowKit

/-- The lowest i bits of x, the highest first. -/
def hib (x : Nat) : Nat → List Bool
  | 0 => []
  | i + 1 => (x / 2 ^ i % 2 == 1) :: hib x i
theorem hib_len (x i : Nat) : (hib x i).length = i := by
  induction i with
  | zero => rfl
  | succ i ih => rw [hib, List.length_cons, ih]
theorem Try.info32 : (Try.prog.info? 32).map (fun i => (i.zero, i.size, i.bytes)) = some (some (.slice none 0 0), 1, 24) := by kernel_rfl
theorem low_bitH (y : Nat) : (((y : Int) % 2 == 1) : Bool) = (y % 2 == 1) := by
  rcases Nat.mod_two_eq_zero_or_one y with h | h
  · have : (y : Int) % 2 = 0 := by omega
    rw [h, this]; rfl
  · have : (y : Int) % 2 = 1 := by omega
    rw [h, this]; rfl
/-- A symbol's code has been laid ahead of length n, symbol k. -/
def Did (ln : Nat → Nat) (n k s : Nat) : Prop := 0 < ln s ∧ (ln s < n ∨ ln s = n ∧ s < k)
/-- The rows of codes in block g, those laid ahead of length n, symbol k. -/
structure CSt (w0 w : World) (g : Nat) (ln : Nat → Nat) (L n k : Nat) : Prop where
  base : w0.heap.size ≤ g
  box : ∃ cur, w.heap[g]? = some (.cells cur 32 (0, 0)) ∧ L ≤ cur.size
  yes : ∀ s, s < L → Did ln n k s → ∃ b c, w.cell? ⟨g, s, none⟩ = some (.slice (some ⟨b, 0, none⟩) (ln s) c) ∧ (b ≠ g ∧ w0.heap.size ≤ b) ∧ ∀ i (h : i < (hib (codeC ln L s) (ln s)).length), w.cell? ⟨b, 0 + i, none⟩ = some (.bool (hib (codeC ln L s) (ln s))[i])
  no : ∀ s, s < L → ¬ Did ln n k s → w.cell? ⟨g, s, none⟩ = some (.slice none 0 0)
  bel : Below w0.heap.size w0 w
theorem CSt.lt {w0 w : World} {g : Nat} {ln : Nat → Nat} {L n k : Nat} (h : CSt w0 w g ln L n k) : g < w.heap.size := by
  obtain ⟨cur, hc, _⟩ := h.box
  exact (Array.getElem?_eq_some_iff.1 hc).1
theorem CSt.below {w0 w w' : World} {g : Nat} {ln : Nat → Nat} {L n k : Nat} (h : CSt w0 w g ln L n k) (hb : Below w.heap.size w w') : CSt w0 w' g ln L n k := by
  have hg := h.lt
  refine ⟨h.base, ?_, ?_, ?_, h.bel.trans (hb.mono h.bel.size)⟩
  · obtain ⟨cur, hc, hs⟩ := h.box
    exact ⟨cur, (hb.block g hg).trans hc, hs⟩
  · intro s hs hd
    obtain ⟨b, c, h1, h2, h3⟩ := h.yes s hs hd
    exact ⟨b, c, (hb.cell (p := ⟨g, s, none⟩) hg).trans h1, h2, fun i hi => (hb.cell (p := ⟨b, 0 + i, none⟩) (World.block_lt_of_cell? w _ (h3 i hi))).trans (h3 i hi)⟩
  · intro s hs hd
    exact (hb.cell (p := ⟨g, s, none⟩) hg).trans (h.no s hs hd)
theorem CSt.same {w0 w : World} {g : Nat} {ln : Nat → Nat} {L n k m j : Nat} (h : CSt w0 w g ln L n k) (hd : ∀ s, s < L → (Did ln n k s ↔ Did ln m j s)) : CSt w0 w g ln L m j :=
  ⟨h.base, h.box, fun s hs h1 => h.yes s hs ((hd s hs).2 h1), fun s hs h1 => h.no s hs (fun h2 => h1 ((hd s hs).1 h2)), h.bel⟩
theorem CSt.put {w0 w : World} {g : Nat} {ln : Nat → Nat} {L n k b c : Nat} (h : CSt w0 w g ln L n k) (hk : k < L) (hn : ln k = n) (h0 : 0 < n) (hb : b ≠ g ∧ w0.heap.size ≤ b)
    (hc : ∀ i (h : i < (hib (codeC ln L k) n).length), w.cell? ⟨b, 0 + i, none⟩ = some (.bool (hib (codeC ln L k) n)[i])) : CSt w0 (w.setCell ⟨g, k, none⟩ (.slice (some ⟨b, 0, none⟩) n c)) g ln L n (k + 1) := by
  obtain ⟨cur, hcur, hsz⟩ := h.box
  have hnew := heap_setCell_same w g k cur 32 (.slice (some ⟨b, 0, none⟩) n c) hcur
  have hcell : ∀ s, s < L → (w.setCell ⟨g, k, none⟩ (.slice (some ⟨b, 0, none⟩) n c)).cell? ⟨g, s, none⟩ = if s = k then some (.slice (some ⟨b, 0, none⟩) n c) else w.cell? ⟨g, s, none⟩ := by
    intro s hs
    rw [cell_of_row _ g s _ 32 (0, 0) hnew, cell_of_row w g s _ 32 (0, 0) hcur, Array.getElem?_setIfInBounds]
    by_cases he : s = k
    · subst he; rw [if_pos rfl, if_pos (by omega), if_pos rfl]
    · rw [if_neg (fun h => he h.symm), if_neg he]
  have hoth : ∀ b' i, b' ≠ g → (w.setCell ⟨g, k, none⟩ (.slice (some ⟨b, 0, none⟩) n c)).cell? ⟨b', i, none⟩ = w.cell? ⟨b', i, none⟩ := fun b' i hb' =>
    World.cell?_of_block (a := ⟨b', i, none⟩) (Below.heap_setCell w ⟨g, k, none⟩ _ b' hb')
  refine ⟨h.base, ⟨_, hnew, by simpa using hsz⟩, ?_, ?_, below_set h.bel h.base⟩
  · intro s hs hd
    rw [hcell s hs]
    by_cases he : s = k
    · subst he
      rw [if_pos rfl, hn]
      exact ⟨b, c, rfl, hb, fun i hi => by rw [hoth b _ hb.1]; exact hc i hi⟩
    · rw [if_neg he]
      obtain ⟨b', c', h1, h2, h3⟩ := h.yes s hs (by unfold Did at hd ⊢; omega)
      exact ⟨b', c', h1, h2, fun i hi => by rw [hoth b' _ h2.1]; exact h3 i hi⟩
  · intro s hs hd
    rw [hcell s hs]
    by_cases he : s = k
    · subst he; unfold Did at hd; omega
    · rw [if_neg he]
      exact h.no s hs (by unfold Did at hd ⊢; omega)
/-- A row of bits that is read, in a block from B on. -/
def BAtF (w : World) (B : Nat) (a : Option Addr) (l : List Bool) : Prop :=
  l = [] ∨ ∃ b off, B ≤ b ∧ a = some ⟨b, off, none⟩ ∧ ∀ i (h : i < l.length), w.cell? ⟨b, off + i, none⟩ = some (.bool l[i])
theorem BAtF.bat {w : World} {B : Nat} {a : Option Addr} {l : List Bool} (h : BAtF w B a l) : BAt w a l := by
  rcases h with h | ⟨b, off, _, h1, h2⟩
  · exact .inl h
  · exact .inr ⟨b, off, h1, h2⟩
/-- The rows of codes at a, each read by its place; all blocks from B on. -/
def CodesAt (w : World) (B : Nat) (a : Option Addr) (ln : Nat → Nat) (L : Nat) : Prop :=
  L = 0 ∨ ∃ g, B ≤ g ∧ a = some ⟨g, 0, none⟩ ∧ ∀ s, s < L → ∃ a' c', w.cell? ⟨g, s, none⟩ = some (.slice a' (ln s) c') ∧ BAtF w B a' (hib (codeC ln L s) (ln s))
theorem CSt.codes {w0 w : World} {g : Nat} {ln : Nat → Nat} {L n k : Nat} (h : CSt w0 w g ln L n k) (h15 : ∀ i, ln i < n) : CodesAt w w0.heap.size (some ⟨g, 0, none⟩) ln L := by
  refine .inr ⟨g, h.base, rfl, fun s hs => ?_⟩
  have := h15 s
  by_cases h0 : ln s = 0
  · have h1 := h.no s hs (by unfold Did; omega)
    exact ⟨none, 0, by rw [h1, h0], .inl (by rw [h0]; rfl)⟩
  · obtain ⟨b, c, h1, h2, h3⟩ := h.yes s hs (by unfold Did; omega)
    exact ⟨_, c, h1, .inr ⟨b, 0, h2.2, rfl, h3⟩⟩
theorem CodesAt.keep {w w' : World} {B : Nat} {a : Option Addr} {ln : Nat → Nat} {L : Nat} (h : CodesAt w B a ln L) (hk : ∀ k, B ≤ k → k < w.heap.size → w'.heap[k]? = w.heap[k]?) : CodesAt w' B a ln L := by
  rcases h with h | ⟨g, hB, h1, h2⟩
  · exact .inl h
  · refine .inr ⟨g, hB, h1, fun s hs => ?_⟩
    obtain ⟨a', c', h3, h4⟩ := h2 s hs
    refine ⟨a', c', (World.cell?_of_block (a := ⟨g, s, none⟩) (hk g hB (World.block_lt_of_cell? w _ h3))).trans h3, ?_⟩
    rcases h4 with h4 | ⟨b, off, h5, h6, h7⟩
    · exact .inl h4
    · exact .inr ⟨b, off, h5, h6, fun i hi => (World.cell?_of_block (a := ⟨b, off + i, none⟩) (hk b h5 (World.block_lt_of_cell? w _ (h7 i hi)))).trans (h7 i hi)⟩
theorem CodesAt.below {w w' : World} {B : Nat} {a : Option Addr} {ln : Nat → Nat} {L : Nat} (h : CodesAt w B a ln L) (hb : Below w.heap.size w w') : CodesAt w' B a ln L :=
  h.keep fun k _ h2 => hb.block k h2
theorem CodesAt.get {w : World} {B : Nat} {a : Option Addr} {ln : Nat → Nat} {L : Nat} (h : CodesAt w B a ln L) (s : Nat) (hs : s < L) : ∃ g a' c', a = some ⟨g, 0, none⟩ ∧ w.cell? ⟨g, s, none⟩ = some (.slice a' (ln s) c') ∧ BAt w a' (hib (codeC ln L s) (ln s)) := by
  rcases h with h | ⟨g, _, h1, h2⟩
  · omega
  · obtain ⟨a', c', h3, h4⟩ := h2 s hs
    exact ⟨g, a', c', h1, h3, h4.bat⟩
/-- Rows of nil. -/
def nilsV (k : Nat) : List Value := List.replicate k (.slice none 0 0)
theorem CSt.start {w0 w : World} {B g L cap : Nat} {ln : Nat → Nat} (hB : B = w0.heap.size) (h : w.ownsRow B 32 1 (.slice (some ⟨g, 0, none⟩) L cap) L (nilsV L)) (hb : Below w0.heap.size w0 w) : CSt w0 w g ln L 1 0 := by
  have hc := fun j u => World.ownsRow.cells (g := g) h rfl j u
  rcases h.2 with ⟨h0, _⟩ | ⟨g', cap', cur, hv, hbs, hg, hnc, hcm, hcs, htake⟩
  · simp at h0
  · simp only [Value.slice.injEq, Option.some.injEq, Addr.mk.injEq, and_true, true_and] at hv
    obtain ⟨rfl, rfl⟩ := hv
    refine ⟨by omega, ⟨cur, hg, by omega⟩, fun s hs hd => ?_, fun s hs _ => ?_, hb⟩
    · unfold Did at hd; omega
    · have := hc s (.slice none 0 0) (by unfold nilsV; rw [List.getElem?_replicate, if_pos hs])
      rwa [Addr.add_lit, Nat.zero_add] at this
def CodesPost (ln : Nat → Nat) (L B : Nat) (e : Ending) (w' : World) : Prop := ∃ a c, e = .returned (.slice a L c) ∧ CodesAt w' B a ln L

set_option maxHeartbeats 4000000 in
theorem codes_any (a : Option Addr) (len cap : Nat) (ln : Nat → Nat) (w : World) (hf : IntsAt w a len .i64 (fun i => (ln i : Int))) (h15 : ∀ i, ln i ≤ 15) (hl : len ≤ 320) (hkr : kr ln len 15 ≤ 32768) :
    Calls Try.prog 13 #[.slice a len cap] w fun e w' => CodesPost ln len w.heap.size e w' ∧ Below w.heap.size w w' := by
  obtain ⟨i0, hi, hz0, hz1, hz2⟩ := info_parts Try.info4
  obtain ⟨j0, hj, hy0, hy1, hy2⟩ := info_parts Try.info32
  have HF := hidM hf
  have H15 := hidM h15
  have HKR := hidM hkr
  have HST : Hid ((w.alloc (.cells #[] 32)).ownsRow w.heap.size 32 1 (.slice (some ⟨w.heap.size, 0, none⟩) 0 0) 0 (nilsV 0)) := World.ownsRow_lit w #[] 0 (Nat.le_refl _) (Nat.zero_le _) rfl
  have HB0 : Hid (Below w.heap.size w (w.alloc (.cells #[] 32))) := (Below.refl _ _).alloc (Nat.le_refl _) _
  clear hf h15 hkr
  go_enter Try.func13, Try.ntmps13
  go_wp2
  go_loopw [3, 14] (fun v i wr => ∃ (k g c : Nat), k ≤ len ∧ i = .int .i64 k ∧ v = .slice (some ⟨g, 0, none⟩) k c ∧ wr.ownsRow w.heap.size 32 1 (.slice (some ⟨g, 0, none⟩) k c) k (nilsV k) ∧ Below w.heap.size w wr) (fun _ i _ => len - (intOf i).toNat)
  case atStart => exact ⟨0, w.heap.size, 0, Nat.zero_le _, rfl, rfl, HST.out, HB0.out⟩
  case round =>
    obtain ⟨k, g, c, hk, rfl, rfl, hown, hbr⟩ := hrel
    have HO := hidM hown
    have HB := hidM hbr
    clear hown hbr HST HB0
    by_cases hlt : k < len
    · go_wp2_with (first
        | (at_builtin; refine wpList_append_own _ rfl _ _ 30 rfl w.heap.size 32 j0 (.slice none 0 0) 1 24 Try.underlying30 hj hy0 hy1 hy2 rfl (by decide) _ _ _ rfl (World.ownsRow.alloc HO.out _) ⟨wr.heap.size, 0, none⟩ 1 1 [.slice none 0 0] ?c0 rfl ?c1 ?c2 ?c3 ?c4 ?c5 ?_))
      case c0 => rfl
      case c1 =>
        intro j u hj
        match j, hj with
        | 0, hj => simp at hj; subst hj; simp [Addr.add]
      case c2 => intro u hu; simp at hu; subst hu; rfl
      case c3 => unfold maxLen; omega
      case c4 => omega
      case c5 => have := HB.out.size; simp; omega
      intro v' w1 hown' hgrow hnil
      have HB1 : Hid (Below w.heap.size w w1) := (HB.out.alloc HB.out.size _).grown hgrow (by simp; have := HB.out.size; omega) (fun q hq => (World.ownsRow.lt HO.out q hq).1)
      obtain ⟨g', c', rfl⟩ : ∃ g' c', v' = .slice (some ⟨g', 0, none⟩) (k + 1) c' := by
        rcases hown'.2 with ⟨h0, _⟩ | ⟨g', cap', cur, hv, _⟩
        · exact absurd h0 hnil
        · exact ⟨g', cap', hv⟩
      have HO1 : Hid (w1.ownsRow w.heap.size 32 1 (.slice (some ⟨g', 0, none⟩) (k + 1) c') (k + 1) (nilsV (k + 1))) := by
        have e : nilsV (k + 1) = nilsV k ++ [.slice none 0 0] := by unfold nilsV; rw [List.replicate_succ']
        unfold Hid
        rw [e]; exact hown'
      clear hown' hgrow hnil
      go_wp2
      go_roundw
      case rel => exact ⟨k + 1, g', c', by omega, by go_num, rfl, HO1.out, HB1.out⟩
      case measure => simp [intOf]; omega
    · obtain rfl : k = len := by omega
      have HC0 : Hid (CSt w wr g ln k 1 0) := CSt.start rfl HO.out HB.out
      clear HO HB
      go_wp2
      go_loopw [4, 5] (fun cd i wr => ∃ n x : Nat, 1 ≤ n ∧ n ≤ 16 ∧ i = .int .i64 n ∧ x = fstC ln k (n - 1) + cnt ln (n - 1) k ∧ cd = .int .i64 (x : Int) ∧ CSt w wr g ln k n 0) (fun _ i _ => 16 - (intOf i).toNat)
      case atStart => exact ⟨1, 0, by decide, by decide, rfl, by simp [fstC, cnt_zero], rfl, HC0.out⟩
      case round =>
        obtain ⟨n, x, hn1, hn16, rfl, hx, rfl, hcs⟩ := hrel
        have HCS := hidM hcs
        have HX := hidM hx
        clear hcs HC0
        by_cases hn15 : n ≤ 15
        · have bx : x ≤ 32768 := by
            rw [hx]
            have h1 := code_fits ln k (n - 1) (by omega) HKR.out
            have h2 : 2 ^ (n - 1) ≤ 2 ^ 15 := Nat.pow_le_pow_right (by decide) (by omega)
            omega
          have HX2 : Hid (2 * x = fstC ln k n) := by
            unfold Hid
            obtain ⟨m, rfl⟩ : ∃ m, n = m + 1 := ⟨n - 1, by omega⟩
            rw [hx, Nat.add_sub_cancel, fstC]
          clear hx
          have d15 : decide ((n : Int) ≤ 15) = true := by simp; omega
          obtain ⟨wo, hwo⟩ : ∃ wo : World, wo = wr := ⟨_, rfl⟩
          rw [← hwo] at HCS ⊢
          clear hwo
          go_wp2
          go_loopw [4, 28] (fun cd i wr => ∃ s y : Nat, s ≤ k ∧ i = .int .i64 s ∧ y = fstC ln k n + cnt ln n s ∧ cd = .int .i64 (y : Int) ∧ CSt w wr g ln k n s) (fun _ i _ => k - (intOf i).toNat)
          case atStart => exact ⟨0, 2 * x, Nat.zero_le _, rfl, by rw [HX2.out]; rfl, val_int (by omega), HCS.out⟩
          case round =>
            obtain ⟨s, y, hs, rfl, hy, rfl, hcs⟩ := hrel
            clear HCS
            have HCS := hidM hcs
            have HY := hidM hy
            have byy : y ≤ 32768 := by
              rw [hy]
              have h1 := code_fits ln k n hn15 HKR.out
              have h2 : 2 ^ n ≤ 2 ^ 15 := Nat.pow_le_pow_right (by decide) hn15
              have h3 := cnt_mono ln n hs
              omega
            clear hcs hy
            by_cases hsk : s < k
            · obtain ⟨bb, off, rfl, hc⟩ := (HF.out.below HCS.out.bel).get s hsk
              have HCN : Hid (cnt ln n (s + 1) = cnt ln n s + (if ln s = n ∧ 0 < n then 1 else 0)) := rfl
              have H15s := hidM (H15.out s)
              obtain ⟨l, hl'⟩ : ∃ l, l = ln s := ⟨_, rfl⟩
              rw [← hl'] at hc HCN H15s
              have HL := hidM hl'
              clear hl'
              by_cases hne : l = n
              · subst hne
                have HCD : Hid (codeC ln k s = y) := by
                  unfold Hid codeC
                  rw [← HL.out, if_neg (by omega), HY.out]
                have HY2 : Hid (y + 1 = fstC ln k l + cnt ln l (s + 1)) := by unfold Hid; rw [HCN.out, if_pos ⟨rfl, by omega⟩, HY.out]; omega
                have HBS : Hid (Below wr.heap.size wr (wr.alloc (.cells #[] 4))) := (Below.refl _ _).alloc (Nat.le_refl _) _
                have HOS : Hid (OwnS (wr.alloc (.cells #[] 4)) wr.heap.size (.slice (some ⟨wr.heap.size, 0, none⟩) 0 0) (hib y 0)) := ownS_empty wr
                obtain ⟨wm, hwm⟩ : ∃ wm : World, wm = wr := ⟨_, rfl⟩
                rw [← hwm] at HBS HOS HCS hc ⊢
                clear hwm
                go_wp2
                go_loopw [8, 9, 10] (fun v xx i wr => ∃ j z : Nat, j ≤ l ∧ i = .int .i64 j ∧ z = y / 2 ^ j ∧ xx = .int .i64 (z : Int) ∧ OwnS wr wm.heap.size v (hib y j) ∧ Below wm.heap.size wm wr) (fun _ _ i _ => l - (intOf i).toNat)
                case atStart => exact ⟨0, y, Nat.zero_le _, rfl, by simp, rfl, HOS.out, HBS.out⟩
                case round =>
                  obtain ⟨j, z, hj', rfl, hz, rfl, hos, hbs⟩ := hrel
                  clear HOS HBS
                  have HOS := hidM hos
                  have HBS := hidM hbs
                  have HZ := hidM hz
                  have bz : z ≤ 32768 := by rw [hz]; exact Nat.le_trans (Nat.div_le_self _ _) byy
                  clear hos hbs hz
                  by_cases hjl : j < l
                  · obtain ⟨hol, g2, c2, rfl⟩ := HOS.out
                    have HOL := hidM hol
                    have HBZ := hidM HBS.out.size
                    have HLN : Hid ((hib y j).length = j) := hib_len y j
                    clear hol
                    go_wp2_with (first
                      | (at_builtin; refine wpList_append_own _ rfl _ _ 32 rfl wm.heap.size 4 i0 (.bool false) 1 1 Try.underlying32 hi hz0 hz1 hz2 rfl (by decide) _ 1 [.bool ((z : Int) % 2 == 1)] rfl (World.ownsRow_lit wr #[.bool ((z : Int) % 2 == 1)] 1 HBZ.out (by decide) rfl) ⟨g2, 0, none⟩ (hib y j).length c2 (boolsV (hib y j)) ?c0 ?c6 ?c1 ?c2 ?c3 ?c4 ?c5 ?_))
                    case c0 => rfl
                    case c6 => rw [boolsV_len]; omega
                    case c1 => exact World.ownsRow.cells (World.ownsRow.alloc HOL.out _) rfl
                    case c2 =>
                      intro u hu
                      simp only [boolsV, List.mem_map] at hu
                      obtain ⟨q, _, rfl⟩ := hu
                      rfl
                    case c3 => rw [HLN.out]; unfold maxLen; omega
                    case c4 => rw [HLN.out]; omega
                    case c5 => have := HBZ.out; simp; omega
                    intro v' w1 hown' hgrow hnil
                    have HB1 : Hid (Below wm.heap.size wm w1) := (HBS.out.alloc HBS.out.size _).grown hgrow (by simp; have := HBZ.out; omega) (fun q hq => by simp [Value.ownBlock] at hq; have := HBZ.out; omega)
                    have HO1 : Hid (OwnS w1 wm.heap.size v' (hib y (j + 1))) := by
                      have e : boolsV (hib y (j + 1)) = [.bool ((z : Int) % 2 == 1)] ++ boolsV (hib y j) := by
                        rw [low_bitH, HZ.out]; rfl
                      have e2 : (hib y (j + 1)).length = 1 + (hib y j).length := by rw [hib_len, hib_len]; omega
                      have h1 : OwnL w1 wm.heap.size v' (hib y (j + 1)) := by
                        unfold OwnL
                        rw [e, e2]; exact hown'
                      refine ⟨h1, ?_⟩
                      rcases h1.2 with ⟨h0, _⟩ | ⟨g', cap', cur, hv, _⟩
                      · exact absurd h0 hnil
                      · exact ⟨g', cap', hv⟩
                    clear hown' hgrow hnil
                    go_wp2
                    go_roundw
                    case rel => exact ⟨j + 1, z / 2, by omega, by go_num, by rw [HZ.out, Nat.pow_succ, Nat.div_div_eq_div_mul], val_int (by omega), HO1.out, HB1.out⟩
                    case measure => simp [intOf]; omega
                  · obtain rfl : j = l := by omega
                    obtain ⟨hol, g2, c2, rfl⟩ := HOS.out
                    rw [hib_len]
                    have HC2 := hidM (HCS.out.below HBS.out)
                    have hg2 : g2 ≠ g ∧ w.heap.size ≤ g2 := by
                      have h1 := (World.ownsRow.lt hol g2 rfl).1
                      have h2 := HCS.out.lt
                      have h3 := HCS.out.bel.size
                      omega
                    have HC3 : Hid (CSt w (wr.setCell ⟨g, s, none⟩ (.slice (some ⟨g2, 0, none⟩) j c2)) g ln k j (s + 1)) := by
                      refine HC2.out.put hsk HL.out.symm (by omega) hg2 fun i hi => ?_
                      have h1 := World.ownsRow.cells (g := g2) hol rfl i _ (boolsV_at (hib y j) i (by rw [HCD.out] at hi; exact hi))
                      rw [Addr.add_lit] at h1
                      rw [h1]
                      simp only [HCD.out]
                    obtain ⟨cur, hcur, hsz⟩ := HC2.out.box
                    have hcc : wr.cell? ⟨g, s, none⟩ = some (cur[s]'(by omega)) := by rw [cell_of_row wr g s _ 32 (0, 0) hcur]; exact Array.getElem?_eq_getElem (by omega)
                    have hfz : wr.frozen? ⟨g, s, none⟩ = false := frozen_of_row wr g s _ 32 hcur
                    generalize cur[s]'(by omega) = old at *
                    have b3 : (s : Int) < (k : Int) := by omega
                    clear hcur hsz hol hc
                    go_wp2
                    go_roundw
                    case rel => exact ⟨s + 1, y + 1, by omega, by go_num, HY2.out, by go_num, HC3.out⟩
                    case measure => simp [intOf]; omega
              · have hnb : ((l : Int) == (n : Int)) = false := by simp; omega
                have HCX : Hid (CSt w wr g ln k n (s + 1)) := HCS.out.same fun t _ => by
                  unfold Did
                  have := HL.out
                  by_cases ht : t = s
                  · subst ht; omega
                  · omega
                have HY2 : Hid (y = fstC ln k n + cnt ln n (s + 1)) := by unfold Hid; rw [HCN.out, if_neg (by omega), HY.out]; rfl
                go_wp2
                go_roundw
                case rel => exact ⟨s + 1, y, by omega, by go_num, HY2.out, rfl, HCX.out⟩
                case measure => simp [intOf]; omega
            · obtain rfl : s = k := by omega
              have HCX : Hid (CSt w wr g ln s (n + 1) 0) := HCS.out.same fun t ht => by unfold Did; omega
              go_wp2
              go_roundw
              case rel => exact ⟨n + 1, y, by omega, by omega, by go_num, HY.out, rfl, HCX.out⟩
              case measure => simp [intOf]; omega
        · obtain rfl : n = 16 := by omega
          go_wp2
          go_ret
          exact ⟨⟨_, _, rfl, HCS.out.codes fun i => by have := H15.out i; omega⟩, HCS.out.bel⟩
end Go.Proofs.Ytpidofgmbjkbiaa
