/-
  HuffCodes: its walk.
-/
import Derived.Test.YtpidofgmbjkbiaaCds
import Derived.Test.YtpidofgmbjkbiaaHufS
namespace Go.Proofs.Ytpidofgmbjkbiaa
open Go.RowKit

theorem nb_hib (x n : Nat) : nb (hib x n).reverse = x % 2 ^ n := by
  induction n with
  | zero => simp [hib, nb, Nat.mod_one]
  | succ n ih =>
    rw [hib, List.reverse_cons, nb_snoc, ih, List.length_reverse, hib_len, Nat.mod_pow_succ]
    congr 2
    rcases Nat.mod_two_eq_zero_or_one (x / 2 ^ n) with h | h <;> simp [h]
theorem cnt_congr {ln lm : Nat → Nat} {L : Nat} (h : ∀ i, i < L → ln i = lm i) (n : Nat) : cnt ln n L = cnt lm n L := by
  induction L with
  | zero => rfl
  | succ L ih => rw [cnt, cnt, ih (fun i hi => h i (by omega)), h L (by omega)]
theorem kr_congr {ln lm : Nat → Nat} {L : Nat} (h : ∀ i, i < L → ln i = lm i) (n : Nat) : kr ln L n = kr lm L n := by
  induction n with
  | zero => rfl
  | succ n ih => rw [kr, kr, ih, cnt_congr h]
theorem lgs_congr {ln lm : Nat → Nat} {L : Nat} (h : ∀ i, i < L → ln i = lm i) : lgs ln L = lgs lm L := by
  induction L with
  | zero => rfl
  | succ L ih => rw [lgs, lgs, ih (fun i hi => h i (by omega)), h L (by omega)]
theorem Fit.congr {ln lm : Nat → Nat} {L : Nat} (h : ∀ i, i < L → ln i = lm i) (hf : Fit ln L) : Fit lm L := by
  unfold Fit at hf ⊢
  rw [← kr_congr h, ← lgs_congr h, ← cnt_congr h]
  exact hf
/-- New and the document's Check agree. -/
theorem new_chk {f : Nat → Int} {len : Nat} {w w' : World} {e e2 : Ending} (h : NewPostS f len w e w') (k : ChkPost f len e2) :
    (∃ r : Int, r ≠ 0 ∧ e = .returned (.tuple #[.pointer none, .int .i64 r]) ∧ e2 = .returned (.int .i64 r)) ∨
    (len ≤ 320 ∧ ∃ ln b, (∀ i, i < len → f i = (ln i : Int)) ∧ (∀ i, ln i ≤ 15) ∧ Fit ln len ∧ e = .returned (.tuple #[.pointer (some ⟨b, 0, none⟩), .int .i64 0]) ∧ TabS w' b ln len w.heap.size w'.heap.size ∧ e2 = .returned (.int .i64 0)) := by
  rcases h with ⟨h1, he⟩ | ⟨h1, ⟨i, hi, hb⟩, he⟩ | ⟨h1, ln, hl, h15, hr⟩
  · rcases k with ⟨_, ke⟩ | ⟨k1, _⟩ | ⟨k1, _⟩
    · exact .inl ⟨2, by decide, he, ke⟩
    · omega
    · omega
  · rcases k with ⟨k1, _⟩ | ⟨_, _, ke⟩ | ⟨_, lm, kl, k15, _⟩
    · omega
    · exact .inl ⟨1, by decide, he, ke⟩
    · have := kl i hi
      have := k15 i
      omega
  · rcases k with ⟨k1, _⟩ | ⟨_, ⟨i, hi, hb⟩, ke⟩ | ⟨_, lm, kl, k15, kr⟩
    · omega
    · have := hl i hi
      have := h15 i
      omega
    · have hc : ∀ i, i < len → ln i = lm i := fun i hi => by have := hl i hi; have := kl i hi; omega
      rcases hr with ⟨hn, he⟩ | ⟨hf, b, he, ht⟩
      · rcases kr with ⟨_, ke⟩ | ⟨kf, _⟩
        · exact .inl ⟨4, by decide, he, ke⟩
        · exact absurd (kf.congr fun i hi => (hc i hi).symm) hn
      · rcases kr with ⟨kn, _⟩ | ⟨_, ke⟩
        · exact absurd (hf.congr hc) kn
        · exact .inr ⟨h1, ln, b, hl, h15, hf, he, ht, ke⟩
theorem ints_of_ownS {w : World} {B m g c : Nat} {f : Nat → Int} (h : w.ownsRow B 3 1 (.slice (some ⟨g, 0, none⟩) m c) m (intsV f m)) (hf : ∀ i, (Lit.int .i64 (f i)).wf = true) (hm : m ≤ maxLen) : IntsAt w (some ⟨g, 0, none⟩) m .i64 f := by
  refine ⟨hm, hf, .inr ⟨g, 0, rfl, fun i hi => ?_⟩⟩
  have := World.ownsRow.cells (g := g) h rfl i _ (intsV_at f m i hi)
  rwa [Addr.add_lit] at this
theorem ints_to {w : World} {a : Option Addr} {m : Nat} {f : Nat → Int} {ln : Nat → Nat} (h : IntsAt w a m .i64 f) (hl : ∀ i, i < m → f i = (ln i : Int)) (h15 : ∀ i, ln i ≤ 15) : IntsAt w a m .i64 (fun i => (ln i : Int)) := by
  refine ⟨h.1, fun i => ?_, ?_⟩
  · have := h15 i
    simp [Lit.wf, IntKind.min, IntKind.max, IntKind.signed, IntKind.bits]
    omega
  · rcases h.2.2 with h0 | ⟨b', o', h1, h2⟩
    · exact .inl h0
    · exact .inr ⟨b', o', h1, fun i hi => by rw [h2 i hi, hl i hi]⟩
/-- A row of numbers in block g, of which m cells are there. -/
def RBoxI (w : World) (g m : Nat) : Prop := ∃ cur, w.heap[g]? = some (.cells cur 3 (0, 0)) ∧ m ≤ cur.size
theorem RBoxI.lt {w : World} {g m : Nat} (h : RBoxI w g m) : g < w.heap.size := by
  obtain ⟨cur, h1, _⟩ := h
  exact (Array.getElem?_eq_some_iff.1 h1).1
theorem RBoxI.set {w : World} {g m : Nat} (h : RBoxI w g m) (i : Nat) (v : Value) : RBoxI (w.setCell ⟨g, i, none⟩ v) g m := by
  obtain ⟨cur, h1, h2⟩ := h
  exact ⟨_, heap_setCell_same w g i cur 3 v h1, by simpa using h2⟩
theorem RBoxI.cell {w : World} {g m : Nat} (h : RBoxI w g m) (i : Nat) (hi : i < m) : (∃ v, w.cell? ⟨g, i, none⟩ = some v) ∧ w.frozen? ⟨g, i, none⟩ = false := by
  obtain ⟨cur, h1, h2⟩ := h
  exact ⟨⟨cur[i]'(by omega), by rw [cell_of_row w g i _ 3 (0, 0) h1]; exact Array.getElem?_eq_getElem (by omega)⟩, frozen_of_row w g i _ 3 h1⟩
theorem RBoxI.below {w w' : World} {g m : Nat} (h : RBoxI w g m) (hb : Below w.heap.size w w') : RBoxI w' g m := by
  have hl := h.lt
  obtain ⟨cur, h1, h2⟩ := h
  exact ⟨cur, (hb.block g hl).trans h1, h2⟩
theorem RBoxI.of_own {w : World} {B m g c : Nat} {xs : List Value} (h : w.ownsRow B 3 1 (.slice (some ⟨g, 0, none⟩) m c) m xs) : RBoxI w g m := by
  rcases h.2 with ⟨h0, _⟩ | ⟨g', cap', cur, hv, hbs, hg, hnc, hcm, hcs, htake⟩
  · simp at h0
  · simp only [Value.slice.injEq, Option.some.injEq, Addr.mk.injEq, and_true, true_and] at hv
    obtain ⟨rfl, rfl⟩ := hv
    exact ⟨cur, hg, by omega⟩

set_option maxHeartbeats 4000000 in
theorem hcodes_walk (a : Option Addr) (len cap : Nat) (f : Nat → Int) (w : World) (hf : IntsAt w a len .i64 f) (hn : a = none → len = 0 ∧ cap = 0) (hcap : len ≤ cap) :
    Calls Try.prog 3 #[.slice a len cap] w fun e w' => e = .returned (.bool true) ∧ Below w.heap.size w w' := by
  have HF := hidM hf
  have HN := hidM hn
  have HCAP := hidM hcap
  obtain ⟨m, hm⟩ : ∃ m, m = min len 400 := ⟨_, rfl⟩
  have HM := hidM hm
  have m400 : m ≤ 400 := by omega
  have HMX : Hid (m ≤ maxLen) := by unfold Hid maxLen; omega
  clear hf hn hcap hm
  go_enter Try.func3, Try.ntmps3
  go_wp2_with fail
  refine (few_own a len cap m f w HF.out HM.out HN.out HCAP.out).mono ?_
  rintro e w1 ⟨⟨g1, c1, rfl, ho1⟩, hb1⟩
  have HF1 := hidM (ints_of_ownS ho1 HF.out.2.1 HMX.out)
  have HG1 := hidM (RBoxI.of_own ho1)
  have HGW : Hid (w.heap.size ≤ g1) := (World.ownsRow.lt ho1 g1 rfl).1
  have HB1 := hidM hb1
  clear ho1 hb1
  go_wp2_with fail
  refine (new_sep (some ⟨g1, 0, none⟩) m c1 f w1 HF1.out).mono ?_
  rintro e w2 ⟨hp, hb2⟩
  have HP := hidM hp
  have HB2 : Hid (Below w.heap.size w w2) := HB1.out.trans (hb2.mono HB1.out.size)
  have HB12 := hidM hb2
  obtain ⟨t2, r2, rfl⟩ : ∃ t2 r2, e = .returned (.tuple #[t2, .int .i64 r2]) := by
    rcases hp with ⟨_, he⟩ | ⟨_, _, he⟩ | ⟨_, ln, _, _, ⟨_, he⟩ | ⟨_, b, he, _⟩⟩ <;> exact ⟨_, _, he⟩
  clear hb2 hp
  go_wp2_with fail
  refine (few_any a len cap m f w2 (HF.out.below HB2.out) HM.out HN.out HCAP.out).mono ?_
  rintro e w3 ⟨⟨a3, c3, rfl, hf3⟩, hb3⟩
  have HB3 : Hid (Below w.heap.size w w3) := HB2.out.trans (hb3.mono HB2.out.size)
  have HB23 := hidM hb3
  have HF3 := hidM hf3
  clear hb3 hf3
  go_wp2_with fail
  refine (check_any a3 m c3 f w3 HF3.out).mono ?_
  rintro e w4 ⟨hk, rfl⟩
  have hcase := new_chk HP.out hk
  clear hk
  rcases hcase with ⟨r, hr, he, rfl⟩ | ⟨h320, ln, b, hln, h15, hfit, he, htab, rfl⟩
  · simp only [Ending.returned.injEq, Value.tuple.injEq, Array.mk.injEq, List.cons.injEq, Value.int.injEq, and_true, true_and] at he
    obtain ⟨rfl, rfl⟩ := he
    have hrb : (r2 != 0) = true := by simpa using hr
    have hrr : (r2 != r2) = false := by simp
    go_wp2_with fail
    refine (hawake_any w4).mono ?_
    rintro e w5 ⟨rfl, hb5⟩
    have HB5 : Hid (Below w.heap.size w w5) := HB3.out.trans (hb5.mono HB3.out.size)
    clear hb5
    go_wp2
    go_ret
    exact ⟨rfl, HB5.out⟩
  · simp only [Ending.returned.injEq, Value.tuple.injEq, Array.mk.injEq, List.cons.injEq, Value.int.injEq, and_true, true_and] at he
    obtain ⟨rfl, rfl⟩ := he
    have HLN := hidM hln
    have H15 := hidM h15
    have HKR := hidM hfit.le
    have HT := hidM (htab.below HB23.out (Nat.le_refl _))
    have HE2 := hidM HB23.out.size
    clear hln h15 hfit htab
    go_wp2_with fail
    refine (hawake_any w4).mono ?_
    rintro e w5 ⟨rfl, hb5⟩
    have HB5 : Hid (Below w.heap.size w w5) := HB3.out.trans (hb5.mono HB3.out.size)
    have HT5 := hidM (HT.out.below hb5 HE2.out)
    have HB15 : Hid (Below w1.heap.size w1 w5) := HB12.out.trans ((HB23.out.mono HB12.out.size).trans (hb5.mono (Nat.le_trans HB12.out.size HB23.out.size)))
    have HF5 := hidM (ints_to (HF1.out.below HB15.out) HLN.out H15.out)
    have HG5 := hidM (HG1.out.below HB15.out)
    have HE5 : Hid (w2.heap.size ≤ w5.heap.size) := Nat.le_trans HE2.out hb5.size
    clear hb5
    go_wp2_with fail
    refine (codes_any (some ⟨g1, 0, none⟩) m c1 ln w5 HF5.out H15.out h320 HKR.out).mono ?_
    rintro e w6 ⟨⟨a6, c6, rfl, hc6⟩, hb6⟩
    have HB6 : Hid (Below w.heap.size w w6) := HB5.out.trans (hb6.mono HB5.out.size)
    have HT6 := hidM (HT5.out.below hb6 HE5.out)
    have HG6 := hidM (HG5.out.below hb6)
    have HC6 := hidM hc6
    have HE6 : Hid (w2.heap.size ≤ w6.heap.size) := Nat.le_trans HE5.out hb6.size
    have HL1 := hidM HG1.out.lt
    have HL5 := hidM HG5.out.lt
    clear hc6 hb6
    go_wp2
    go_loopw [42] (fun i wr => ∃ k : Nat, k ≤ m ∧ i = .int .i64 k ∧ RBoxI wr g1 m ∧ TabS wr b ln m w1.heap.size w2.heap.size ∧ CodesAt wr w5.heap.size a6 ln m ∧ Below w.heap.size w wr ∧ w2.heap.size ≤ wr.heap.size) (fun i _ => m - (intOf i).toNat)
    case atStart => exact ⟨0, Nat.zero_le _, rfl, HG6.out, HT6.out, HC6.out, HB6.out, HE6.out⟩
    case round =>
      obtain ⟨k, hk, rfl, hg, ht, hc, hb, he⟩ := hrel
      have HG := hidM hg
      have HTT := hidM ht
      have HC := hidM hc
      have HB := hidM hb
      have HE := hidM he
      clear hg ht hc hb he HE6 HG6 HT6 HC6 HB6
      by_cases hlt : k < m
      · obtain ⟨⟨v, hv⟩, hz⟩ := HG.out.cell k hlt
        have HG2 : Hid (RBoxI (wr.setCell ⟨g1, k, none⟩ (.int .i64 7)) g1 m) := HG.out.set k _
        have HT2 : Hid (TabS (wr.setCell ⟨g1, k, none⟩ (.int .i64 7)) b ln m w1.heap.size w2.heap.size) := HTT.out.keep fun q h1 _ => Below.heap_setCell wr ⟨g1, k, none⟩ _ q (by have := HL1.out; simp; omega)
        have HC2 : Hid (CodesAt (wr.setCell ⟨g1, k, none⟩ (.int .i64 7)) w5.heap.size a6 ln m) := HC.out.keep fun q h1 _ => Below.heap_setCell wr ⟨g1, k, none⟩ _ q (by have := HL5.out; simp; omega)
        have HB2' : Hid (Below w.heap.size w (wr.setCell ⟨g1, k, none⟩ (.int .i64 7))) := below_set HB.out HGW.out
        have b3 : (k : Int) < (m : Int) := by omega
        go_wp2
        go_roundw
        case rel => exact ⟨k + 1, by omega, by go_num, HG2.out, HT2.out, HC2.out, HB2'.out, by have := HE.out; simpa using this⟩
        case measure => simp [intOf]; omega
      · obtain ⟨wo, hwo⟩ : ∃ wo : World, wo = wr := ⟨_, rfl⟩
        rw [← hwo] at HTT HC HB HE ⊢
        clear hwo HG
        go_wp2
        go_loopw [51] (fun i wr => ∃ s : Nat, s ≤ m ∧ i = .int .i64 s ∧ TabS wr b ln m w1.heap.size w2.heap.size ∧ CodesAt wr w5.heap.size a6 ln m ∧ Below w.heap.size w wr ∧ w2.heap.size ≤ wr.heap.size) (fun i _ => m - (intOf i).toNat)
        case atStart => exact ⟨0, Nat.zero_le _, rfl, HTT.out, HC.out, HB.out, HE.out⟩
        case round =>
          obtain ⟨s, hs, rfl, ht, hc, hb, he⟩ := hrel
          clear HTT HC HB HE
          have HTT := hidM ht
          have HC := hidM hc
          have HB := hidM hb
          have HE := hidM he
          clear ht hc hb he
          by_cases hlt : s < m
          · obtain ⟨g6, a', c', rfl, hcell, hbat⟩ := HC.out.get s hlt
            have HBA := hidM hbat
            clear hbat
            have hk15 := H15.out s
            have hcl := codeC_lt ln m s hlt hk15 HKR.out
            have h2p : 2 ^ ln s ≤ 2 ^ 15 := Nat.pow_le_pow_right (by decide) hk15
            have HNB : Hid (nb (hib (codeC ln m s) (ln s)).reverse % 4294967296 = codeC ln m s) := by
              unfold Hid; rw [nb_hib, Nat.mod_eq_of_lt hcl, Nat.mod_eq_of_lt (by simp at h2p; omega)]
            have HLH : Hid ((hib (codeC ln m s) (ln s)).length = ln s) := hib_len _ _
            go_wp2_with fail
            refine (code_in b s ln m wr HTT.out.tab hlt).mono ?_
            rintro e w7 ⟨rfl, hb7⟩
            have HB7 : Hid (Below w.heap.size w w7) := HB.out.trans (hb7.mono HB.out.size)
            have HT7 := hidM (HTT.out.below hb7 HE.out)
            have HC7 := hidM (HC.out.below hb7)
            have HA7 := hidM (HBA.out.below hb7)
            have HE7 : Hid (w2.heap.size ≤ w7.heap.size) := Nat.le_trans HE.out hb7.size
            generalize codeC ln m s = cc at *
            generalize hls : hib cc (ln s) = lb at *
            generalize ln s = k at *
            have hkk : ((k : Int) != (k : Int)) = false := by simp
            have hcc : ((cc : Int) != (cc : Int)) = false := by simp
            clear hb7 hcell hcl h2p hls
            have HTN := hidM (turn_any a' c' lb w7 (by rw [HLH.out]; omega) HA7.out)
            rw [HLH.out] at HTN
            go_wp2_with fail
            refine HTN.out.mono ?_
            rintro e w8 ⟨⟨v8, rfl, ho8⟩, hb8⟩
            have HB8 : Hid (Below w.heap.size w w8) := HB7.out.trans (hb8.mono HB7.out.size)
            have HT8 := hidM (HT7.out.below hb8 HE7.out)
            have HC8 := hidM (HC7.out.below hb8)
            have HE8 : Hid (w2.heap.size ≤ w8.heap.size) := Nat.le_trans HE7.out hb8.size
            obtain ⟨a8, c8, hv8, hba8⟩ := ho8.1.bat
            have hl8 : lb.reverse.length = k := by rw [List.length_reverse]; exact HLH.out
            rw [hl8] at hv8
            subst hv8
            have HNM := hidM (number_any a8 c8 lb.reverse w8 (by rw [hl8]; omega) hba8)
            rw [hl8, HNB.out] at HNM
            clear ho8 hb8 hba8 hl8
            go_wp2_with fail
            refine HNM.out.mono ?_
            rintro e w9 ⟨rfl, rfl⟩
            go_wp2
            go_roundw
            case rel => exact ⟨s + 1, by omega, by go_num, HT8.out, HC8.out, HB8.out, HE8.out⟩
            case measure => simp [intOf]; omega
          · obtain rfl : s = m := by omega
            go_wp2_with fail
            refine (code_out b (-1) ln s wr HTT.out.tab (.inl (by decide))).mono ?_
            rintro e w7 ⟨rfl, rfl⟩
            go_wp2_with fail
            refine (code_out b (s : Int) ln s w7 HTT.out.tab (.inr (Int.le_refl _))).mono ?_
            rintro e w8 ⟨rfl, rfl⟩
            go_wp2
            go_ret
            exact ⟨rfl, HB.out⟩
end Go.Proofs.Ytpidofgmbjkbiaa
