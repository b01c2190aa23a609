/-
  The Writer's Bits, once more, with what it leaves alone: every block but its box and its own row.
-/
import Derived.Test.YtklocjmhembbfaaBitE
namespace Go.Proofs.Ytklocjmhembbfaa
open Go.RowKit

/-- Of the blocks that there were all but b and v's own row are as they were, and none of them has become the row of v'. -/
def Sep (b : Nat) (v v' : Value) (w w' : World) : Prop := ∀ g, g < w.heap.size → g ≠ b → some g ≠ v.ownBlock → w'.heap[g]? = w.heap[g]? ∧ some g ≠ v'.ownBlock ∧ g < w'.heap.size
theorem Sep.refl (b : Nat) (v : Value) (w : World) : Sep b v v w w := fun _ h _ hv => ⟨rfl, hv, h⟩
theorem Sep.drew {b : Nat} {v v' : Value} {w w' : World} (h : Sep b v v' w w') : Sep b v v' w w'.drew := h
theorem Sep.trans {b : Nat} {v v' v'' : Value} {w w' w'' : World} (h : Sep b v v' w w') (k : Sep b v' v'' w' w'') : Sep b v v'' w w'' := fun g h1 h2 h3 => by
  obtain ⟨a1, a2, a3⟩ := h g h1 h2 h3
  obtain ⟨b1, b2, b3⟩ := k g a3 h2 a2
  exact ⟨b1.trans a1, b2, b3⟩
theorem Sep.setCell {b : Nat} {v v' : Value} {w w' : World} (h : Sep b v v' w w') (o : Nat) (u : Value) : Sep b v v' w (w'.setCell ⟨b, o, none⟩ u) := fun g h1 h2 h3 => by
  obtain ⟨a1, a2, a3⟩ := h g h1 h2 h3
  exact ⟨(Below.heap_setCell w' ⟨b, o, none⟩ u g h2).trans a1, a2, by simpa using a3⟩
theorem Sep.push {b g n cap : Nat} {v v' : Value} {w wr w1 : World} {ob : Obj} (hs : Sep b v v' w wr) (hg : (wr.drew.alloc ob).grownBy w1 v'.ownBlock)
    (hat : v'.ownBlock = some g ∨ g = wr.heap.size + 1) : Sep b v (.slice (some ⟨g, 0, none⟩) n cap) w (w1.setCell ⟨b, 0, none⟩ (.slice (some ⟨g, 0, none⟩) n cap)) := by
  refine Sep.setCell ?_ 0 _
  intro k h1 h2 h3
  obtain ⟨a1, a2, a3⟩ := hs k h1 h2 h3
  refine ⟨(far_block hg a3 a2).trans a1, ?_, ?_⟩
  · rcases hat with h4 | h4
    · rw [h4] at a2
      simpa [Value.ownBlock] using a2
    · have : k ≠ g := by omega
      simpa [Value.ownBlock] using this
  · have := hg.size
    simp at this
    omega

set_option maxHeartbeats 2000000 in
theorem wbits_sep (b : Nat) (v : Value) (F : List UInt8) (q h x n : Nat) (w : World) (hb : WBox w b v F q h) (hF : F.length ≤ 1000000000) (hh : h < 8) (hq : q < 2 ^ h) (hn : n ≤ 32) (hx : x < 4294967296) :
    Calls Try.prog 23 #[.pointer (some ⟨b, 0, none⟩), .int .u32 x, .int .i64 n] w fun e w' => e = .returned (.tuple #[]) ∧ ∃ v' F' q' h', WBox w' b v' F' q' h' ∧ h' < 8 ∧ q' < 2 ^ h' ∧ 8 * F'.length + h' = 8 * F.length + h + n ∧ WNum F' q' = WNum F (q + 2 ^ h * (x % 2 ^ n)) ∧ Below b w w' ∧ Sep b v v' w w' := by
  have HB := hidM hb
  have h1 := hb.c1
  have h2 := hb.c2
  have f1 := hb.fz 1
  have f2 := hb.fz 2
  obtain ⟨y, hy⟩ : ∃ y, y = x % 2 ^ n := ⟨_, rfl⟩
  have HY := hidM hy
  have hlo : bits .and .u64 (x : Int) (IntKind.u64.wrap (IntKind.u64.wrap (2 ^ n) - 1)) = (y : Int) := by rw [hy]; exact low_bits x n hn hx
  have hyn : y < 2 ^ n := by rw [hy]; exact Nat.mod_lt _ (Nat.pow_pos (by decide))
  have hyx : y < 4294967296 := by rw [hy]; exact Nat.lt_of_le_of_lt (Nat.mod_le _ _) hx
  obtain ⟨z, hz⟩ : ∃ z, z = q + 2 ^ h * y := ⟨_, rfl⟩
  have HZ := hidM hz
  have hpu : bits .or .u64 (q : Int) (IntKind.u64.wrap ((y : Int) * 2 ^ h)) = (z : Int) := by rw [hz]; exact put_bits q y h hq hh hyx
  have HZ2 : Hid (z < 2 ^ (h + n)) := by
    unfold Hid
    rw [hz, Nat.pow_add]
    calc q + 2 ^ h * y < 2 ^ h + 2 ^ h * y := by omega
      _ = 2 ^ h * (y + 1) := by rw [Nat.mul_add, Nat.mul_one, Nat.add_comm]
      _ ≤ 2 ^ h * 2 ^ n := Nat.mul_le_mul_left _ hyn
  clear hb hy hz hyn hyx hq
  go_enter Try.func23, Try.ntmps23
  go_wp2
  go_region
  all_goals go_wp2
  have HW0 : Hid (WBox (((w.setCell ⟨b, 1, none⟩ (.int .u64 (z : Int))).setCell ⟨b, 2, none⟩ (.int .i64 ((h : Int) + (n : Int)))).drew) b v F z (h + n)) := ((HB.out.set1 z).set2 (h + n)).drewN 1
  have HB0 : Hid (Below b w (((w.setCell ⟨b, 1, none⟩ (.int .u64 (z : Int))).setCell ⟨b, 2, none⟩ (.int .i64 ((h : Int) + (n : Int)))).drew)) :=
    below_drewN (below_set (below_set (Below.refl b w) (Nat.le_refl b)) (Nat.le_refl b)) 1
  have HP0 : Hid (Sep b v v w (((w.setCell ⟨b, 1, none⟩ (.int .u64 (z : Int))).setCell ⟨b, 2, none⟩ (.int .i64 ((h : Int) + (n : Int)))).drew)) :=
    (((Sep.refl b v w).setCell 1 _).setCell 2 _).drew
  generalize ((w.setCell ⟨b, 1, none⟩ (.int .u64 (z : Int))).setCell ⟨b, 2, none⟩ (.int .i64 ((h : Int) + (n : Int)))).drew = w0 at *
  clear h1 h2 f1 f2
  go_loopw [] (fun wr => ∃ (v' : Value) (F' : List UInt8) (q' h' : Nat), WBox wr b v' F' q' h' ∧ q' < 2 ^ h' ∧ h' ≤ 39 ∧ 8 * F'.length + h' = 8 * F.length + h + n ∧ WNum F' q' = WNum F z ∧ Below b w wr ∧ Sep b v v' w wr) (fun wr => heldOf wr b)
  case atStart => exact ⟨v, F, z, h + n, HW0.out, HZ2.out, by omega, by omega, rfl, HB0.out, HP0.out⟩
  case round =>
    obtain ⟨v', F', q', h', hw, hq', h39, hsum, hnum, hbr, hsep⟩ := hrel
    have HSP := hidM hsep
    have HW := hidM hw
    have HQ := hidM hq'
    have HS := hidM hsum
    have HN := hidM hnum
    have HBR := hidM hbr
    have c0 := hw.c0
    have c1 := hw.c1
    have c2 := hw.c2
    have f0 := hw.fz 0
    have f1 := hw.fz 1
    have f2 := hw.fz 2
    have hF' : F'.length ≤ 1000000010 := by omega
    clear hw hq' hsum hnum hbr hsep HW0 HB0 HP0
    by_cases h8 : h' < 8
    · go_wp2
      exact bodyPost_end (results_none Try.results23 _ _ _) rfl ⟨rfl, v', F', q', h', HW.out, h8, HQ.out, HS.out, by rw [HN.out, HZ.out, HY.out], HBR.out, HSP.out⟩
    · obtain ⟨i0, hi, hz0, hz1, hz2⟩ := info_parts Try.info5
      have HBN : Hid (b < wr.heap.size) := HW.out.lt
      have HNE : Hid (some b ≠ v'.ownBlock) := fun he => by have := (World.ownsRow.lt HW.out.own b he.symm).1; omega
      have n0 := World.new_ne wr _ c0
      have n1 := World.new_ne wr _ c1
      have k00 : ∀ o, (wr.alloc o).cell? ⟨b, 0, none⟩ = some v' := fun o => (World.cell?_alloc_some wr _ o (by rw [c0]; rfl)).trans c0
      have k01 : ∀ o, (wr.alloc o).cell? ⟨b, 1, none⟩ = some (.int .u64 (q' : Int)) := fun o => (World.cell?_alloc_some wr _ o (by rw [c1]; rfl)).trans c1
      go_wp2
      go_region_law ((refine step_append_lies _ rfl (.tmp 49) (.tmp 55) 44 (by rfl) (b + 1) 5 i0 (.int .u8 0) 1 1 Try.underlying44 hi hz0 hz1 hz2 rfl (by decide) v' F'.length (bytesV F') (by rfl) (World.ownsRow.alloc HW.out.own _) ⟨wr.heap.size, 0, none⟩ 1 1 [.int .u8 ((q' : Int) % 256)] (by rfl) (by rfl) (World.news_of_block (heap_alloc_new _ _)) (by intro u hu; simp at hu; subst hu; rfl) (by decide) (by unfold maxLen; omega) (by omega) (by have := HBN.out; simp; omega) (wr.heap.size + 1) (by simp) ?_; intro g cap w1 hown hgrow hat hlt; have hb1 := (far_block hgrow HBN.out HNE.out).trans HW.out.box; have k0 : w1.cell? ⟨b, 0, none⟩ = some v' := (by rw [cell_of_row w1 b _ _ 47 (0, 0) hb1]; rfl); have k1 := frozen_of_row w1 b 0 _ 47 hb1; have HP := hidM (HW.out.push hgrow hown); have HPB := hidM (HW.out.pushBelow (g := g) (cap := cap) hgrow HBR.out); have HSP1 := hidM (HSP.out.push (n := F'.length + 1) (cap := cap) hgrow hat); clear hown hgrow hat hlt hb1))
      all_goals
        clear c0 c1 c2 f0 f1 f2 k0 k1 n0 n1 k00 k01
        generalize w1.setCell ⟨b, 0, none⟩ (.slice (some ⟨g, 0, none⟩) (F'.length + 1) cap) = w2 at *
        have c1 := HP.out.c1
        have c2 := HP.out.c2
        have f1 := HP.out.fz 1
        have f2 := HP.out.fz 2
        have HP2 : Hid (WBox ((w2.setCell ⟨b, 1, none⟩ (.int .u64 ((q' / 256 : Nat) : Int))).setCell ⟨b, 2, none⟩ (.int .i64 ((h' - 8 : Nat) : Int))) b (.slice (some ⟨g, 0, none⟩) (F'.length + 1) cap) (F' ++ [UInt8.ofNat (q' % 256)]) (q' / 256) (h' - 8)) := (HP.out.set1 (q' / 256)).set2 (h' - 8)
        have HM2 := HP2.out.held
        have e1 : ((q' / 256 : Nat) : Int) = (q' : Int) / 256 := by omega
        have e2 : ((h' - 8 : Nat) : Int) = (h' : Int) - 8 := by omega
        have HQ2 : Hid (q' / 256 < 2 ^ (h' - 8)) := by
          unfold Hid
          refine Nat.div_lt_of_lt_mul ?_
          have : 2 ^ h' = 256 * 2 ^ (h' - 8) := by rw [show (256 : Nat) = 2 ^ 8 by decide, ← Nat.pow_add]; congr 1; omega
          rw [← this]; exact HQ.out
        have HM := hidM HM2
        have HM0 := hidM HW.out.held
        rw [e1, e2] at HP2 HM
        clear e1 e2 HM2
        go_wp2
        go_roundw
        case rel => exact ⟨_, _, _, _, HP2.out, HQ2.out, by omega, by have := HS.out; simp; omega, by rw [wnum_step]; exact HN.out, below_set (below_set HPB.out (Nat.le_refl b)) (Nat.le_refl b), (HSP1.out.setCell 1 _).setCell 2 _⟩
        case measure => rw [HM.out, HM0.out]; omega


/-- What a writer has, beside blocks that are not its own. -/
def WAtG (w : World) (b N T : Nat) (G : List (Nat × Obj)) : Prop := ∃ v F q h, WBox w b v F q h ∧ h < 8 ∧ q < 2 ^ h ∧ 8 * F.length + h = T ∧ WNum F q = N ∧ ∀ p ∈ G, some p.1 ≠ v.ownBlock ∧ w.heap[p.1]? = some p.2 ∧ p.1 ≠ b
theorem wbits_g (b N T x n : Nat) (G : List (Nat × Obj)) (w : World) (hb : WAtG w b N T G) (hT : T ≤ 1000000000) (hn : n ≤ 32) (hx : x < 4294967296) :
    Calls Try.prog 23 #[.pointer (some ⟨b, 0, none⟩), .int .u32 x, .int .i64 n] w fun e w' => e = .returned (.tuple #[]) ∧ WAtG w' b (N + 2 ^ T * (x % 2 ^ n)) (T + n) G ∧ Below b w w' := by
  obtain ⟨v, F, q, h, hw, hh, hq, ht, hN, hG⟩ := hb
  refine (wbits_sep b v F q h x n w hw (by omega) hh hq hn hx).mono ?_
  rintro e w' ⟨rfl, v', F', q', h', hw', hh', hq', ht', hN', hbel, hsep⟩
  refine ⟨rfl, ⟨v', F', q', h', hw', hh', hq', by omega, by rw [hN', wnum_put F q h _ T ht, hN], fun p hp => ?_⟩, hbel⟩
  obtain ⟨h1, h2, h3⟩ := hG p hp
  obtain ⟨s1, s2, s3⟩ := hsep p.1 (Array.getElem?_eq_some_iff.1 h2).1 h3 h1
  exact ⟨s2, s1.trans h2, h3⟩

set_option maxHeartbeats 1000000 in
theorem wcode_g (b N T x n : Nat) (G : List (Nat × Obj)) (w : World) (hb : WAtG w b N T G) (hT : T ≤ 1000000000) (hn : n ≤ 32) (hn1 : 1 ≤ n) (hx : x < 4294967296) :
    Calls Try.prog 25 #[.pointer (some ⟨b, 0, none⟩), .int .u32 x, .int .i64 n] w fun e w' => e = .returned (.tuple #[]) ∧ WAtG w' b (N + 2 ^ T * (rev32 x / 2 ^ (32 - n))) (T + n) G ∧ Below b w w' := by
  have HB := hidM hb
  obtain ⟨r, hr⟩ : ∃ r, r + n = 32 := ⟨32 - n, by omega⟩
  have HRN := hidM hr
  have hsub : (32 : Int) - (n : Int) = (r : Int) := by omega
  have hrl := rev32_lt x hx
  have HQ : Hid (rev32 x / 2 ^ (32 - n) = rev32 x / 2 ^ r) := by unfold Hid; rw [show 32 - n = r by omega]
  have HLT : Hid (rev32 x / 2 ^ r < 4294967296) := Nat.lt_of_le_of_lt (Nat.div_le_self _ _) hrl
  have HMD : Hid (rev32 x / 2 ^ r % 2 ^ n = rev32 x / 2 ^ r) := by
    refine Nat.mod_eq_of_lt (Nat.div_lt_of_lt_mul ?_)
    rw [← Nat.pow_add, hr]
    exact hrl
  have r32 : r < 32 := by omega
  have hdv : ((rev32 x : Nat) : Int) / 2 ^ r = ((rev32 x / 2 ^ r : Nat) : Int) := by simp
  rw [HQ.out]
  clear hb hr HQ
  generalize rev32 x / 2 ^ r = V at *
  go_enter Try.func25, Try.ntmps25
  go_wp2_with fail
  refine (rev_any x w hx).mono ?_
  rintro e w1 ⟨rfl, rfl⟩
  generalize rev32 x = R at *
  go_wp2_with fail
  refine (wbits_g _ N T V n G _ HB.out hT hn HLT.out).mono ?_
  rintro e w2 ⟨rfl, hw2, hb2⟩
  rw [HMD.out] at hw2
  have HW2 := hidM hw2
  have HB2 := hidM hb2
  clear hw2 hb2
  go_wp2
  exact bodyPost_end (results_none Try.results25 _ _ _) rfl ⟨rfl, HW2.out, HB2.out⟩
set_option maxHeartbeats 1000000 in
theorem walign_g (b N T : Nat) (G : List (Nat × Obj)) (w : World) (hb : WAtG w b N T G) (hT : T ≤ 1000000000) :
    Calls Try.prog 27 #[.pointer (some ⟨b, 0, none⟩)] w fun e w' => e = .returned (.tuple #[]) ∧ WAtG w' b N ((T + 7) / 8 * 8) G ∧ Below b w w' := by
  have HB := hidM hb
  obtain ⟨v, F, q, h, hw, hh, hq, ht, hN, hne⟩ := hb
  have c2 := hw.c2
  have HT := hidM ht
  clear hN hq ht hne
  by_cases h0 : h = 0
  · subst h0
    have HE : Hid ((T + 7) / 8 * 8 = T) := by have := HT.out; unfold Hid; omega
    go_enter Try.func27, Try.ntmps27
    go_wp2
    exact bodyPost_end (results_none Try.results27 _ _ _) rfl ⟨rfl, by rw [HE.out]; exact HB.out, Below.refl _ _⟩
  · obtain ⟨r, hr⟩ : ∃ r, r + h = 8 := ⟨8 - h, by omega⟩
    have hsub : (8 : Int) - (h : Int) = (r : Int) := by omega
    have HE : Hid ((T + 7) / 8 * 8 = T + r) := by have := HT.out; unfold Hid; omega
    have hpos : 0 < h := by omega
    clear hr
    go_enter Try.func27, Try.ntmps27
    go_wp2_with fail
    refine (wbits_g _ N T 0 r G _ HB.out hT (by omega) (by decide)).mono ?_
    rintro e w2 ⟨rfl, hw2, hb2⟩
    rw [Nat.zero_mod, Nat.mul_zero, Nat.add_zero] at hw2
    have HW2 := hidM hw2
    have HB2 := hidM hb2
    clear hw2 hb2
    go_wp2
    exact bodyPost_end (results_none Try.results27 _ _ _) rfl ⟨rfl, by rw [HE.out]; exact HW2.out, HB2.out⟩

set_option maxHeartbeats 1000000 in
theorem wbytes_g (b N T : Nat) (s : ByteArray) (G : List (Nat × Obj)) (w : World) (hb : WAtG w b N T G) (hH : ∀ p ∈ G, ∀ cur fr, p.2 ≠ .cells cur 5 fr) (hT : T ≤ 1000000000) (hs : s.size ≤ 1000000000) :
    Calls Try.prog 28 #[.pointer (some ⟨b, 0, none⟩), .string s] w fun e w' => e = .returned (.tuple #[]) ∧ WAtG w' b (N + 2 ^ ((T + 7) / 8 * 8) * le s.data.toList) ((T + 7) / 8 * 8 + 8 * s.size) G ∧ Below b w w' := by
  obtain ⟨i0, hi, hz0, hz1, hz2⟩ := info_parts Try.info5
  go_enter Try.func28, Try.ntmps28
  go_wp2_with fail
  refine (walign_g b N T G w hb hT).mono ?_
  rintro e w1 ⟨rfl, hw1, hb1⟩
  obtain ⟨v, F, q, h, hw, hh, hq, ht, hN, hnv⟩ := hw1
  have HNV := hidM hnv
  have h0 : h = 0 := by omega
  subst h0
  have q0 : q = 0 := by simpa using hq
  subst q0
  have HW := hidM hw
  have HT := hidM ht
  have HN := hidM hN
  have HB1 := hidM hb1
  have c0 := hw.c0
  have HFL : Hid (F.length ≤ 1000000000) := by unfold Hid; omega
  have HLT := hidM hw.lt
  clear hw ht hN hb1 hb hq hh hnv
  go_wp2_with (first
    | (at_builtin; refine Lib.wpList_append_own_string _ rfl _ _ 44 9 rfl (b + 1) 5 i0 Try.underlying44 Try.underlying9 hi hz0 hz1 hz2 _ _ _ rfl HW.out.own s rfl ?c1 ?c2 ?c3 ?_))
  case c1 => have := HFL.out; unfold maxLen; omega
  case c2 => have := HFL.out; omega
  case c3 => have := HLT.out; omega
  intro v' w2 hown hgrow _
  obtain ⟨a', n', c', rfl⟩ : ∃ a n c, v' = .slice a n c := by
    rcases hown.2 with ⟨h1, _⟩ | ⟨g, cap, cur, h1, _⟩
    · exact ⟨_, _, _, h1⟩
    · exact ⟨_, _, _, h1⟩
  have hl : s.size = s.data.toList.length := by simp
  have hW2 := HW.out.put0 (G := s.data.toList) hgrow (by rw [← hl]; exact hown)
  have HW2 := hidM hW2
  have HB2 := hidM (HW.out.put0Below (v' := .slice a' n' c') hgrow HB1.out)
  have hne : some b ≠ v.ownBlock := fun he => by have := (World.ownsRow.lt HW.out.own b he.symm).1; omega
  have hbx := (hgrow.block b HLT.out hne).trans HW.out.box
  have k0 : w2.cell? ⟨b, 0, none⟩ = some v := by rw [cell_of_row w2 b _ _ 47 (0, 0) hbx]; rfl
  have k1 := frozen_of_row w2 b 0 _ 47 hbx
  have HG2 : Hid (∀ p ∈ G, some p.1 ≠ (Value.slice a' n' c').ownBlock ∧ (w2.setCell ⟨b, 0, none⟩ (.slice a' n' c')).heap[p.1]? = some p.2 ∧ p.1 ≠ b) := fun p hp => by
    obtain ⟨h1, h2, h3⟩ := HNV.out p hp
    have h4 : (w2.setCell ⟨b, 0, none⟩ (.slice a' n' c')).heap[p.1]? = some p.2 :=
      (Below.heap_setCell w2 ⟨b, 0, none⟩ _ p.1 h3).trans ((hgrow.block p.1 (Array.getElem?_eq_some_iff.1 h2).1 h1).trans h2)
    refine ⟨fun he => ?_, h4, h3⟩
    rcases HW2.out.own.2 with ⟨h5, _⟩ | ⟨g', cp, cur, h5, _, h6, _⟩
    · rw [h5] at he; simp [Value.ownBlock] at he
    · rw [h5] at he
      simp [Value.ownBlock] at he
      rw [← he, h4] at h6
      exact hH p hp cur (0, 0) (by simpa using h6)
  clear hown hgrow hne hbx hl hW2 c0
  go_wp2
  refine bodyPost_end (results_none Try.results28 _ _ _) rfl ⟨rfl, ⟨_, F ++ s.data.toList, 0, 0, HW2.out, by decide, by decide, ?_, ?_, HG2.out⟩, HB2.out⟩
  · have := HT.out
    simp
    omega
  · have h1 := HN.out
    have h2 := HT.out
    unfold WNum at h1 ⊢
    rw [Nat.mul_zero, Nat.add_zero] at h1 ⊢
    rw [le_app, h1, ← h2, pow256, Nat.add_zero]
end Go.Proofs.Ytklocjmhembbfaa
