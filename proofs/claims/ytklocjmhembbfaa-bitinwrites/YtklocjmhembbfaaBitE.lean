/-
  Walks: the document's Low and Turn; Reverse32; the Writer's Code, Align, Bytes.
-/
import Derived.Test.YtklocjmhembbfaaBitD
import Derived.Test.YtklocjmhembbfaaRefC
import Derived.Test.YtklocjmhembbfaaRevM
import Derived.Lib.AppendStr
namespace Go.Proofs.Ytklocjmhembbfaa
open Go.RowKit

theorem low_step (x i : Nat) : x % 2 ^ (i + 1) = x % 2 ^ i + 2 ^ i * (x / 2 ^ i % 2) := by
  rw [Nat.pow_succ, Nat.mod_mul]
theorem low_bit (y : Nat) : (((y : Int) % 2 == 1) : Bool) = (y % 2 == 1) := by
  rcases Nat.mod_two_eq_zero_or_one y with h | h
  · have : (y : Int) % 2 = 0 := by omega
    rw [h, this]; rfl
  · have : (y : Int) % 2 = 1 := by omega
    rw [h, this]; rfl
theorem toNat_mod2 (y : Nat) : (y % 2 == 1).toNat = y % 2 := by
  rcases Nat.mod_two_eq_zero_or_one y with h | h <;> rw [h] <;> rfl

set_option maxHeartbeats 1000000 in
theorem low_any (x n : Nat) (w : World) (hx : x < 4294967296) (hn : n ≤ 1000000) :
    Calls Try.prog 24 #[.int .u32 x, .int .i64 n] w fun e w' => (∃ v l, e = .returned v ∧ OwnS w' w.heap.size v l ∧ l.length = n ∧ nb l = x % 2 ^ n) ∧ Below w.heap.size w w' := by
  obtain ⟨i0, hi, hz0, hz1, hz2⟩ := info_parts Try.info4
  have HST := hidM (ownS_empty w)
  have HB0 : Hid (Below w.heap.size w (w.alloc (.cells #[] 4))) := (Below.refl _ _).alloc (Nat.le_refl _) _
  go_enter Try.func24, Try.ntmps24
  go_wp2
  go_loopw [0, 5, 6] (fun xv v i wr => ∃ (k y : Nat) (P : List Bool), k ≤ n ∧ i = .int .i64 k ∧ y = x / 2 ^ k ∧ xv = .int .u32 y ∧ P.length = k ∧ nb P = x % 2 ^ k ∧ OwnS wr w.heap.size v P ∧ Below w.heap.size w wr) (fun _ _ i _ => n - (intOf i).toNat)
  case atStart => exact ⟨0, x, [], Nat.zero_le _, rfl, by simp, rfl, rfl, by simp [nb, Nat.mod_one], HST.out, HB0.out⟩
  case round =>
    obtain ⟨k, y, P, hk, rfl, hy, rfl, hP, hN, hown, hbr⟩ := hrel
    have HY := hidM hy
    have HP := hidM hP
    have HN := hidM hN
    have HO := hidM hown
    have HB := hidM hbr
    have HBS := hidM hbr.size
    have hyx : y < 4294967296 := by rw [hy]; exact Nat.lt_of_le_of_lt (Nat.div_le_self _ _) hx
    clear hy hP hN hown hbr HST HB0
    by_cases hlt : k < n
    · have HLB := hidM (low_bit y)
      have hm : (y : Int).tmod 2 = (y : Int) % 2 := Int.tmod_eq_emod_of_nonneg (by omega)
      go_wp2_with (first
            | (at_builtin; refine wpList_append_own _ rfl _ _ 26 rfl w.heap.size 4 i0 (.bool false) 1 1 Try.underlying26 hi hz0 hz1 hz2 rfl (by decide) _ _ _ rfl (World.ownsRow.alloc HO.out.1 _) ⟨wr.heap.size, 0, none⟩ 1 1 [.bool ((y : Int) % 2 == 1)] ?c0 rfl ?c1 ?c2 ?c3 ?c4 ?c5 ?_))
      case c0 => rfl
      case c1 => exact cell_new_bit wr _
      case c2 => intro u hu; simp at hu; subst hu; rfl
      case c3 => rw [HP.out]; unfold maxLen; omega
      case c4 => rw [HP.out]; omega
      case c5 => have := HBS.out; simp; omega
      intro v' w1 hown' hgrow _
      rw [HLB.out] at hown'
      have HO1 := hidM (ownS_push hown')
      have HB1 := hidM (belowL_push HO.out.1 HB.out HBS.out hgrow)
      have HY2 : Hid (y / 2 = x / 2 ^ (k + 1)) := by unfold Hid; rw [HY.out, Nat.pow_succ, Nat.div_div_eq_div_mul]
      have HN2 : Hid (nb (P ++ [(y % 2 == 1)]) = x % 2 ^ (k + 1)) := by
        unfold Hid; rw [nb_snoc, HP.out, HN.out, low_step, toNat_mod2, ← HY.out]
      clear hown' hgrow hm
      go_wp2
      go_roundw
      case rel => exact ⟨k + 1, y / 2, _, by omega, by go_num, HY2.out, val_int (by omega), by simp [HP.out], HN2.out, HO1.out, HB1.out⟩
      case measure => simp [intOf]; omega
    · have HK : Hid (k = n) := by unfold Hid; omega
      go_wp2
      go_ret
      exact ⟨⟨_, P, rfl, HO.out, by rw [HP.out, HK.out], by rw [HN.out, HK.out]⟩, HB.out⟩

set_option maxHeartbeats 1000000 in
theorem turn_any (a : Option Addr) (cap : Nat) (l : List Bool) (w : World) (hl : l.length ≤ 1000000000) (h : BAt w a l) :
    Calls Try.prog 26 #[.slice a l.length cap] w fun e w' => (∃ v, e = .returned v ∧ OwnS w' w.heap.size v l.reverse) ∧ Below w.heap.size w w' := by
  obtain ⟨i0, hi, hz0, hz1, hz2⟩ := info_parts Try.info4
  have H := hidM h
  clear h
  have HST := hidM (ownS_empty w)
  have HB0 : Hid (Below w.heap.size w (w.alloc (.cells #[] 4))) := (Below.refl _ _).alloc (Nat.le_refl _) _
  obtain ⟨L, hL⟩ : ∃ L, L = l.length := ⟨_, rfl⟩
  have HL := hidM hL
  rw [← hL] at hl
  rw [← hL]
  clear hL
  go_enter Try.func26, Try.ntmps26
  go_wp2
  go_loopw [3, 4] (fun v i wr => ∃ k : Nat, k ≤ L ∧ i = .int .i64 ((k : Int) - 1) ∧ OwnS wr w.heap.size v (l.drop k).reverse ∧ Below w.heap.size w wr) (fun _ i _ => (intOf i + 1).toNat)
  case atStart => exact ⟨L, Nat.le_refl _, rfl, by rw [List.drop_of_length_le (by rw [HL.out]; exact Nat.le_refl _)]; exact HST.out, HB0.out⟩
  case round =>
    obtain ⟨k, hk, rfl, hown, hbr⟩ := hrel
    have HO := hidM hown
    have HB := hidM hbr
    have HBS := hidM hbr.size
    clear hown hbr HST HB0
    rcases k with _ | k
    · go_wp2
      go_ret
      exact ⟨⟨_, rfl, HO.out⟩, HB.out⟩
    · have hkl : k < l.length := by rw [← HL.out]; omega
      have e1 : ((k + 1 : Nat) : Int) - 1 = (k : Int) := by omega
      simp only [e1]
      clear e1
      obtain ⟨b, off, rfl, hc⟩ := (H.out.below HB.out).get k hkl
      have HS : Hid ((l.drop k).reverse = (l.drop (k + 1)).reverse ++ [l[k]]) := by unfold Hid; rw [List.drop_eq_getElem_cons hkl, List.reverse_cons]
      have HPL : Hid ((l.drop (k + 1)).reverse.length ≤ 1000000000) := by unfold Hid; simp; rw [← HL.out]; omega
      have hkL : k < L := by omega
      generalize l[k] = c at *
      generalize (l.drop (k + 1)).reverse = P at *
      go_wp2_with (first
            | (at_builtin; refine wpList_append_own _ rfl _ _ 26 rfl w.heap.size 4 i0 (.bool false) 1 1 Try.underlying26 hi hz0 hz1 hz2 rfl (by decide) _ _ _ rfl (World.ownsRow.alloc HO.out.1 _) ⟨wr.heap.size, 0, none⟩ 1 1 [.bool c] ?c0 rfl ?c1 ?c2 ?c3 ?c4 ?c5 ?_))
      case c0 => rfl
      case c1 => exact cell_new_bit wr _
      case c2 => intro u hu; simp at hu; subst hu; rfl
      case c3 => have := HPL.out; unfold maxLen; omega
      case c4 => have := HPL.out; omega
      case c5 => have := HBS.out; simp; omega
      intro v' w1 hown' hgrow _
      have HO1 := hidM (ownS_push hown')
      have HB1 := hidM (belowL_push HO.out.1 HB.out HBS.out hgrow)
      clear hown' hgrow
      go_wp2
      go_roundw
      case rel => exact ⟨k, by omega, by go_num, by rw [HS.out]; exact HO1.out, HB1.out⟩
      case measure => simp [intOf]

theorem swp_u32 (s m x : Nat) (hx : x < 4294967296) (hm : m < 4294967296) (p : Int) (hp : p = 2 ^ s) :
    bits .or .u32 (bits .and .u32 ((x : Int) / p) (m : Int)) (bits .and .u32 (x : Int) (m : Int) * p % 4294967296) = ((swp s m x : Nat) : Int) := by
  subst hp
  have e1 : (x : Int) / 2 ^ s = ((x / 2 ^ s : Nat) : Int) := by simp
  have h1 : x / 2 ^ s < 4294967296 := Nat.lt_of_le_of_lt (Nat.div_le_self _ _) hx
  rw [e1, u32_and_nat _ _ h1 hm, u32_and_nat _ _ hx hm]
  have e2 : (((x &&& m : Nat) : Int) * 2 ^ s % 4294967296) = (((x &&& m) * 2 ^ s % 4294967296 : Nat) : Int) := by simp
  rw [e2, u32_or_nat _ _ (Nat.lt_of_le_of_lt Nat.and_le_left h1) (Nat.mod_lt _ (by decide))]
  rfl
theorem swp16_eq (x : Nat) (hx : x < 4294967296) : swp 16 65535 x = x / 65536 ||| x * 65536 % 4294967296 := by
  have h1 : x / 2 ^ 16 &&& 65535 = x / 65536 := by
    rw [show (65535 : Nat) = 2 ^ 16 - 1 by decide, Nat.and_two_pow_sub_one_eq_mod]; omega
  have h2 : x &&& 65535 = x % 65536 := by
    rw [show (65535 : Nat) = 2 ^ 16 - 1 by decide, Nat.and_two_pow_sub_one_eq_mod]
  have h3 : x % 65536 * 2 ^ 16 % 4294967296 = x * 65536 % 4294967296 := by omega
  unfold swp
  rw [h1, h2, h3]
theorem swp16 (x : Nat) (hx : x < 4294967296) : bits .or .u32 ((x : Int) / 65536) ((x : Int) * 65536 % 4294967296) = ((swp 16 65535 x : Nat) : Int) := by
  have e1 : (x : Int) / 65536 = ((x / 65536 : Nat) : Int) := by simp
  have e2 : (x : Int) * 65536 % 4294967296 = ((x * 65536 % 4294967296 : Nat) : Int) := by simp
  rw [e1, e2, u32_or_nat _ _ (by omega) (Nat.mod_lt _ (by decide)), swp16_eq x hx]

set_option maxHeartbeats 1000000 in
theorem revBytes_any (x : Nat) (w : World) (hx : x < 4294967296) :
    Calls Try.prog 44 #[.int .u32 x] w fun e w' => e = .returned (.int .u32 ((swp 16 65535 (swp 8 16711935 x) : Nat) : Int)) ∧ w' = w := by
  have h8 := swp_u32 8 16711935 x hx (by decide) 256 rfl
  have l8 := swp_lt 8 16711935 x hx
  generalize swp 8 16711935 x = y at *
  have h16 := swp16 y l8
  generalize swp 16 65535 y = z at *
  simp only [show ((16711935 : Nat) : Int) = 16711935 from rfl] at h8
  go_enter Try.func44, Try.ntmps44
  go_wp2
  go_ret
  exact ⟨rfl, rfl⟩
set_option maxHeartbeats 1000000 in
theorem rev_any (x : Nat) (w : World) (hx : x < 4294967296) :
    Calls Try.prog 38 #[.int .u32 x] w fun e w' => e = .returned (.int .u32 ((rev32 x : Nat) : Int)) ∧ w' = w := by
  have HR : Hid (rev32 x = swp 16 65535 (swp 8 16711935 (swp 4 252645135 (swp 2 858993459 (swp 1 1431655765 x))))) := rfl
  have h1 := swp_u32 1 1431655765 x hx (by decide) 2 rfl
  have l1 := swp_lt 1 1431655765 x hx
  generalize swp 1 1431655765 x = y1 at *
  have h2 := swp_u32 2 858993459 y1 l1 (by decide) 4 rfl
  have l2 := swp_lt 2 858993459 y1 l1
  generalize swp 2 858993459 y1 = y2 at *
  have h4 := swp_u32 4 252645135 y2 l2 (by decide) 16 rfl
  have l4 := swp_lt 4 252645135 y2 l2
  generalize swp 4 252645135 y2 = y4 at *
  simp only [show ((1431655765 : Nat) : Int) = 1431655765 from rfl, show ((858993459 : Nat) : Int) = 858993459 from rfl, show ((252645135 : Nat) : Int) = 252645135 from rfl] at h1 h2 h4
  go_enter Try.func38, Try.ntmps38
  go_wp2_with fail
  refine (revBytes_any y4 w l4).mono ?_
  rintro e w1 ⟨rfl, rfl⟩
  rw [← HR.out]
  go_wp2
  go_ret
  exact ⟨rfl, rfl⟩

set_option maxHeartbeats 1000000 in
theorem wcode_any (b N T x n : Nat) (w : World) (hb : WAt w b N T) (hT : T ≤ 1000000000) (hn : n ≤ 32) (hn1 : 1 ≤ n) (hx : x < 4294967296) :
    Calls Try.prog 25 #[.pointer (some ⟨b, 0, none⟩), .int .u32 x, .int .i64 n] w fun e w' => e = .returned (.tuple #[]) ∧ WAt w' b (N + 2 ^ T * (rev32 x / 2 ^ (32 - n))) (T + n) ∧ Below b w w' := by
  have HB := hidM hb
  obtain ⟨r, hr⟩ : ∃ r, r + n = 32 := ⟨32 - n, by omega⟩
  have HRN := hidM hr
  have hsub : (32 : Int) - (n : Int) = (r : Int) := by omega
  have hrl := rev32_lt x hx
  have HQ : Hid (rev32 x / 2 ^ (32 - n) = rev32 x / 2 ^ r) := by unfold Hid; rw [show 32 - n = r by omega]
  have HLT : Hid (rev32 x / 2 ^ r < 4294967296) := Nat.lt_of_le_of_lt (Nat.div_le_self _ _) hrl
  have HMD : Hid (rev32 x / 2 ^ r % 2 ^ n = rev32 x / 2 ^ r) := by
    refine Nat.mod_eq_of_lt (Nat.div_lt_of_lt_mul ?_)
    rw [← Nat.pow_add, hr]
    exact hrl
  have r32 : r < 32 := by omega
  have hdv : ((rev32 x : Nat) : Int) / 2 ^ r = ((rev32 x / 2 ^ r : Nat) : Int) := by simp
  rw [HQ.out]
  clear hb hr HQ
  generalize rev32 x / 2 ^ r = V at *
  go_enter Try.func25, Try.ntmps25
  go_wp2_with fail
  refine (rev_any x w hx).mono ?_
  rintro e w1 ⟨rfl, rfl⟩
  generalize rev32 x = R at *
  go_wp2_with fail
  refine (wbits_at _ N T V n _ HB.out hT hn HLT.out).mono ?_
  rintro e w2 ⟨rfl, hw2, hb2⟩
  rw [HMD.out] at hw2
  have HW2 := hidM hw2
  have HB2 := hidM hb2
  clear hw2 hb2
  go_wp2
  exact bodyPost_end (results_none Try.results25 _ _ _) rfl ⟨rfl, HW2.out, HB2.out⟩
set_option maxHeartbeats 400000 in
theorem wcode_bad (b x : Nat) (n : Int) (w : World) (hn : n < 1 ∨ 32 < n) :
    Calls Try.prog 25 #[.pointer (some ⟨b, 0, none⟩), .int .u32 x, .int .i64 n] w fun e w' => e = .returned (.tuple #[]) ∧ w' = w := by
  go_enter Try.func25, Try.ntmps25
  rcases hn with hn | hn
  · go_wp2
    exact bodyPost_ret (results_none Try.results25 _ _ _) rfl ⟨rfl, rfl⟩
  · go_wp2
    exact bodyPost_ret (results_none Try.results25 _ _ _) rfl ⟨rfl, rfl⟩

set_option maxHeartbeats 1000000 in
theorem walign_any (b N T : Nat) (w : World) (hb : WAt w b N T) (hT : T ≤ 1000000000) :
    Calls Try.prog 27 #[.pointer (some ⟨b, 0, none⟩)] w fun e w' => e = .returned (.tuple #[]) ∧ WAt w' b N ((T + 7) / 8 * 8) ∧ Below b w w' := by
  have HB := hidM hb
  obtain ⟨v, F, q, h, hw, hh, hq, ht, hN⟩ := hb
  have c2 := hw.c2
  have HT := hidM ht
  clear hN hq ht
  by_cases h0 : h = 0
  · subst h0
    have HE : Hid ((T + 7) / 8 * 8 = T) := by have := HT.out; unfold Hid; omega
    go_enter Try.func27, Try.ntmps27
    go_wp2
    exact bodyPost_end (results_none Try.results27 _ _ _) rfl ⟨rfl, by rw [HE.out]; exact HB.out, Below.refl _ _⟩
  · obtain ⟨r, hr⟩ : ∃ r, r + h = 8 := ⟨8 - h, by omega⟩
    have hsub : (8 : Int) - (h : Int) = (r : Int) := by omega
    have HE : Hid ((T + 7) / 8 * 8 = T + r) := by have := HT.out; unfold Hid; omega
    have hpos : 0 < h := by omega
    clear hr
    go_enter Try.func27, Try.ntmps27
    go_wp2_with fail
    refine (wbits_at _ N T 0 r _ HB.out hT (by omega) (by decide)).mono ?_
    rintro e w2 ⟨rfl, hw2, hb2⟩
    rw [Nat.zero_mod, Nat.mul_zero, Nat.add_zero] at hw2
    have HW2 := hidM hw2
    have HB2 := hidM hb2
    clear hw2 hb2
    go_wp2
    exact bodyPost_end (results_none Try.results27 _ _ _) rfl ⟨rfl, by rw [HE.out]; exact HW2.out, HB2.out⟩

theorem WBox.put0 {w w1 : World} {b : Nat} {v v' : Value} {F G : List UInt8} {q h : Nat} (x : WBox w b v F q h) (hg : w.grownBy w1 v.ownBlock)
    (hown : w1.ownsRow (b + 1) 5 1 v' (F.length + G.length) (bytesV F ++ bytesV G)) :
    WBox (w1.setCell ⟨b, 0, none⟩ v') b v' (F ++ G) q h := by
  have hne : some b ≠ v.ownBlock := fun he => by have := (World.ownsRow.lt x.own b he.symm).1; omega
  have hb := (hg.block b x.lt hne).trans x.box
  refine ⟨by rw [heap_setCell_same w1 b _ _ 47 _ hb]; rfl, ?_⟩
  refine ownsRow_setCell_below ?_ (Nat.lt_succ_self b) _
  rw [← bytesV_app, ← List.length_append] at hown
  exact hown
theorem WBox.put0Below {w w0 w1 : World} {b : Nat} {v v' : Value} {F : List UInt8} {q h : Nat} (x : WBox w b v F q h) (hg : w.grownBy w1 v.ownBlock) (hb : Below b w0 w) : Below b w0 (w1.setCell ⟨b, 0, none⟩ v') :=
  below_set (hb.grown hg (Nat.le_of_lt x.lt) (fun k hk => by have := (World.ownsRow.lt x.own k hk).1; omega)) (Nat.le_refl b)

set_option maxHeartbeats 1000000 in
theorem wbytes_any (b N T : Nat) (s : ByteArray) (w : World) (hb : WAt w b N T) (hT : T ≤ 1000000000) (hs : s.size ≤ 1000000000) :
    Calls Try.prog 28 #[.pointer (some ⟨b, 0, none⟩), .string s] w fun e w' => e = .returned (.tuple #[]) ∧ WAt w' b (N + 2 ^ ((T + 7) / 8 * 8) * le s.data.toList) ((T + 7) / 8 * 8 + 8 * s.size) ∧ Below b w w' := by
  obtain ⟨i0, hi, hz0, hz1, hz2⟩ := info_parts Try.info5
  go_enter Try.func28, Try.ntmps28
  go_wp2_with fail
  refine (walign_any b N T w hb hT).mono ?_
  rintro e w1 ⟨rfl, hw1, hb1⟩
  obtain ⟨v, F, q, h, hw, hh, hq, ht, hN⟩ := hw1
  have h0 : h = 0 := by omega
  subst h0
  have q0 : q = 0 := by simpa using hq
  subst q0
  have HW := hidM hw
  have HT := hidM ht
  have HN := hidM hN
  have HB1 := hidM hb1
  have c0 := hw.c0
  have HFL : Hid (F.length ≤ 1000000000) := by unfold Hid; omega
  have HLT := hidM hw.lt
  clear hw ht hN hb1 hb hq hh
  go_wp2_with (first
    | (at_builtin; refine Lib.wpList_append_own_string _ rfl _ _ 44 9 rfl (b + 1) 5 i0 Try.underlying44 Try.underlying9 hi hz0 hz1 hz2 _ _ _ rfl HW.out.own s rfl ?c1 ?c2 ?c3 ?_))
  case c1 => have := HFL.out; unfold maxLen; omega
  case c2 => have := HFL.out; omega
  case c3 => have := HLT.out; omega
  intro v' w2 hown hgrow _
  obtain ⟨a', n', c', rfl⟩ : ∃ a n c, v' = .slice a n c := by
    rcases hown.2 with ⟨h1, _⟩ | ⟨g, cap, cur, h1, _⟩
    · exact ⟨_, _, _, h1⟩
    · exact ⟨_, _, _, h1⟩
  have hl : s.size = s.data.toList.length := by simp
  have hW2 := HW.out.put0 (G := s.data.toList) hgrow (by rw [← hl]; exact hown)
  have HW2 := hidM hW2
  have HB2 := hidM (HW.out.put0Below (v' := .slice a' n' c') hgrow HB1.out)
  have hne : some b ≠ v.ownBlock := fun he => by have := (World.ownsRow.lt HW.out.own b he.symm).1; omega
  have hbx := (hgrow.block b HLT.out hne).trans HW.out.box
  have k0 : w2.cell? ⟨b, 0, none⟩ = some v := by rw [cell_of_row w2 b _ _ 47 (0, 0) hbx]; rfl
  have k1 := frozen_of_row w2 b 0 _ 47 hbx
  clear hown hgrow hne hbx hl hW2 c0
  go_wp2
  refine bodyPost_end (results_none Try.results28 _ _ _) rfl ⟨rfl, ⟨_, F ++ s.data.toList, 0, 0, HW2.out, by decide, by decide, ?_, ?_⟩, HB2.out⟩
  · have := HT.out
    simp
    omega
  · have h1 := HN.out
    have h2 := HT.out
    unfold WNum at h1 ⊢
    rw [Nat.mul_zero, Nat.add_zero] at h1 ⊢
    rw [le_app, h1, ← h2, pow256, Nat.add_zero]
end Go.Proofs.Ytklocjmhembbfaa
