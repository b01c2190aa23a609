/-
  BitinBack: numbers that were put bit by bit are taken again: the walk.
-/
import Derived.Test.YtklocjmhembbfaaBitC
import Derived.OpenShut
namespace Go.Proofs.Ytklocjmhembbfaa
open Go.RowKit Go.ChangeShapes Go.WideShapes

/-- How many bits the k-th number puts. -/
def nnB (g : Nat → Int) (k : Nat) : Nat := if 0 ≤ g k ∧ g k ≤ 32 then (g k).toNat else 0
def accT (g : Nat → Int) : Nat → Nat
  | 0 => 0
  | k + 1 => accT g k + nnB g k
def accN (f g : Nat → Int) : Nat → Nat
  | 0 => 0
  | k + 1 => accN f g k + 2 ^ accT g k * ((f k).toNat % 2 ^ nnB g k)
theorem nnB_le (g : Nat → Int) (k : Nat) : nnB g k ≤ 32 := by unfold nnB; split <;> omega
theorem accT_le (g : Nat → Int) (k : Nat) : accT g k ≤ 32 * k := by
  induction k with
  | zero => exact Nat.le_refl _
  | succ k ih => have := nnB_le g k; rw [accT]; omega
theorem accT_mono (g : Nat → Int) {i k : Nat} (h : i ≤ k) : accT g i ≤ accT g k := by
  induction k with
  | zero => have : i = 0 := by omega
            subst this; exact Nat.le_refl _
  | succ k ih =>
    rcases Nat.lt_or_ge k i with hk | hk
    · have : i = k + 1 := by omega
      subst this; exact Nat.le_refl _
    · have := ih hk; rw [accT]; omega
theorem accN_lt (f g : Nat → Int) (k : Nat) : accN f g k < 2 ^ accT g k := by
  induction k with
  | zero => simp [accN, accT]
  | succ k ih =>
    rw [accN, accT, Nat.pow_add]
    have h : (f k).toNat % 2 ^ nnB g k < 2 ^ nnB g k := Nat.mod_lt _ (Nat.pow_pos (by decide))
    generalize (f k).toNat % 2 ^ nnB g k = r at *
    calc accN f g k + 2 ^ accT g k * r < 2 ^ accT g k + 2 ^ accT g k * r := by omega
      _ = 2 ^ accT g k * (r + 1) := by rw [Nat.mul_add, Nat.mul_one, Nat.add_comm]
      _ ≤ 2 ^ accT g k * 2 ^ nnB g k := Nat.mul_le_mul_left _ h
theorem accN_mod (f g : Nat → Int) (i k : Nat) (h : i ≤ k) : accN f g k % 2 ^ accT g i = accN f g i := by
  induction k with
  | zero => have : i = 0 := by omega
            subst this; simp [accN]
  | succ k ih =>
    rcases Nat.lt_or_ge k i with hk | hk
    · have : i = k + 1 := by omega
      subst this; exact Nat.mod_eq_of_lt (accN_lt f g _)
    · rw [accN, show 2 ^ accT g k = 2 ^ accT g i * 2 ^ (accT g k - accT g i) by rw [← Nat.pow_add]; congr 1; have := accT_mono g hk; omega, Nat.mul_assoc, Nat.add_mul_mod_self_left]
      exact ih hk
theorem acc_read (f g : Nat → Int) (i k : Nat) (h : i < k) : accN f g k / 2 ^ accT g i % 2 ^ nnB g i = (f i).toNat % 2 ^ nnB g i := by
  have h1 := accN_mod f g (i + 1) k h
  rw [accT, Nat.pow_add, accN] at h1
  rw [← Nat.mod_mul_right_div_self, h1, Nat.add_mul_div_left _ _ (Nat.pow_pos (by decide)), Nat.div_eq_of_lt (accN_lt f g i), Nat.zero_add]
theorem le_wtext (F : List UInt8) (q h : Nat) (hq : q < 2 ^ h) (hh : h < 8) : le (wtext F q h) = WNum F q := by
  unfold wtext WNum
  split
  · rename_i h0
    subst h0
    have : q = 0 := by simpa using hq
    subst this; simp
  · have : q < 256 := Nat.lt_of_lt_of_le hq (show 2 ^ h ≤ 2 ^ 8 from Nat.pow_le_pow_right (by decide) (by omega))
    rw [le_app]
    have e : le [UInt8.ofNat (q % 256)] = q := by simp [le]; omega
    rw [e]
theorem wtext_len (F : List UInt8) (q h : Nat) (hh : h < 8) : (wtext F q h).length = (8 * F.length + h + 7) / 8 := by
  unfold wtext; split
  · omega
  · simp; omega
theorem clamp60 (x n : Nat) : ∃ (m : Int) (K : Nat), K ≤ x ∧ K ≤ n ∧ K ≤ 60 ∧ (if n < x then (n : Int) else (x : Int)) = m ∧ (if (60 : Int) < m then 60 else m) = (K : Int) := by
  refine ⟨_, (if (60 : Int) < (if n < x then (n : Int) else (x : Int)) then 60 else (if n < x then (n : Int) else (x : Int))).toNat, ?_, ?_, ?_, rfl, ?_⟩ <;> (split <;> split <;> omega)
theorem wnum_put (F : List UInt8) (q h y : Nat) (t : Nat) (ht : 8 * F.length + h = t) : WNum F (q + 2 ^ h * y) = WNum F q + 2 ^ t * y := by
  unfold WNum
  rw [Nat.mul_add, ← Nat.mul_assoc, pow256, ← Nat.pow_add, ht, Nat.add_assoc]

/-- The writer at b has put k of the numbers. -/
def WAt (w : World) (b : Nat) (N T : Nat) : Prop := ∃ v F q h, WBox w b v F q h ∧ h < 8 ∧ q < 2 ^ h ∧ 8 * F.length + h = T ∧ WNum F q = N
theorem wbits_at (b N T x n : Nat) (w : World) (hb : WAt w b N T) (hT : T ≤ 1000000000) (hn : n ≤ 32) (hx : x < 4294967296) :
    Calls Try.prog 23 #[.pointer (some ⟨b, 0, none⟩), .int .u32 x, .int .i64 n] w fun e w' => e = .returned (.tuple #[]) ∧ WAt w' b (N + 2 ^ T * (x % 2 ^ n)) (T + n) ∧ Below b w w' := by
  obtain ⟨v, F, q, h, hw, hh, hq, ht, hN⟩ := hb
  refine (wbits_any b v F q h x n w hw (by omega) hh hq hn hx).mono ?_
  rintro e w' ⟨rfl, v', F', q', h', hw', hh', hq', ht', hN', hbel⟩
  exact ⟨rfl, ⟨v', F', q', h', hw', hh', hq', by omega, by rw [hN', wnum_put F q h _ T ht, hN]⟩, hbel⟩
theorem WAt.below {w w' : World} {b N T : Nat} (x : WAt w b N T) (hb : Below w.heap.size w w') : WAt w' b N T := by
  obtain ⟨v, F, q, h, hw, hr⟩ := x
  exact ⟨v, F, q, h, hw.below hb, hr⟩
theorem WAt.drewN {w : World} {b N T : Nat} (x : WAt w b N T) (m : Nat) : WAt (w.drewN m) b N T := by
  obtain ⟨v, F, q, h, hw, hr⟩ := x
  exact ⟨v, F, q, h, hw.drewN m, hr⟩
theorem WAt.lt {w : World} {b N T : Nat} (x : WAt w b N T) : b < w.heap.size := by
  obtain ⟨v, F, q, h, hw, hr⟩ := x
  exact hw.lt
theorem wtext_at (b N T : Nat) (w : World) (hb : WAt w b N T) (hT : T ≤ 1000000000) :
    Calls Try.prog 29 #[.pointer (some ⟨b, 0, none⟩)] w fun e w' => (∃ s : ByteArray, e = .returned (.string s) ∧ le s.data.toList = N ∧ s.size = (T + 7) / 8) ∧ Below w.heap.size w w' := by
  obtain ⟨v, F, q, h, hw, hh, hq, ht, hN⟩ := hb
  refine (wtext_any b v F q h w hw (by omega) hh).mono ?_
  rintro e w' ⟨rfl, hbel⟩
  refine ⟨⟨_, rfl, ?_, ?_⟩, hbel⟩
  · show le (wtext F q h) = N
    rw [le_wtext F q h hq hh, hN]
  · show (wtext F q h).toArray.size = _
    rw [List.size_toArray, wtext_len F q h hh, ht]
theorem WAt.new (w : World) : WAt (w.alloc (.cells #[.slice none 0 0, .int .u64 0, .int .i64 0] 47)) w.heap.size 0 0 :=
  ⟨.slice none 0 0, [], 0, 0, ⟨heap_alloc_new w _, World.ownsRow_nil _ _ _ _⟩, by decide, by decide, rfl, rfl⟩

theorem wbits_put (b N T x : Nat) (c : Int) (w : World) (hb : WAt w b N T) (hT : T ≤ 1000000000) (hx : x < 4294967296) :
    Calls Try.prog 23 #[.pointer (some ⟨b, 0, none⟩), .int .u32 x, .int .i64 c] w fun e w' => e = .returned (.tuple #[]) ∧ WAt w' b (N + 2 ^ T * (x % 2 ^ nnB (fun _ => c) 0)) (T + nnB (fun _ => c) 0) ∧ Below b w w' := by
  by_cases hc : 0 ≤ c ∧ c ≤ 32
  · obtain ⟨n, rfl⟩ : ∃ n : Nat, c = (n : Int) := ⟨c.toNat, by omega⟩
    have e : nnB (fun _ => (n : Int)) 0 = n := by unfold nnB; rw [if_pos hc]; simp
    rw [e]
    exact wbits_at b N T x n w hb hT (by omega) hx
  · have e : nnB (fun _ => c) 0 = 0 := by unfold nnB; rw [if_neg hc]
    rw [e]
    refine (wbits_bad b x c w (by omega)).mono ?_
    rintro e w' ⟨rfl, rfl⟩
    exact ⟨rfl, by simpa [Nat.mod_one] using hb, Below.refl _ _⟩
theorem u32_nat {a : Int} (w : (Lit.int .u32 a).wf = true) : ∃ x : Nat, a = (x : Int) ∧ x < 4294967296 := by
  have hb := bounds_u32 w
  exact ⟨a.toNat, by omega, by omega⟩

theorem rem_facts (x n : Nat) (hn : n ≤ 32) (hx : x < 4294967296) : ∃ P X : Nat, IntKind.u64.wrap (2 ^ n) = (P : Int) ∧ 0 < P ∧ (x : Int).tmod (P : Int) = (X : Int) ∧ x % 2 ^ n = X ∧ X < 4294967296 := by
  have hp : 2 ^ n ≤ 2 ^ 32 := Nat.pow_le_pow_right (by decide) hn
  refine ⟨2 ^ n, x % 2 ^ n, ?_, Nat.pow_pos (by decide), ?_, rfl, Nat.lt_of_le_of_lt (Nat.mod_le _ _) hx⟩
  · rw [u64_wrap, show ((2 : Int) ^ n) = ((2 ^ n : Nat) : Int) by simp]
    generalize 2 ^ n = q at *
    simp at hp
    omega
  · rw [Int.tmod_eq_emod_of_nonneg (by omega)]
    simp

set_option maxRecDepth 20000 in
set_option maxHeartbeats 4000000 in
theorem back_walk (a1 a2 : Option Addr) (l1 c1 l2 c2 : Nat) (f g : Nat → Int) (w : World) (hf : IntsAt w a1 l1 .u32 f) (hg : IntsAt w a2 l2 .i64 g) :
    Calls Try.prog 5 #[.slice a1 l1 c1, .slice a2 l2 c2] w fun e w' => e = .returned (.bool true) ∧ Below w.heap.size w w' := by
  have hlen1 : l1 ≤ 9223372036854775807 := by have := hf.1; unfold maxLen at this; omega
  have hlen2 : l2 ≤ 9223372036854775807 := by have := hg.1; unfold maxLen at this; omega
  have HF := hidM hf
  have HG := hidM hg
  obtain ⟨m, K, hK1, hK2, hK60, e1, e2⟩ := clamp60 l1 l2
  have HW0 := hidM (WAt.new w)
  have HB0 : Hid (Below w.heap.size w (w.alloc (.cells #[.slice none 0 0, .int .u64 0, .int .i64 0] 47))) := (Below.refl _ _).alloc (Nat.le_refl _) _
  clear hf hg
  go_enter Try.func5, Try.ntmps5
  go_wp2
  go_loopw [7] (fun i wr => ∃ k : Nat, k ≤ K ∧ i = .int .i64 k ∧ WAt wr w.heap.size (accN f g k) (accT g k) ∧ Below w.heap.size w wr) (fun i _ => 60 - (intOf i).toNat)
  case atStart => exact ⟨0, by omega, rfl, HW0.out, HB0.out⟩
  case round =>
    obtain ⟨k, hk, rfl, hw, hbr⟩ := hrel
    have HW := hidM hw
    have HB := hidM hbr
    clear hw hbr HW0 HB0 e1 e2
    by_cases hlt : k < K
    · obtain ⟨b1, o1, rfl, hc1⟩ := (HF.out.below HB.out).get k (by omega)
      obtain ⟨b2, o2, rfl, hc2⟩ := (HG.out.below HB.out).get k (by omega)
      have hl1 : k < l1 := by omega
      have hl2 : k < l2 := by omega
      obtain ⟨x, hx, hx32⟩ := u32_nat (HF.out.2.1 k)
      have HX := hidM hx
      rw [hx] at hc1
      generalize hc : g k = c at *
      have HC := hidM hc
      have HT : Hid (accT g k ≤ 1000000000) := by have := accT_le g k; unfold Hid; omega
      have HN1 : Hid (accN f g (k + 1) = accN f g k + 2 ^ accT g k * (x % 2 ^ nnB (fun _ => c) 0)) := by
        unfold Hid
        rw [accN, hx, ← hc]
        rfl
      have HT1 : Hid (accT g (k + 1) = accT g k + nnB (fun _ => c) 0) := by
        unfold Hid
        rw [accT, ← hc]
        rfl
      clear hx hc
      go_wp2
      go_region_with (go_at_call 23; refine (wbits_put _ _ _ x c _ (HW.out.drewN 1) HT.out hx32).mono ?_; rintro e w1 ⟨rfl, hw1, hb1⟩)
      all_goals
        have HW1 := hidM hw1
        have HB1 : Hid (Below w.heap.size w w1) := (below_drewN HB.out 1).trans hb1
        clear hw1 hb1 hc1 hc2
        rw [← HN1.out, ← HT1.out] at HW1
        go_wp2
        go_roundw
        case rel => exact ⟨k + 1, by omega, by go_num, HW1.out, HB1.out⟩
        case measure => simp [intOf]; omega
    · have hkk : k = K := by omega
      have HKK := hidM hkk
      have HT : Hid (accT g k ≤ 2000) := by have := accT_le g k; unfold Hid; omega
      clear hkk
      go_wp2_with fail
      refine (wtext_at _ _ _ wr HW.out (by have := HT.out; omega)).mono ?_
      rintro e w1 ⟨⟨s, rfl, hsN, hsT⟩, hb1⟩
      have HB1 : Hid (Below w.heap.size w w1) := HB.out.trans (hb1.mono HB.out.size)
      have HSN := hidM hsN
      have HST := hidM hsT
      have hss : s.size ≤ 1000 := by have := HT.out; omega
      clear hb1 hsN hsT
      go_wp2_with fail
      refine (newR_any s w1 (by omega)).mono ?_
      rintro e w2 ⟨rfl, hr2, hb2⟩
      have HR2 := hidM hr2
      have HB2 : Hid (Below w.heap.size w w2) := HB1.out.trans (hb2.mono HB1.out.size)
      have HS1 := hidM HB1.out.size
      generalize w1.heap.size = B at *
      clear hr2 hb2
      go_wp2
      go_loopw [9, 10, 11] (fun i _ _ wr => ∃ k t l : Nat, k ≤ K ∧ i = .int .i64 k ∧ t = accT g k ∧ t + l = 8 * s.size ∧ RBox wr B s t ∧ Below w.heap.size w wr) (fun i _ _ _ => 60 - (intOf i).toNat)
      case atStart => exact ⟨0, 0, 8 * s.size, by omega, rfl, rfl, by omega, HR2.out, HB2.out⟩
      case round =>
        obtain ⟨j, t, l, hj, rfl, ht, htl, hr, hbr⟩ := hrel
        have HT1 := hidM ht
        have HTL := hidM htl
        have HR := hidM hr
        have HBR := hidM hbr
        clear ht htl hr hbr HR2 HB2
        by_cases hjK : j < K
        · obtain ⟨b1, o1, rfl, hc1⟩ := (HF.out.below HBR.out).get j (by omega)
          obtain ⟨b2, o2, rfl, hc2⟩ := (HG.out.below HBR.out).get j (by omega)
          have hl1 : j < l1 := by omega
          have hl2 : j < l2 := by omega
          obtain ⟨x, hx, hx32⟩ := u32_nat (HF.out.2.1 j)
          rw [hx] at hc1
          by_cases hbad : g j < 0 ∨ 32 < g j
          · have HT2 : Hid (t = accT g (j + 1)) := by
              unfold Hid
              rw [accT, nnB, if_neg (by omega), Nat.add_zero]
              exact HT1.out
            generalize g j = c at *
            clear hx
            rcases hbad with hbad | hbad
            · go_wp2
              go_roundw
              case rel => exact ⟨j + 1, t, l, by omega, by go_num, HT2.out, HTL.out, HR.out, HBR.out⟩
              case measure => simp [intOf]; omega
            · go_wp2
              go_roundw
              case rel => exact ⟨j + 1, t, l, by omega, by go_num, HT2.out, HTL.out, HR.out, HBR.out⟩
              case measure => simp [intOf]; omega
          · obtain ⟨n, hn⟩ : ∃ n : Nat, g j = (n : Int) := ⟨(g j).toNat, by omega⟩
            have hn32 : n ≤ 32 := by omega
            have hnn : nnB g j = n := by rw [nnB, if_pos (by omega), hn]; simp
            have HT2 : Hid (t + n = accT g (j + 1)) := by
              unfold Hid
              rw [accT, hnn, ← HT1.out]
            have HNL : Hid (n ≤ l) := by
              have h1 := accT_mono g (show j + 1 ≤ K by omega)
              have h2 := HT2.out
              have h3 := HST.out
              have h4 := HTL.out
              rw [HKK.out] at h3
              unfold Hid
              omega
            have HV : Hid (bitsN s.data.toList t n = x % 2 ^ n) := by
              have h1 := acc_read f g j K hjK
              unfold Hid bitsN
              rw [HSN.out, HKK.out, HT1.out]
              rw [hnn, hx] at h1
              simpa using h1
            rw [hn] at hc2
            have HX := hidM hx
            have HGN := hidM hn
            clear hx hn hnn hbad
            go_wp2_with fail
            refine (bits_yes _ s t l n wr HR.out (by omega) HTL.out hn32 HNL.out).mono ?_
            rintro e w3 ⟨rfl, m1, rfl⟩
            rw [HV.out]
            have hb3 := below_set (b := B) (o := 1) (v := .int .i64 ((t + n : Nat) : Int)) (below_drewN HBR.out m1) HS1.out
            have HR3 := hidM (HR.out.put m1 n)
            generalize (wr.drewN m1).setCell ⟨B, 1, none⟩ (.int .i64 ((t + n : Nat) : Int)) = w3 at *
            obtain ⟨b1', o1', he1, hd1⟩ := (HF.out.below hb3).get j (by omega)
            obtain ⟨b2', o2', he2, hd2⟩ := (HG.out.below hb3).get j (by omega)
            simp only [Option.some.injEq, Addr.mk.injEq, and_true] at he1 he2
            obtain ⟨rfl, rfl⟩ := he1
            obtain ⟨rfl, rfl⟩ := he2
            rw [HX.out] at hd1
            rw [HGN.out] at hd2
            have HB3 := hidM hb3
            clear hb3 hc1 hc2
            obtain ⟨P, X, hP, hP0, r2, hX, HXX⟩ := rem_facts x n hn32 hx32
            rw [hX]
            go_wp2
            go_quiet (fail)
            clear r2 hX hP
            go_wp2
            go_roundw
            case rel => exact ⟨j + 1, t + n, l - n, by omega, by go_num, HT2.out, by have := HTL.out; have := HNL.out; omega, HR3.out.drewN _, below_drewN HB3.out _⟩
            case measure => simp [intOf]; omega
        · have hkk : j = K := by omega
          have HL8 : Hid (l < 8) := by
            have h1 := HT1.out
            have h2 := HTL.out
            have h3 := HST.out
            rw [HKK.out] at h3
            rw [hkk] at h1
            unfold Hid
            omega
          clear hkk
          go_wp2_with fail
          refine (awake_any wr).mono ?_
          rintro e v1 ⟨rfl, hb1⟩
          have HR4 := hidM (HR.out.below hb1)
          have HB4 : Hid (Below w.heap.size w v1) := HBR.out.trans (hb1.mono HBR.out.size)
          clear hb1
          go_wp2_with fail
          refine (left_any _ s t l v1 HR4.out (by omega) HTL.out).mono ?_
          rintro e v2 ⟨rfl, m2, rfl⟩
          have hl8 : decide ((l : Int) < 8) = true := by have := HL8.out; simp; omega
          go_wp2
          go_ret
          exact ⟨rfl, below_drewN HB4.out _⟩
end Go.Proofs.Ytklocjmhembbfaa
