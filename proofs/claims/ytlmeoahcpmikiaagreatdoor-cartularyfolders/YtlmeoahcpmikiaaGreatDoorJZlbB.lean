/-
  Taken over from another program: ZlbA.
  Taken over from another program: ZlbB.
-/
import Derived.Test.YtlmeoahcpmikiaaGreatDoorJInfR
import Derived.Test.YtlmeoahcpmikiaaGreatDoorJInfL
import Derived.Test.YtlmeoahcpmikiaaGreatDoorJInfV
namespace Go.Proofs.YtlmeoahcpmikiaaGreatDoor
open Go.RowKit
def headB (a b : Nat) : Bool := decide (a % 16 = 8 ∧ a / 16 ≤ 7 ∧ (256 * a + b) % 31 = 0 ∧ b / 32 % 2 = 0)
theorem and_15 (a : Nat) (h : a < 256) : bits .and .u8 (a : Int) 15 = ((a % 16 : Nat) : Int) := by
  have : ∀ y : Fin 256, bits .and .u8 ((y.val : Nat) : Int) 15 = ((y.val % 16 : Nat) : Int) := by decide +kernel
  exact this ⟨a, h⟩
theorem and_32 (a : Nat) (h : a < 256) : bits .and .u8 (a : Int) 32 = ((32 * (a / 32 % 2) : Nat) : Int) := by
  have : ∀ y : Fin 256, bits .and .u8 ((y.val : Nat) : Int) 32 = ((32 * (y.val / 32 % 2) : Nat) : Int) := by decide +kernel
  exact this ⟨a, h⟩
set_option maxHeartbeats 1000000 in
set_option maxRecDepth 100000 in
theorem head_any (a b : Nat) (w : World) (ha : a < 256) (hb : b < 256) :
    Calls Tryz.prog 234 #[.int .u8 (a : Int), .int .u8 (b : Int)] w fun e w' => e = .returned (.bool (headB a b)) ∧ w' = w := by
  have e1 := and_15 a ha
  have e2 := and_32 b hb
  obtain ⟨x, hx⟩ : ∃ x, x = a % 16 := ⟨_, rfl⟩
  obtain ⟨y, hy⟩ : ∃ y, y = a / 16 := ⟨_, rfl⟩
  obtain ⟨q, hq⟩ : ∃ q, q = 256 * a + b := ⟨_, rfl⟩
  obtain ⟨m, hm⟩ : ∃ m, m = q % 31 := ⟨_, rfl⟩
  obtain ⟨z, hz⟩ : ∃ z, z = 32 * (b / 32 % 2) := ⟨_, rfl⟩
  have HB : Hid (headB a b = decide (x = 8 ∧ y ≤ 7 ∧ m = 0 ∧ z = 0)) := by
    unfold Hid headB
    rw [← hx, ← hy, ← hq, ← hm]
    congr 1
    have : (b / 32 % 2 = 0) ↔ z = 0 := by omega
    simp only [this]
  have e3 : (a : Int) / 16 = (y : Int) := by omega
  have e4 : (256 : Int) * (a : Int) + (b : Int) = (q : Int) := by omega
  have e5 : (q : Int) % 31 = (m : Int) := by omega
  have e6 : (q : Int).tmod 31 = (m : Int) := by rw [Int.tmod_eq_emod_of_nonneg (by omega)]; exact e5
  rw [← hx] at e1
  rw [← hz] at e2
  have b1 : q < 100000 := by omega
  have b2 : y < 256 := by omega
  clear hx hy hq hm hz
  go_enter Tryz.func234, Tryz.ntmps234
  by_cases k1 : x = 8
  · have j1 : ((x : Int) == 8) = true := by simp; omega
    by_cases k2 : y ≤ 7
    · have j2 : (y : Int) ≤ 7 := by omega
      by_cases k3 : m = 0
      · have j3 : ((m : Int) == 0) = true := by simp; omega
        by_cases k4 : z = 0
        · have j4 : ((z : Int) == 0) = true := by simp; omega
          have HT : Hid (headB a b = true) := by unfold Hid; rw [HB.out]; exact decide_eq_true ⟨k1, k2, k3, k4⟩
          clear k1 k2 k3 k4 HB
          go_wp2
          go_ret
          exact ⟨by rw [HT.out]; rfl, rfl⟩
        · have j4 : ((z : Int) == 0) = false := by simp; omega
          have HT : Hid (headB a b = false) := by unfold Hid; rw [HB.out]; exact decide_eq_false (fun h => k4 h.2.2.2)
          clear k1 k2 k3 k4 HB
          go_wp2
          go_ret
          exact ⟨by rw [HT.out]; rfl, rfl⟩
      · have j3 : ((m : Int) == 0) = false := by simp; omega
        have HT : Hid (headB a b = false) := by unfold Hid; rw [HB.out]; exact decide_eq_false (fun h => k3 h.2.2.1)
        clear k1 k2 k3 HB
        go_wp2
        go_ret
        exact ⟨by rw [HT.out]; rfl, rfl⟩
    · have j2 : ¬ (y : Int) ≤ 7 := by omega
      have HT : Hid (headB a b = false) := by unfold Hid; rw [HB.out]; exact decide_eq_false (fun h => k2 h.2.1)
      clear k1 k2 HB
      go_wp2
      go_ret
      exact ⟨by rw [HT.out]; rfl, rfl⟩
  · have j1 : ((x : Int) == 8) = false := by simp; omega
    have HT : Hid (headB a b = false) := by unfold Hid; rw [HB.out]; exact decide_eq_false (fun h => k1 h.1)
    clear k1 HB
    go_wp2
    go_ret
    exact ⟨by rw [HT.out]; rfl, rfl⟩
/-- a text's sum as a frame has it -/
def zsum (l : List UInt8) : List UInt8 := bigL (adSum l) 4
theorem adSum_lt (l : List UInt8) : adSum l < 4294967296 := by
  have h := adR_lt l (1, 0) (by decide) (by decide)
  unfold adSum
  omega
set_option maxHeartbeats 400000 in
set_option maxRecDepth 100000 in
theorem sumOf_any (s : ByteArray) (w : World) (hs : s.size ≤ maxLen) :
    Calls Tryz.prog 82 #[.string s] w fun e w' => e = .returned (.string ⟨(zsum s.data.toList).toArray⟩) ∧ Below w.heap.size w w' := by
  have hlt := adSum_lt s.data.toList
  have HZ : Hid (zsum s.data.toList = bigL (adSum s.data.toList) 4) := rfl
  go_enter Tryz.func82, Tryz.ntmps82
  go_wp2_with fail
  refine (adler32_any s w hs).mono ?_
  rintro _ w1 ⟨rfl, hb⟩
  generalize adSum s.data.toList = S at *
  have HB := hidM hb
  clear hb
  have ew : IntKind.u64.wrap (S : Int) = (S : Int) := by rw [u64_wrap]; omega
  go_wp2_with fail
  refine (big_any S 4 w1 (by decide) (by decide)).mono ?_
  rintro _ w2 ⟨rfl, hb⟩
  have HB2 : Hid (Below w.heap.size w w2) := HB.out.trans (hb.mono HB.out.size)
  clear hb
  go_wp2
  go_ret
  exact ⟨by rw [HZ.out]; rfl, HB2.out⟩
end Go.Proofs.YtlmeoahcpmikiaaGreatDoor
namespace Go.Proofs.YtlmeoahcpmikiaaGreatDoor
open Go.RowKit
/-- what zlib.Read says of a text -/
def ZQ (l : List UInt8) (a m : Int) (r : List UInt8 × Nat × Nat) : Prop :=
  ((a < 0 ∨ (l.length : Int) < a ∨ m < 0 ∨ 65536 < m) ∧ r = ([], 0, 1)) ∨
  (∃ A M : Nat, a = A ∧ m = M ∧ A ≤ l.length ∧ M ≤ 65536 ∧
    ((l.length < A + 2 ∧ r = ([], 0, 6)) ∨
     (A + 2 ≤ l.length ∧ headB (l.getD A 0).toNat (l.getD (A + 1) 0).toNat = false ∧ r = ([], 0, 3)) ∨
     (A + 2 ≤ l.length ∧ headB (l.getD A 0).toNat (l.getD (A + 1) 0).toNat = true ∧ ∃ o n e, InfQ l ((A + 2 : Nat) : Int) (M : Int) (o, n, e) ∧
       ((e ≠ 0 ∧ r = ([], 0, e)) ∨
        (e = 0 ∧ l.length < A + 2 + n + 4 ∧ r = ([], 0, 6)) ∨
        (e = 0 ∧ A + 2 + n + 4 ≤ l.length ∧ (l.drop (A + 2 + n)).take 4 ≠ zsum o ∧ r = ([], 0, 5)) ∨
        (e = 0 ∧ A + 2 + n + 4 ≤ l.length ∧ (l.drop (A + 2 + n)).take 4 = zsum o ∧ r = (o, n + 6, 0))))))
def ZPost (s : ByteArray) (a m : Int) (e : Ending) : Prop :=
  ∃ r, ZQ s.data.toList a m r ∧ e = .returned (.tuple #[.string ⟨r.1.toArray⟩, .int .i64 (r.2.1 : Int), .int .i64 (r.2.2 : Int)])
theorem InfQ.used {l : List UInt8} {A : Nat} {m : Int} {o : List UInt8} {n : Nat} (h : InfQ l A m (o, n, 0)) : A + n ≤ l.length ∧ o.length ≤ 65536 := by
  rcases h with ⟨_, h⟩ | ⟨A', M, hA, _, hl, hM, ⟨k, hk, _, h⟩ | ⟨t, o', _, ht, ho, h⟩⟩
  · cases h
  · simp only [Prod.mk.injEq] at h
    omega
  · obtain rfl : A = A' := by omega
    simp only [Prod.mk.injEq] at h
    obtain ⟨rfl, rfl, _⟩ := h
    omega
theorem bytes_ext {a b : ByteArray} (h : a.data.toList = b.data.toList) : a = b := by
  cases a
  cases b
  simp only at h
  rw [Array.toList_inj.1 h]
theorem bytes_ne {a b : ByteArray} (h : a ≠ b) : (a.toList == b.toList) = false := by
  refine beq_false_of_ne fun e => h (bytes_ext ?_)
  rw [← Go.ByteArray.toList_eq, ← Go.ByteArray.toList_eq, e]
theorem getD_byte (s : ByteArray) (k : Nat) (h : k < s.size) : s.data.toList.getD k 0 = s[k] := by
  have h2 : k < s.data.toList.length := by rw [Array.length_toList]; exact h
  rw [List.getD_eq_getElem?_getD, List.getElem?_eq_getElem h2]
  rfl
set_option maxHeartbeats 2000000 in
set_option maxRecDepth 100000 in
theorem zread_any (s : ByteArray) (a m : Int) (w : World) (hs : s.size ≤ 1000000) (hG : GOk w) :
    Calls Tryz.prog 196 #[.string s, .int .i64 a, .int .i64 m] w fun e w' => ZPost s a m e ∧ Below w.heap.size w w' := by
  have hlen : s.data.toList.length = s.size := Array.length_toList
  have HLEN := hidM hlen
  have HG := hidM hG
  clear hG hlen
  by_cases hbad : a < 0 ∨ (s.size : Int) < a ∨ m < 0 ∨ 65536 < m
  · have HQ : Hid (ZQ s.data.toList a m ([], 0, 1)) := .inl ⟨by rw [HLEN.out]; exact hbad, rfl⟩
    go_enter Tryz.func196, Tryz.ntmps196
    by_cases h1 : a < 0
    · as_aux_lemma =>
      go_wp2
      go_ret3
      exact ⟨⟨_, HQ.out, rfl⟩, Below.refl _ _⟩
    · by_cases h2 : (s.size : Int) < a
      · as_aux_lemma =>
        go_wp2
        go_ret3
        exact ⟨⟨_, HQ.out, rfl⟩, Below.refl _ _⟩
      · by_cases h3 : m < 0
        · as_aux_lemma =>
          go_wp2
          go_ret3
          exact ⟨⟨_, HQ.out, rfl⟩, Below.refl _ _⟩
        · as_aux_lemma =>
          have h4 : 65536 < m := by omega
          go_wp2
          go_ret3
          exact ⟨⟨_, HQ.out, rfl⟩, Below.refl _ _⟩
  · obtain ⟨A, rfl⟩ : ∃ A : Nat, a = A := ⟨a.toNat, by omega⟩
    obtain ⟨M, rfl⟩ : ∃ M : Nat, m = M := ⟨m.toNat, by omega⟩
    have h1 : A ≤ s.size := by omega
    have h2 : M ≤ 65536 := by omega
    have g1 : ¬ (A : Int) < 0 := by omega
    have g2 : ¬ (s.size : Int) < (A : Int) := by omega
    have g3 : ¬ (M : Int) < 0 := by omega
    have g4 : ¬ (65536 : Int) < (M : Int) := by omega
    have HW : Hid (∀ r, ((s.data.toList.length < A + 2 ∧ r = ([], 0, 6)) ∨
     (A + 2 ≤ s.data.toList.length ∧ headB (s.data.toList.getD A 0).toNat (s.data.toList.getD (A + 1) 0).toNat = false ∧ r = ([], 0, 3)) ∨
     (A + 2 ≤ s.data.toList.length ∧ headB (s.data.toList.getD A 0).toNat (s.data.toList.getD (A + 1) 0).toNat = true ∧ ∃ o n e, InfQ s.data.toList ((A + 2 : Nat) : Int) (M : Int) (o, n, e) ∧
       ((e ≠ 0 ∧ r = ([], 0, e)) ∨
        (e = 0 ∧ s.data.toList.length < A + 2 + n + 4 ∧ r = ([], 0, 6)) ∨
        (e = 0 ∧ A + 2 + n + 4 ≤ s.data.toList.length ∧ (s.data.toList.drop (A + 2 + n)).take 4 ≠ zsum o ∧ r = ([], 0, 5)) ∨
        (e = 0 ∧ A + 2 + n + 4 ≤ s.data.toList.length ∧ (s.data.toList.drop (A + 2 + n)).take 4 = zsum o ∧ r = (o, n + 6, 0))))) → ZQ s.data.toList (A : Int) (M : Int) r) :=
      fun r h => .inr ⟨A, M, rfl, rfl, by rw [HLEN.out]; exact h1, h2, h⟩
    clear hbad
    obtain ⟨d, hd⟩ : ∃ d, d = s.size - A := ⟨_, rfl⟩
    have e1 : (s.size : Int) - (A : Int) = (d : Int) := by omega
    go_enter Tryz.func196, Tryz.ntmps196
    by_cases hshort : d < 2
    · as_aux_lemma =>
      have e2 : (d : Int) < 2 := by omega
      have HQ := hidM (HW.out ([], 0, 6) (.inl ⟨by rw [HLEN.out]; omega, rfl⟩))
      clear hd
      go_wp2
      go_ret3
      exact ⟨⟨_, HQ.out, rfl⟩, Below.refl _ _⟩
    · have e2 : ¬ (d : Int) < 2 := by omega
      have hA2 : A + 2 ≤ s.size := by omega
      obtain ⟨A1, hA1⟩ : ∃ A1, A1 = A + 1 := ⟨_, rfl⟩
      have i1 : A < s.size := by omega
      have i2 : A1 < s.size := by omega
      have i3 : (A : Int) < (s.size : Int) := by omega
      have i4 : (A1 : Int) < (s.size : Int) := by omega
      have i5 : (A : Int) + 1 = (A1 : Int) := by omega
      have i6 : IntKind.i64.wrap ((A : Int) + 1) = (A1 : Int) := by rw [i5]; exact i64_small _ (by omega) (by omega)
      have i7 : IntKind.i64.wrap (A1 : Int) = (A1 : Int) := i64_small _ (by omega) (by omega)
      have HD := hidM hd
      have HH := hidM (fun V => head_any (s[A]).toNat (s[A1]).toNat V (UInt8.toNat_lt _) (UInt8.toNat_lt _))
      have G1 := hidM (getD_byte s A i1)
      have G2 : Hid (s.data.toList.getD (A + 1) 0 = s[A1]) := by unfold Hid; rw [← hA1]; exact getD_byte s A1 i2
      clear hd hA1
      cases hh : headB (s[A]).toNat (s[A1]).toNat with
      | false =>
        rw [hh] at HH
        have HQ := hidM (HW.out ([], 0, 3) (.inr (.inl ⟨by rw [HLEN.out]; exact hA2, by rw [G1.out, G2.out]; exact hh, rfl⟩)))
        clear hh
        go_wp2
        go_quiet ((go_at_call 234; with_reducible exact Calls.quiet_of_same (HH.out _)))
        go_wp2
        go_ret3
        exact ⟨⟨_, HQ.out, rfl⟩, (below_drewN (Below.refl _ _) _)⟩
      | true =>
        rw [hh] at HH
        have HHE : Hid (headB (s.data.toList.getD A 0).toNat (s.data.toList.getD (A + 1) 0).toNat = true) := by unfold Hid; rw [G1.out, G2.out]; exact hh
        have HL2 : Hid (A + 2 ≤ s.data.toList.length) := by unfold Hid; rw [HLEN.out]; exact hA2
        clear hh
        go_wp2
        go_quiet ((go_at_call 234; with_reducible exact Calls.quiet_of_same (HH.out _)))
        have HB0 : Hid (Below w.heap.size w (w.drewN nq)) := below_drewN (Below.refl _ _) _
        have HGG := hidM (HG.out.below HB0.out)
        generalize w.drewN nq = w1 at *
        obtain ⟨A2, hA2e⟩ : ∃ A2, A2 = A + 2 := ⟨_, rfl⟩
        have k1 : (A : Int) + 2 = (A2 : Int) := by omega
        have HA2 := hidM hA2e
        have hA2s : A2 ≤ s.size := by omega
        clear hA2e HH G1 G2
        generalize (s[A]).toNat = bA at *
        generalize (s[A1]).toNat = bB at *
        clear i1 i2 i3 i4 i5 i6 i7
        go_wp2_with fail
        refine (inflate_any s (A2 : Int) (M : Int) w1 hs HGG.out.1 HGG.out.2).mono ?_
        rintro _ w2 ⟨⟨⟨o, n, e⟩, hq, rfl⟩, hb2⟩
        have HQI : Hid (InfQ s.data.toList ((A + 2 : Nat) : Int) (M : Int) (o, n, e)) := by unfold Hid; rw [← HA2.out]; exact hq
        have HB2 : Hid (Below w.heap.size w w2) := HB0.out.trans (hb2.mono HB0.out.size)
        by_cases he : e = 0
        · subst he
          have hus := hq.used
          rw [HLEN.out] at hus
          obtain ⟨P, hP⟩ : ∃ P, P = A2 + n := ⟨_, rfl⟩
          have k2 : (A2 : Int) + (n : Int) = (P : Int) := by omega
          have k3 : (P : Int) ≤ (s.size : Int) := by omega
          obtain ⟨q, hqq⟩ : ∃ q, q = s.size - P := ⟨_, rfl⟩
          have HBT : Hid (∀ k, ((s.extract P s.size).extract 0 k).data.toList = (s.data.toList.drop (A + 2 + n)).take k) := fun k => by
            rw [extract_list, drop_extract, hP, HA2.out]; rfl
          have hbs : (s.extract P s.size).size = q := by rw [ByteArray.size_extract]; omega
          have hO : (⟨o.toArray⟩ : ByteArray).size ≤ maxLen := by
            show o.toArray.size ≤ maxLen
            rw [List.size_toArray]; unfold maxLen; omega
          have HSU := hidM (fun V (hV : Hid (DrewOf w2 V)) => (by
            obtain ⟨k, rfl⟩ := hV
            refine (sumOf_any ⟨o.toArray⟩ (w2.drewN k) hO).mono ?_
            rintro e w' ⟨h1, h2⟩
            exact ⟨h1, (below_drewN (Below.refl _ _) k).trans h2⟩ : Calls Tryz.prog 82 #[.string ⟨o.toArray⟩] V fun e w' => e = .returned (.string ⟨(zsum o).toArray⟩) ∧ Hid (Below w2.heap.size w2 w')))
          have HQN : Hid (q + (A + 2 + n) = s.data.toList.length) := by unfold Hid; rw [HLEN.out]; have := HA2.out; omega
          clear hq hb2 hus hqq hP hO
          by_cases hq4 : q < 4
          · have k4 : (q : Int) < 4 := by omega
            have HQ := hidM (HW.out ([], 0, 6) (.inr (.inr ⟨HL2.out, HHE.out, o, n, 0, HQI.out, .inr (.inl ⟨rfl, by have := HQN.out; omega, rfl⟩)⟩)))
            clear hq4
            go_wp2
            go_ret3
            exact ⟨⟨_, HQ.out, rfl⟩, HB2.out⟩
          · have k4 : ¬ (q : Int) < 4 := by omega
            have k5 : (4 : Int) ≤ (q : Int) := by omega
            have HLE : Hid (A + 2 + n + 4 ≤ s.data.toList.length) := by unfold Hid; have := HQN.out; omega
            have HB4 := hidM (HBT.out 4)
            have HD2 := DrewOf.refl w2
            clear HBT
            generalize hOO : (⟨o.toArray⟩ : ByteArray) = O at *
            have HOO := hidM hOO
            clear hOO
            generalize hZZ : (⟨(zsum o).toArray⟩ : ByteArray) = Z at *
            have HZL : Hid (Z.data.toList = zsum o) := by unfold Hid; rw [← hZZ]
            clear hq4 hZZ
            obtain ⟨n6, hn6⟩ : ∃ n6, n6 = n + 6 := ⟨_, rfl⟩
            obtain ⟨n2, hn2⟩ : ∃ n2, n2 = n + 2 := ⟨_, rfl⟩
            have k8 : (2 : Int) + (n : Int) = (n2 : Int) := by omega
            have k9 : (n2 : Int) + 4 = (n6 : Int) := by omega
            have k10 : n6 ≤ 2000000 := by have := HLE.out; rw [HLEN.out] at this; omega
            have HN6 := hidM hn6
            clear hn6 hn2
            go_wp2_with fail
            generalize s.extract P s.size = BT at *
            have k6 : (4 : Int) ≤ (BT.size : Int) := by omega
            by_cases hc : BT.extract 0 4 = Z
            · have HC : Hid ((s.data.toList.drop (A + 2 + n)).take 4 = zsum o) := by unfold Hid; rw [← HB4.out, hc, HZL.out]
              have HQ := hidM (HW.out (o, n6, 0) (.inr (.inr ⟨HL2.out, HHE.out, o, n, 0, HQI.out, .inr (.inr (.inr ⟨rfl, HLE.out, HC.out, by rw [HN6.out]⟩))⟩)))
              go_region_held3 (fun _ => True) (exact trivial)
                (first
                  | (go_at_call 82; with_reducible refine (HSU.out _ (by repeat (first | exact HD2 | apply DrewOf.drew | apply DrewOf.drewN))).mono ?_; rintro e w5 ⟨rfl, HUP⟩))
              all_goals
                have HB5 : Hid (Below w.heap.size w w5) := HB2.out.trans (HUP.out.mono HB2.out.size)
                go_wp2
                go_ret3
                exact ⟨⟨_, HQ.out, by rw [HOO.out]; rfl⟩, HB5.out⟩
            · have HC : Hid ((s.data.toList.drop (A + 2 + n)).take 4 ≠ zsum o) := fun h => hc (bytes_ext (by rw [HB4.out, HZL.out, h]))
              have HQ := hidM (HW.out ([], 0, 5) (.inr (.inr ⟨HL2.out, HHE.out, o, n, 0, HQI.out, .inr (.inr (.inl ⟨rfl, HLE.out, HC.out, rfl⟩))⟩)))
              have hcb := bytes_ne hc
              go_region_held3 (fun _ => True) (exact trivial)
                (first
                  | (go_at_call 82; with_reducible refine (HSU.out _ (by repeat (first | exact HD2 | apply DrewOf.drew | apply DrewOf.drewN))).mono ?_; rintro e w5 ⟨rfl, HUP⟩))
              all_goals
                have HB5 : Hid (Below w.heap.size w w5) := HB2.out.trans (HUP.out.mono HB2.out.size)
                go_wp2
                go_ret3
                exact ⟨⟨_, HQ.out, rfl⟩, HB5.out⟩
        · have e0 : ((e : Int) == 0) = false := by simp; omega
          have HQ := hidM (HW.out ([], 0, e) (.inr (.inr ⟨HL2.out, HHE.out, o, n, e, HQI.out, .inl ⟨he, rfl⟩⟩)))
          clear hq hb2
          go_wp2
          go_ret3
          exact ⟨⟨_, HQ.out, rfl⟩, HB2.out⟩
end Go.Proofs.YtlmeoahcpmikiaaGreatDoor
