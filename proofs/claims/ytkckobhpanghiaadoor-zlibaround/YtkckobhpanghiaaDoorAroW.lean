/-
  The law ZlibAround, walked.
-/
import Derived.Test.YtkckobhpanghiaaDoorStoB
namespace Go.Proofs.YtkckobhpanghiaaDoor
open Go.RowKit

theorem InfQ.det {l : List UInt8} {a m : Int} {r r' : List UInt8 × Nat × Nat} (h : InfQ l a m r) (h' : InfQ l a m r') : r = r' := by
  rcases h with ⟨h1, rfl⟩ | ⟨A, M, rfl, rfl, hA, hM, ⟨n, _, hr, rfl⟩ | ⟨t, o, hr, _, _, rfl⟩⟩
  · rcases h' with ⟨_, rfl⟩ | ⟨A, M, rfl, rfl, hA, hM, _⟩
    · rfl
    · omega
  · exact (h'.runBad hA hM hr).symm
  · exact (h'.run hA hM hr).symm
theorem ZQ.bad {l : List UInt8} {a m : Int} {o : List UInt8} {n e : Nat} (h : ZQ l a m (o, n, e)) (he : e ≠ 0) : o = [] ∧ n = 0 := by
  rcases h with ⟨_, h⟩ | ⟨A, M, _, _, _, _, ⟨_, h⟩ | ⟨_, _, h⟩ | ⟨_, _, o', n', e', _, ⟨_, h⟩ | ⟨_, _, h⟩ | ⟨_, _, _, h⟩ | ⟨_, _, _, h⟩⟩⟩
  all_goals
    simp only [Prod.mk.injEq] at h
    first | exact ⟨h.1, h.2.1⟩ | exact absurd h.2.2 he
theorem ZQ.ok {l : List UInt8} {m : Int} {o : List UInt8} {n : Nat} (h : ZQ l 0 m (o, n, 0)) : 2 ≤ l.length ∧ headB (l.getD 0 0).toNat (l.getD 1 0).toNat = true ∧ n ≤ l.length ∧ (o.length : Int) ≤ m ∧ ∃ k, n = k + 6 ∧ InfQ l 2 m (o, k, 0) := by
  rcases h with ⟨_, h⟩ | ⟨A, M, hA, rfl, _, _, ⟨_, h⟩ | ⟨_, _, h⟩ | ⟨h2, hh, o', n', e', hq, ⟨he, h⟩ | ⟨_, _, h⟩ | ⟨_, _, _, h⟩ | ⟨he, hl, _, h⟩⟩⟩
  · cases h
  · cases h
  · cases h
  · simp only [Prod.mk.injEq] at h
    omega
  · cases h
  · cases h
  · obtain rfl : A = 0 := by omega
    simp only [Prod.mk.injEq] at h
    obtain ⟨rfl, rfl, _⟩ := h
    subst he
    refine ⟨by omega, hh, by omega, ?_, n', rfl, hq⟩
    rcases hq with ⟨_, h⟩ | ⟨_, M', _, hM, _, _, ⟨k, hk, _, h⟩ | ⟨t, o2, _, _, ho, h⟩⟩
    · cases h
    · simp only [Prod.mk.injEq] at h
      omega
    · simp only [Prod.mk.injEq] at h
      obtain ⟨rfl, _, _⟩ := h
      omega
set_option maxHeartbeats 4000000 in
set_option maxRecDepth 100000 in
theorem around_walk (s : ByteArray) (most : Int) (w : World) (hG : GOk w) :
    Calls Tryd.prog 11 #[.string s, .int .i64 most] w fun e w' => e = .returned (.bool true) ∧ Below w.heap.size w w' := by
  have HG := hidM hG
  clear hG
  go_enter Tryd.func11, Tryd.ntmps11
  go_wp2_with fail
  refine (fewS_any s 400 w).mono ?_
  rintro _ w0 ⟨⟨T, rfl, hT, _⟩, h0⟩
  rw [h0]
  clear h0 w0
  have HTL : Hid (T.data.toList.length = T.size) := Array.length_toList
  go_wp2_with fail
  refine (zread_any T 0 most w (by omega) HG.out).mono ?_
  rintro _ w1 ⟨⟨⟨o, n, e⟩, hq1, rfl⟩, hb1⟩
  have HB1 := hidM hb1
  have HG1 := hidM (HG.out.below hb1)
  clear hb1
  by_cases he : e = 0
  · subst he
    obtain ⟨h2, hh, hnl, hol, k, hnk, hqi⟩ := hq1.ok
    rw [HTL.out] at h2 hnl
    have HQI := hidM hqi
    have HH0 := hidM (fun V => head_any (T[0]).toNat (T[1]).toNat V (UInt8.toNat_lt _) (UInt8.toNat_lt _))
    rw [getD_byte T 0 (by omega), getD_byte T 1 (by omega)] at hh
    rw [hh] at HH0
    have i0 : (0 : Int) < (T.size : Int) := by omega
    have i1 : (1 : Int) < (T.size : Int) := by omega
    have i2 : (n : Int) ≤ (T.size : Int) := by omega
    have i3 : (k : Int) + 6 = (n : Int) := by omega
    have i5 : n ≤ 400 := by omega
    have i6 : IntKind.i64.wrap ((k : Int) + 6) = (n : Int) := by rw [i3]; exact i64_small _ (by omega) (by omega)
    have i7 : IntKind.i64.wrap (n : Int) = (n : Int) := i64_small _ (by omega) (by omega)
    have i8 : ((n : Int) == (n : Int)) = true := by simp
    have HOS : Hid (((⟨o.toArray⟩ : ByteArray).size : Int) ≤ most) := by
      show ((o.toArray.size : Nat) : Int) ≤ most
      rw [List.size_toArray]; exact hol
    clear hq1 hqi hnk hh hol hnl
    go_wp2_with fail
    refine (inflate_any T 2 most w1 (by omega) HG1.out.1 HG1.out.2).mono ?_
    rintro _ w2 ⟨⟨r2, hq2, rfl⟩, hb2⟩
    obtain rfl := hq2.det HQI.out
    have HB2 : Hid (Below w.heap.size w w2) := HB1.out.trans (hb2.mono HB1.out.size)
    have HG2 := hidM (HG1.out.below hb2)
    clear hq2 hb2 HQI
    generalize hO : (⟨o.toArray⟩ : ByteArray) = O at *
    have i4 := HOS.out
    clear hO HOS
    have HAW := hidM (fun V (hV : Hid (DrewOf w2 V)) => (by
      obtain ⟨k, rfl⟩ := hV
      refine (awake6_any (w2.drewN k) (HG2.out.below (below_drewN (Below.refl _ _) k))).mono ?_
      rintro e w' ⟨h1, h2⟩
      exact ⟨h1, HB2.out.trans (((below_drewN (Below.refl _ _) k).trans h2).mono HB2.out.size)⟩ : Calls Tryd.prog 23 #[] V fun e w' => e = .returned (.bool true) ∧ Hid (Below w.heap.size w w')))
    have HD2 := DrewOf.refl w2
    go_wp2_with fail
    go_region_held3 (fun _ => True) (exact trivial)
      (first
        | (go_at_call 23; with_reducible refine (HAW.out _ (by repeat (first | exact HD2 | apply DrewOf.drew | apply DrewOf.drewN))).mono ?_; rintro e w5 ⟨rfl, HUP⟩)
        | (go_at_call 24; with_reducible refine (HH0.out _).mono ?_; rintro e w6 ⟨rfl, h6⟩; rw [h6]; clear h6 w6))
    all_goals
      go_wp2
      go_ret
      exact ⟨rfl, HUP.out⟩
  · obtain ⟨rfl, rfl⟩ := hq1.bad he
    have e0 : ((e : Int) == 0) = false := by simp; omega
    clear hq1
    go_wp2_with fail
    refine (awake6_any w1 HG1.out).mono ?_
    rintro _ w3 ⟨rfl, hb3⟩
    have HB3 : Hid (Below w.heap.size w w3) := HB1.out.trans (hb3.mono HB1.out.size)
    clear hb3
    go_wp2
    go_ret
    exact ⟨rfl, HB3.out⟩
end Go.Proofs.YtkckobhpanghiaaDoor
