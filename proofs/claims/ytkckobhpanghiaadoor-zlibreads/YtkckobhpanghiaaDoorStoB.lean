/-
  Walks of inflate, the writing side: Stored; zlib's Plain.
-/
import Derived.Test.YtkckobhpanghiaaDoorStoA
import Derived.Test.YtkckobhpanghiaaDoorZlbB
namespace Go.Proofs.YtkckobhpanghiaaDoor
open Go.RowKit

theorem le_five (a b c d e : UInt8) : le [a, b, c, d, e] = a.toNat + 256 * b.toNat + 65536 * c.toNat + 16777216 * d.toNat + 4294967296 * e.toNat := by
  simp only [le]
  omega
theorem le_little2 (x : Nat) : le (littleL x 2) = x % 65536 := by
  rw [littleL_two, le_two, byte_of, byte_of]
  omega
theorem le_storedB (s : List UInt8) (h : s.length ≤ 65535) : le (storedB 1 s) = storN 0 0 1 s := by
  unfold storedB storN
  rw [le_app, le_five, le_little2, le_little2, ofNat_nat 1 (by decide), ofNat_nat _ (Nat.mod_lt _ (by decide)), ofNat_nat _ (by omega), ofNat_nat _ (by omega), ofNat_nat _ (by omega)]
  have e : ∀ z : Nat, [UInt8.ofNat 1, UInt8.ofNat (s.length % 256), UInt8.ofNat (s.length / 256), UInt8.ofNat (255 - s.length % 256), UInt8.ofNat (255 - s.length / 256)].length = 5 := fun _ => rfl
  rw [e 0]
  generalize le s = x
  generalize s.length = n at *
  have h1 : (18446744073709551615 - n) % 65536 = 65535 - n := by omega
  rw [h1]
  omega
theorem storedB_len (k : Nat) (s : List UInt8) : (storedB k s).length = 5 + s.length := by unfold storedB; rw [List.length_append]; rfl
set_option maxHeartbeats 1000000 in
set_option maxRecDepth 100000 in
theorem stored_any (s : ByteArray) (w : World) (hs : s.size ≤ 65535) :
    Calls Tryd.prog 18 #[.string s] w fun e w' => e = .returned (.string ⟨(storedB 1 s.data.toList).toArray⟩) ∧ Below w.heap.size w w' := by
  have HLEN : Hid (s.data.toList.length = s.size) := Array.length_toList
  have k1 : ¬ (65535 : Int) < (s.size : Int) := by omega
  have HW0 : Hid (WAtG (w.alloc (.cells #[.slice none 0 0, .int .u64 0, .int .i64 0] 67)) w.heap.size 0 0 []) := by
    obtain ⟨v, F, q, h, h1, h2, h3, h4, h5⟩ := WAt.new w
    exact ⟨v, F, q, h, h1, h2, h3, h4, h5, fun p hp => by simp at hp⟩
  have HB0 : Hid (Below w.heap.size w (w.alloc (.cells #[.slice none 0 0, .int .u64 0, .int .i64 0] 67))) := (Below.refl _ _).alloc (Nat.le_refl _) _
  go_enter Tryd.func18, Tryd.ntmps18
  go_wp2
  go_loopw [0] (fun v wr => v = .string s ∧ WAtG wr w.heap.size 0 0 [] ∧ Below w.heap.size w wr) (fun _ _ => 0)
  case atStart => exact ⟨rfl, HW0.out, HB0.out⟩
  case round =>
    obtain ⟨rfl, hwa, hbl⟩ := hrel
    have HWA := hidM hwa
    have HBL := hidM hbl
    clear hwa hbl HW0 HB0
    go_wp2_with fail
    refine (putStored_any w.heap.size 0 0 1 s wr HWA.out (by decide) hs (by decide)).mono ?_
    rintro _ w1 ⟨rfl, hw1, hb1⟩
    have HW1 : Hid (WAt w1 w.heap.size (storN 0 0 1 s.data.toList) ((0 + 10) / 8 * 8 + 32 + 8 * s.size)) := by
      obtain ⟨v, F, q, h, h1, h2, h3, h4, h5, _⟩ := hw1
      exact ⟨v, F, q, h, h1, h2, h3, h4, h5⟩
    have HB1 : Hid (Below w.heap.size w w1) := HBL.out.trans hb1
    clear hw1 hb1 HWA HBL
    go_wp2_with fail
    refine (wtext_at w.heap.size _ _ w1 HW1.out (by omega)).mono ?_
    rintro _ w2 ⟨⟨Z, rfl, hle, hsz⟩, hb2⟩
    have HZ : Hid (Z = ⟨(storedB 1 s.data.toList).toArray⟩) := by
      refine bytes_ext ?_
      refine le_inj _ _ ?_ ?_
      · show Z.data.toList.length = (storedB 1 s.data.toList).length
        rw [Array.length_toList, storedB_len, HLEN.out]
        show Z.size = _
        rw [hsz]
        omega
      · rw [hle]
        exact (le_storedB _ (by rw [HLEN.out]; exact hs)).symm
    have HB2 : Hid (Below w.heap.size w w2) := HB1.out.trans (hb2.mono HB1.out.size)
    clear hle hsz hb2
    go_wp2
    go_ret
    exact ⟨by rw [HZ.out]; rfl, HB2.out⟩
theorem str_add (a x : ByteArray) : (a ++ x).data.toList = a.data.toList ++ x.data.toList := by simp
/-- a frame of a stored text -/
def plainL (s : List UInt8) : List UInt8 := [120, 1] ++ storedB 1 s ++ zsum s
set_option maxHeartbeats 1000000 in
set_option maxRecDepth 100000 in
theorem plain_any (s : ByteArray) (w : World) (hs : s.size ≤ 65535) :
    Calls Tryd.prog 27 #[.string s] w fun e w' => e = .returned (.string ⟨(plainL s.data.toList).toArray⟩) ∧ Below w.heap.size w w' := by
  have HLEN : Hid (s.data.toList.length = s.size) := Array.length_toList
  go_enter Tryd.func27, Tryd.ntmps27
  go_wp2_with fail
  refine (stored_any s w hs).mono ?_
  rintro _ w1 ⟨rfl, hb1⟩
  have HB1 := hidM hb1
  clear hb1
  generalize hZ : (⟨(storedB 1 s.data.toList).toArray⟩ : ByteArray) = Z at *
  have HZ : Hid (Z.data.toList = storedB 1 s.data.toList) := by unfold Hid; rw [← hZ]
  have hzs : Z.size ≤ 70000 := by
    have : Z.data.toList.length = Z.size := Array.length_toList
    rw [← this, HZ.out, storedB_len, HLEN.out]; omega
  clear hZ
  go_wp2_with fail
  refine (sumOf_any s w1 (by unfold maxLen; omega)).mono ?_
  rintro _ w2 ⟨rfl, hb2⟩
  have HB2 : Hid (Below w.heap.size w w2) := HB1.out.trans (hb2.mono HB1.out.size)
  clear hb2
  generalize hY : (⟨(zsum s.data.toList).toArray⟩ : ByteArray) = Y at *
  have HY : Hid (Y.data.toList = zsum s.data.toList) := by unfold Hid; rw [← hY]
  have hys : Y.size ≤ 4 := by
    have : Y.data.toList.length = Y.size := Array.length_toList
    rw [← this, HY.out]; unfold zsum; rw [bigL_len]; exact Nat.le_refl _
  clear hY
  generalize hQ : (⟨#[120, 1]⟩ ++ Z : ByteArray) = Q at *
  have HQ : Hid (Q.data.toList = [120, 1] ++ storedB 1 s.data.toList) := by unfold Hid; rw [← hQ, str_add, HZ.out]
  have hqs : Q.size ≤ 70002 := by rw [← hQ, ByteArray.size_append]; show 2 + Z.size ≤ 70002; omega
  clear hQ
  have HF : Hid ((Q ++ Y : ByteArray) = ⟨(plainL s.data.toList).toArray⟩) := by
    refine bytes_ext ?_
    rw [str_add, HQ.out, HY.out]
    rfl
  go_wp2
  go_ret
  exact ⟨by rw [← HF.out]; rfl, HB2.out⟩
theorem plain_a : plainL [97] = [120, 1, 1, 1, 0, 254, 255, 97, 0, 98, 0, 98] := by decide +kernel
/-- Read of a frame whose stream is told -/
theorem ZQ.good {l : List UInt8} {A M t : Nat} {o : List UInt8} {r : List UInt8 × Nat × Nat} (h : ZQ l A M r) (hA : A + 2 ≤ l.length) (hM : M ≤ 65536) (hh : headB (l.getD A 0).toNat (l.getD (A + 1) 0).toNat = true)
    (hr : Run (l.drop (A + 2)) M (.blk false) 0 [] (.good t o)) (hl : A + 2 + (t + 7) / 8 + 4 ≤ l.length) (hz : (l.drop (A + 2 + (t + 7) / 8)).take 4 = zsum o) : r = (o, (t + 7) / 8 + 6, 0) := by
  rcases h with ⟨h, _⟩ | ⟨A', M', ha, hm, _, _, h⟩
  · omega
  · obtain rfl : A = A' := by omega
    obtain rfl : M = M' := by omega
    rcases h with ⟨h, _⟩ | ⟨_, h, _⟩ | ⟨_, _, o', n, e, hq, h⟩
    · omega
    · rw [hh] at h; cases h
    · have h2 := hq.run (by omega) hM hr
      simp only [Prod.mk.injEq] at h2
      obtain ⟨rfl, rfl, rfl⟩ := h2
      rcases h with ⟨h, _⟩ | ⟨_, h, _⟩ | ⟨_, _, h, _⟩ | ⟨_, _, _, h⟩
      · exact absurd rfl h
      · omega
      · exact absurd hz h
      · exact h
set_option maxHeartbeats 1000000 in
set_option maxRecDepth 100000 in
theorem awake6_any (w : World) (hG : GOk w) : Calls Tryd.prog 23 #[] w fun e w' => e = .returned (.bool true) ∧ Below w.heap.size w w' := by
  have HG := hidM hG
  clear hG
  go_enter Tryd.func23, Tryd.ntmps23
  go_wp2_with fail
  refine (zread_any ⟨#[120, 1, 1, 1, 0, 254, 255, 97, 0, 98, 0, 98]⟩ 0 5 w (by decide) HG.out).mono ?_
  rintro _ w1 ⟨⟨r, hq, rfl⟩, hb⟩
  have h1 := ZQ.good (A := 0) (M := 5) hq (by decide) (by decide) (by decide +kernel) awake_z (by decide) (by decide +kernel)
  subst h1
  have HB1 := hidM hb
  clear hb hq
  have HP := hidM (plain_any ⟨#[97]⟩ w1 (by decide))
  rw [show (⟨#[97]⟩ : ByteArray).data.toList = [97] from rfl, plain_a] at HP
  go_wp2_with fail
  refine HP.out.mono ?_
  rintro _ w2 ⟨rfl, hb2⟩
  have HB2 : Hid (Below w.heap.size w w2) := HB1.out.trans (hb2.mono HB1.out.size)
  clear hb2 HP
  go_wp2
  go_ret
  exact ⟨rfl, HB2.out⟩
end Go.Proofs.YtkckobhpanghiaaDoor
