/-
  Taken over from another program: LitB.
  Taken over from another program: StoA.
  Taken over from another program: StoB.
-/
import Derived.Test.YtlmeoahcpmikiaaGreatDoorJInfR
import Derived.Test.YtlmeoahcpmikiaaGreatDoorJInfL
import Derived.Test.YtlmeoahcpmikiaaGreatDoorJZlbB
namespace Go.Proofs.YtlmeoahcpmikiaaGreatDoor
open Go.RowKit
set_option maxRecDepth 100000 in
theorem le_inj : ∀ l m : List UInt8, l.length = m.length → le l = le m → l = m
  | [], [], _,_ => rfl
  | b :: l, c :: m, hl, hn => by
    rw [le, le] at hn
    have hb := byte_lt b
    have hc := byte_lt c
    have h1 : le l = le m := by omega
    have h2 : b.toNat = c.toNat := by omega
    have h3 : b = c := UInt8.toNat_inj.1 h2
    rw [h3, le_inj l m (by simpa using hl) h1]
set_option maxRecDepth 100000 in
theorem set_first {α : Type} (P : List α) (k : Nat) (z c : α) : (P ++ List.replicate (k + 1) z).set P.length c = (P ++ [c]) ++ List.replicate k z := by
  rw [List.replicate_succ]
  simp
/-- What one store does to the row, from the front. -/
theorem little_store {w : World} {B g n k : Nat} {v : Value} (x : Nat) (P : List UInt8) (hv : v = .slice (some ⟨g, 0, none⟩) n n)
    (hown : w.ownsRow B 5 1 v n (bytesV (P ++ List.replicate (k + 1) 0))) :
    (w.setCell ⟨g, P.length, none⟩ (.int .u8 (IntKind.u8.wrap (x : Int)))).ownsRow B 5 1 v n (bytesV ((P ++ [UInt8.ofNat (x % 256)]) ++ List.replicate k 0)) := by
  subst hv
  have := (hown.stored P.length (.int .u8 (IntKind.u8.wrap (x : Int)))).1
  rw [u8_wrap, bytesV_set, set_first] at this
  rw [u8_wrap]
  exact this
set_option maxHeartbeats 400000 in
set_option maxRecDepth 100000 in
theorem little_any (x n : Nat) (w : World) (h0 : 1 ≤ n) (h1 : n ≤ 2147483647) :
    Calls Tryz.prog 230 #[.int .u64 x, .int .i64 n] w fun e w' => e = .returned (.string ⟨(littleL x n).toArray⟩) ∧ Below w.heap.size w w' := by
  go_enter Tryz.func230, Tryz.ntmps230
  go_wp2_with fail
  refine (noughts_some n _ h0 h1).mono ?_
  rintro e w1 ⟨rfl, hown, hbel, hlt⟩
  generalize hg : w.heap.size = B at *
  have HG := hidM hg
  clear hg
  go_wp2_with fail
  go_loopw [0, 6] (fun xv i wr => ∃ (k y : Nat) (P : List UInt8), k + P.length = n ∧ i = .int .i64 (P.length : Nat) ∧ xv = .int .u64 y ∧ littleL x n = P ++ littleL y k ∧ wr.ownsRow B 5 1 (.slice (some ⟨B, 0, none⟩) n n) n (bytesV (P ++ List.replicate k 0)) ∧ Below B w wr)
    (fun _ i _ => n - (intOf i).toNat)
  case atStart => exact ⟨n, x, [], by simp, rfl, rfl, by simp, by simpa using hown, hbel⟩
  case round =>
    obtain ⟨k, y, P, hk, rfl, rfl, hT, hownr, hbr⟩ := hrel
    clear hown hbel
    have HT : Hid (littleL x n = P ++ littleL y k) := hT
    clear hT
    rcases k with _ | k
    · have hl : P.length = n := by omega
      have hconv : (convert 74 9 (.slice (some ⟨B, 0, none⟩) n n)).run Tryz.prog wr = .ok (.string ⟨(littleL x n).toArray⟩) wr := by
        have ho : OwnB wr B (.slice (some ⟨B, 0, none⟩) n n) P := by unfold OwnB; rw [hl]; simpa using hownr
        rw [show littleL x n = P by rw [HT.out]; simp [littleL]]
        exact conv_own ho
      have hge : ¬ P.length < n := by omega
      generalize P.length = p at *
      clear hownr HT hl
      go_wp2
      go_ret
      exact ⟨rfl, by rw [HG.out]; exact hbr⟩
    · by_cases hy : y = 0
      · subst hy
        have hconv : (convert 74 9 (.slice (some ⟨B, 0, none⟩) n n)).run Tryz.prog wr = .ok (.string ⟨(littleL x n).toArray⟩) wr := by
          have hl : (P ++ List.replicate (k + 1) (0 : UInt8)).length = n := by simp; omega
          have ho : OwnB wr B (.slice (some ⟨B, 0, none⟩) n n) (P ++ List.replicate (k + 1) 0) := by unfold OwnB; rw [hl]; exact hownr
          rw [show littleL x n = P ++ List.replicate (k + 1) 0 by rw [HT.out, littleL_zero]]
          exact conv_own ho
        generalize P.length = p at *
        have hlt : p < n := by omega
        clear hownr HT
        go_wp2
        go_ret
        exact ⟨rfl, by rw [HG.out]; exact hbr⟩
      · have hne : ((y : Int) != 0) = true := by simp; omega
        have hcell : ∃ v0, wr.cell? ⟨B, P.length, none⟩ = some v0 := by
          have := hownr.cellAt P.length (by omega)
          rw [this]
          have hl : P.length < (bytesV (P ++ List.replicate (k + 1) 0)).length := by simp [bytesV]
          exact ⟨_, List.getElem?_eq_getElem hl⟩
        obtain ⟨v0, hc0⟩ := hcell
        have hfz := hownr.frozenAt P.length
        have HST := hidM (little_store y P rfl hownr)
        have HBS : Hid (Below B w (wr.setCell ⟨B, P.length, none⟩ (.int .u8 (IntKind.u8.wrap (y : Int))))) := hbr.setCell (Nat.le_refl _) _
        have HP : ∃ p, p = P.length := ⟨_, rfl⟩
        obtain ⟨p, hp⟩ := HP
        rw [← hp] at hfz hc0 hk HST HBS
        have HPP := hidM hp
        rw [← hp]
        clear hownr hbr hp
        have hlt : p < n := by omega
        go_wp2
        go_roundw
        case rel => exact ⟨k, y / 256, P ++ [UInt8.ofNat (y % 256)], by simp; rw [← HPP.out]; omega, val_int (by simp; rw [HPP.out]), val_int (by omega), by rw [HT.out]; simp [littleL], HST.out, HBS.out⟩
        case measure => simp [intOf]; omega
end Go.Proofs.YtlmeoahcpmikiaaGreatDoor
namespace Go.Proofs.YtlmeoahcpmikiaaGreatDoor
open Go.RowKit
theorem WAtG.later {w w' : World} {b N T : Nat} (h : WAtG w b N T []) (hb : Below w.heap.size w w') : WAtG w' b N T [] ∧ b < w.heap.size := by
  obtain ⟨v, F, q, hh, hw, h1, h2, h3, h4, _⟩ := h
  exact ⟨⟨v, F, q, hh, hw.below hb, h1, h2, h3, h4, fun p hp => by simp at hp⟩, hw.lt⟩
theorem littleL_two (x : Nat) : littleL x 2 = [UInt8.ofNat (x % 256), UInt8.ofNat (x / 256 % 256)] := rfl
theorem xor_ones64 (a : Nat) (h : a < 65536) : 18446744073709551615 ^^^ a = 18446744073709551615 - a := by
  apply Nat.eq_of_testBit_eq
  intro i
  rw [Nat.testBit_xor, show 18446744073709551615 - a = 2 ^ 64 - (a + 1) by omega, Nat.testBit_two_pow_sub_succ (by omega), show (18446744073709551615 : Nat) = 2 ^ 64 - 1 by decide, Nat.testBit_two_pow_sub_one]
  by_cases hi : i < 64
  · simp [hi]
  · have : a.testBit i = false := Nat.testBit_lt_two_pow (Nat.lt_of_lt_of_le h (Nat.pow_le_pow_right (n := 2) (i := 16) (by decide) (by omega)))
    simp [hi, this]
theorem not_size (n : Nat) (h : n ≤ 65535) : bits .xor .u64 IntKind.u64.max (n : Int) = ((18446744073709551615 - n : Nat) : Int) := by
  rw [show IntKind.u64.max = ((18446744073709551615 : Nat) : Int) by decide, u64_xor_nat _ _ (by decide) (by omega), xor_ones64 n (by omega)]
/-- a stored block as it is put, behind bits that are there -/
def storN (N T last : Nat) (s : List UInt8) : Nat := N + 2 ^ T * last + 2 ^ ((T + 10) / 8 * 8) * (le (littleL s.length 2) + 65536 * le (littleL (18446744073709551615 - s.length) 2) + 4294967296 * le s)
theorem two_pow_split (U : Nat) : 2 ^ (U + 16) = 2 ^ U * 65536 ∧ 2 ^ (U + 32) = 2 ^ U * 4294967296 := by
  constructor <;> rw [Nat.pow_add]
set_option maxHeartbeats 1000000 in
set_option maxRecDepth 100000 in
theorem putStored_any (b N T last : Nat) (s : ByteArray) (w : World) (hb : WAtG w b N T []) (hT : T ≤ 100000000) (hs : s.size ≤ 65535) (hl : last < 2) :
    Calls Tryz.prog 180 #[.pointer (some ⟨b, 0, none⟩), .string s, .int .u32 (last : Int)] w fun e w' => e = .returned (.tuple #[]) ∧ WAtG w' b (storN N T last s.data.toList) ((T + 10) / 8 * 8 + 32 + 8 * s.size) [] ∧ Below b w w' := by
  have HLEN : Hid (s.data.toList.length = s.size) := Array.length_toList
  have HBb := hidM hb
  clear hb
  have e0 : bits .or .u32 (last : Int) 0 = (last : Int) := by
    have : ∀ y : Fin 2, bits .or .u32 ((y.val : Nat) : Int) 0 = ((y.val : Nat) : Int) := by decide +kernel
    exact this ⟨last, hl⟩
  have hmod : last % 2 ^ 3 = last := Nat.mod_eq_of_lt (by omega)
  have hW1 := wbits_g b N T last 3 [] w HBb.out (by omega) (by decide) (by omega)
  rw [hmod] at hW1
  have HW1 := hidM hW1
  obtain ⟨U, hU⟩ : ∃ U, U = (T + 10) / 8 * 8 := ⟨_, rfl⟩
  have hU1 : (T + 3 + 7) / 8 * 8 = U := by omega
  have hU2 : (U + 8 * 2 + 7) / 8 * 8 = U + 16 := by omega
  have hU3 : (U + 16 + 8 * 2 + 7) / 8 * 8 = U + 32 := by omega
  have hU4 : U ≤ 100000100 := by omega
  obtain ⟨n, hn⟩ : ∃ n, n = s.size := ⟨_, rfl⟩
  obtain ⟨c, hc⟩ : ∃ c, c = 18446744073709551615 - n := ⟨_, rfl⟩
  have e1 : IntKind.u64.wrap (n : Int) = (n : Int) := by rw [u64_wrap]; omega
  have e2 : (18446744073709551615 : Int) - (n : Int) = (c : Int) := by omega
  clear hW1 hmod
  go_enter Tryz.func180, Tryz.ntmps180
  go_wp2_with fail
  refine HW1.out.mono ?_
  rintro _ w1 ⟨rfl, hw1, hb1⟩
  have HWA := hidM hw1
  have HB1 := hidM hb1
  clear hw1 hb1 HW1
  go_wp2_with fail
  refine (little_any s.size 2 w1 (by decide) (by decide)).mono ?_
  rintro _ w2 ⟨rfl, hb2⟩
  have HWB := hidM (HWA.out.later hb2).1
  have HB2 : Hid (Below b w w2) := HB1.out.trans (hb2.mono (Nat.le_of_lt (HWA.out.later hb2).2))
  have hLs : ∀ x, (⟨(littleL x 2).toArray⟩ : ByteArray).size = 2 := fun x => rfl
  have HY := hidM (wbytes_g b _ _ ⟨(littleL s.size 2).toArray⟩ [] w2 HWB.out (fun p hp => by simp at hp) (by omega) (by rw [hLs]; decide))
  rw [hLs, hU1] at HY
  clear hb2 HWA HB1
  go_wp2_with fail
  refine HY.out.mono ?_
  rintro _ w3 ⟨rfl, hw3, hb3⟩
  have HWC := hidM hw3
  have HB3 : Hid (Below b w w3) := HB2.out.trans hb3
  clear hw3 hb3 HY HB2 HWB
  have ex := not_size s.size hs
  obtain ⟨d, hd⟩ : ∃ d, d = 18446744073709551615 - s.size := ⟨_, rfl⟩
  rw [← hd] at ex
  have HD := hidM hd
  clear hd
  go_wp2_with fail
  refine (little_any d 2 w3 (by decide) (by decide)).mono ?_
  rintro _ w4 ⟨rfl, hb4⟩
  have HWD := hidM (HWC.out.later hb4).1
  have HB4 : Hid (Below b w w4) := HB3.out.trans (hb4.mono (Nat.le_of_lt (HWC.out.later hb4).2))
  have HY := hidM (wbytes_g b _ _ ⟨(littleL d 2).toArray⟩ [] w4 HWD.out (fun p hp => by simp at hp) (by omega) (by rw [hLs]; decide))
  rw [hLs, hU2] at HY
  clear hb4 HWC HB3
  go_wp2_with fail
  refine HY.out.mono ?_
  rintro _ w5 ⟨rfl, hw5, hb5⟩
  have HWE := hidM hw5
  have HB5 : Hid (Below b w w5) := HB4.out.trans hb5
  clear hw5 hb5 HY HB4 HWD
  have HY := hidM (wbytes_g b _ _ s [] w5 HWE.out (fun p hp => by simp at hp) (by omega) (by omega))
  rw [hU3] at HY
  clear HWE
  go_wp2_with fail
  refine HY.out.mono ?_
  rintro _ w6 ⟨rfl, hw6, hb6⟩
  have HWF := hidM hw6
  have HB6 : Hid (Below b w w6) := HB5.out.trans hb6
  clear hw6 hb6 HY HB5
  go_wp2
  refine bodyPost_end (results_none rfl _ _ _) rfl ⟨rfl, ?_, HB6.out⟩
  have h := HWF.out
  have e5 : storN N T last s.data.toList = N + 2 ^ T * last + 2 ^ U * le (littleL s.size 2) + 2 ^ (U + 16) * le (littleL d 2) + 2 ^ (U + 32) * le s.data.toList := by
    unfold storN
    rw [HLEN.out, ← HD.out, ← hU, (two_pow_split U).1, (two_pow_split U).2]
    generalize 2 ^ U = z
    generalize le (littleL s.size 2) = x1
    generalize le (littleL d 2) = x2
    generalize le s.data.toList = x3
    rw [Nat.mul_add, Nat.mul_add, Nat.mul_assoc, Nat.mul_assoc]
    omega
  rw [e5, ← hU]
  exact h
end Go.Proofs.YtlmeoahcpmikiaaGreatDoor
namespace Go.Proofs.YtlmeoahcpmikiaaGreatDoor
open Go.RowKit
theorem le_five (a b c d e : UInt8) : le [a, b, c, d, e] = a.toNat + 256 * b.toNat + 65536 * c.toNat + 16777216 * d.toNat + 4294967296 * e.toNat := by
  simp only [le]
  omega
theorem le_little2 (x : Nat) : le (littleL x 2) = x % 65536 := by
  rw [littleL_two, le_two, byte_of, byte_of]
  omega
theorem le_storedB (s : List UInt8) (h : s.length ≤ 65535) : le (storedB 1 s) = storN 0 0 1 s := by
  unfold storedB storN
  rw [le_app, le_five, le_little2, le_little2, ofNat_nat 1 (by decide), ofNat_nat _ (Nat.mod_lt _ (by decide)), ofNat_nat _ (by omega), ofNat_nat _ (by omega), ofNat_nat _ (by omega)]
  have e : ∀ z : Nat, [UInt8.ofNat 1, UInt8.ofNat (s.length % 256), UInt8.ofNat (s.length / 256), UInt8.ofNat (255 - s.length % 256), UInt8.ofNat (255 - s.length / 256)].length = 5 := fun _ => rfl
  rw [e 0]
  generalize le s = x
  generalize s.length = n at *
  have h1 : (18446744073709551615 - n) % 65536 = 65535 - n := by omega
  rw [h1]
  omega
theorem storedB_len (k : Nat) (s : List UInt8) : (storedB k s).length = 5 + s.length := by unfold storedB; rw [List.length_append]; rfl
set_option maxHeartbeats 1000000 in
set_option maxRecDepth 100000 in
theorem stored_any (s : ByteArray) (w : World) (hs : s.size ≤ 65535) :
    Calls Tryz.prog 123 #[.string s] w fun e w' => e = .returned (.string ⟨(storedB 1 s.data.toList).toArray⟩) ∧ Below w.heap.size w w' := by
  have HLEN : Hid (s.data.toList.length = s.size) := Array.length_toList
  have k1 : ¬ (65535 : Int) < (s.size : Int) := by omega
  have HW0 : Hid (WAtG (w.alloc (.cells #[.slice none 0 0, .int .u64 0, .int .i64 0] 230)) w.heap.size 0 0 []) := by
    obtain ⟨v, F, q, h, h1, h2, h3, h4, h5⟩ := WAt.new w
    exact ⟨v, F, q, h, h1, h2, h3, h4, h5, fun p hp => by simp at hp⟩
  have HB0 : Hid (Below w.heap.size w (w.alloc (.cells #[.slice none 0 0, .int .u64 0, .int .i64 0] 230))) := (Below.refl _ _).alloc (Nat.le_refl _) _
  go_enter Tryz.func123, Tryz.ntmps123
  go_wp2
  go_loopw [0] (fun v wr => v = .string s ∧ WAtG wr w.heap.size 0 0 [] ∧ Below w.heap.size w wr) (fun _ _ => 0)
  case atStart => exact ⟨rfl, HW0.out, HB0.out⟩
  case round =>
    obtain ⟨rfl, hwa, hbl⟩ := hrel
    have HWA := hidM hwa
    have HBL := hidM hbl
    clear hwa hbl HW0 HB0
    go_wp2_with fail
    refine (putStored_any w.heap.size 0 0 1 s wr HWA.out (by decide) hs (by decide)).mono ?_
    rintro _ w1 ⟨rfl, hw1, hb1⟩
    have HW1 : Hid (WAt w1 w.heap.size (storN 0 0 1 s.data.toList) ((0 + 10) / 8 * 8 + 32 + 8 * s.size)) := by
      obtain ⟨v, F, q, h, h1, h2, h3, h4, h5, _⟩ := hw1
      exact ⟨v, F, q, h, h1, h2, h3, h4, h5⟩
    have HB1 : Hid (Below w.heap.size w w1) := HBL.out.trans hb1
    clear hw1 hb1 HWA HBL
    go_wp2_with fail
    refine (wtext_at w.heap.size _ _ w1 HW1.out (by omega)).mono ?_
    rintro _ w2 ⟨⟨Z, rfl, hle, hsz⟩, hb2⟩
    have HZ : Hid (Z = ⟨(storedB 1 s.data.toList).toArray⟩) := by
      refine bytes_ext ?_
      refine le_inj _ _ ?_ ?_
      · show Z.data.toList.length = (storedB 1 s.data.toList).length
        rw [Array.length_toList, storedB_len, HLEN.out]
        show Z.size = _
        rw [hsz]
        omega
      · rw [hle]
        exact (le_storedB _ (by rw [HLEN.out]; exact hs)).symm
    have HB2 : Hid (Below w.heap.size w w2) := HB1.out.trans (hb2.mono HB1.out.size)
    clear hle hsz hb2
    go_wp2
    go_ret
    exact ⟨by rw [HZ.out]; rfl, HB2.out⟩
theorem str_add (a x : ByteArray) : (a ++ x).data.toList = a.data.toList ++ x.data.toList := by simp
/-- Read of a frame whose stream is told -/
theorem ZQ.good {l : List UInt8} {A M t : Nat} {o : List UInt8} {r : List UInt8 × Nat × Nat} (h : ZQ l A M r) (hA : A + 2 ≤ l.length) (hM : M ≤ 65536) (hh : headB (l.getD A 0).toNat (l.getD (A + 1) 0).toNat = true)
    (hr : Run (l.drop (A + 2)) M (.blk false) 0 [] (.good t o)) (hl : A + 2 + (t + 7) / 8 + 4 ≤ l.length) (hz : (l.drop (A + 2 + (t + 7) / 8)).take 4 = zsum o) : r = (o, (t + 7) / 8 + 6, 0) := by
  rcases h with ⟨h, _⟩ | ⟨A', M', ha, hm, _,_, h⟩
  · omega
  · obtain rfl : A = A' := by omega
    obtain rfl : M = M' := by omega
    rcases h with ⟨h, _⟩ | ⟨_, h, _⟩ | ⟨_,_, o', n, e, hq, h⟩
    · omega
    · rw [hh] at h; cases h
    · have h2 := hq.run (by omega) hM hr
      simp only [Prod.mk.injEq] at h2
      obtain ⟨rfl, rfl, rfl⟩ := h2
      rcases h with ⟨h, _⟩ | ⟨_, h, _⟩ | ⟨_,_, h, _⟩ | ⟨_,_,_, h⟩
      · exact absurd rfl h
      · omega
      · exact absurd hz h
      · exact h
end Go.Proofs.YtlmeoahcpmikiaaGreatDoor
