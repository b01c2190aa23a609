/-
  ShaAsks: asking for a sum changes nothing of what is added up further: the walk.
-/
import Derived.Test.YtbodjopdhciaeabDoorShaP
import Derived.SliceStrings
namespace Go.Proofs.YtbodjopdhciaeabDoor
open Go.RowKit

/-- A slice whose first 'len' cells hold the strings f. -/
def StrsAt (w : World) (a : Option Addr) (len : Nat) (f : Nat → ByteArray) : Prop :=
  len ≤ maxLen ∧ (len = 0 ∨ ∃ b off, a = some ⟨b, off, none⟩ ∧ ∀ i, i < len → w.cell? ⟨b, off + i, none⟩ = some (.string (f i)))
theorem StrsAt.below {w w' : World} {a : Option Addr} {len : Nat} {f : Nat → ByteArray} (h : StrsAt w a len f) (hb : Below w.heap.size w w') : StrsAt w' a len f := by
  refine ⟨h.1, ?_⟩
  rcases h.2 with h0 | ⟨b, off, rfl, hc⟩
  · exact .inl h0
  · exact .inr ⟨b, off, rfl, fun i hi => (hb.cell (p := ⟨b, off + i, none⟩) (World.block_lt_of_cell? w _ (hc i hi))).trans (hc i hi)⟩
theorem StrsAt.get {w : World} {a : Option Addr} {len : Nat} {f : Nat → ByteArray} (h : StrsAt w a len f) (i : Nat) (hi : i < len) : ∃ b off, a = some ⟨b, off, none⟩ ∧ w.cell? ⟨b, off + i, none⟩ = some (.string (f i)) := by
  rcases h.2 with h0 | ⟨b, off, rfl, hc⟩
  · omega
  · exact ⟨b, off, rfl, hc i hi⟩
/-- A slice whose first 'len' cells hold the answers g. -/
def BoolsAt (w : World) (a : Option Addr) (len : Nat) (g : Nat → Bool) : Prop :=
  len ≤ maxLen ∧ (len = 0 ∨ ∃ b off, a = some ⟨b, off, none⟩ ∧ ∀ i, i < len → w.cell? ⟨b, off + i, none⟩ = some (.bool (g i)))
theorem BoolsAt.below {w w' : World} {a : Option Addr} {len : Nat} {g : Nat → Bool} (h : BoolsAt w a len g) (hb : Below w.heap.size w w') : BoolsAt w' a len g := by
  refine ⟨h.1, ?_⟩
  rcases h.2 with h0 | ⟨b, off, rfl, hc⟩
  · exact .inl h0
  · exact .inr ⟨b, off, rfl, fun i hi => (hb.cell (p := ⟨b, off + i, none⟩) (World.block_lt_of_cell? w _ (hc i hi))).trans (hc i hi)⟩
theorem BoolsAt.get {w : World} {a : Option Addr} {len : Nat} {g : Nat → Bool} (h : BoolsAt w a len g) (i : Nat) (hi : i < len) : ∃ b off, a = some ⟨b, off, none⟩ ∧ w.cell? ⟨b, off + i, none⟩ = some (.bool (g i)) := by
  rcases h.2 with h0 | ⟨b, off, rfl, hc⟩
  · omega
  · exact ⟨b, off, rfl, hc i hi⟩

/-- Five sums side by side. -/
structure Five (w0 w : World) (a b o c d : List UInt8) : Prop where
  ha : HashS mixL1 h0 38 w (w0.heap.size) a
  hb : HashS mixL1 h0 38 w (w0.heap.size + 1) b
  ho : HashS mixL1 h0 38 w (w0.heap.size + 1 + 1) o
  hc : HashS mixL2 h2 41 w (w0.heap.size + 1 + 1 + 1) c
  hd : HashS mixL2 h2 41 w (w0.heap.size + 1 + 1 + 1 + 1) d
  bel : Below w0.heap.size w0 w
  sz : w0.heap.size + 1 + 1 + 1 + 1 < w.heap.size
theorem Five.below {w0 w w' : World} {a b o c d : List UInt8} (h : Five w0 w a b o c d) (hb : Below w.heap.size w w') : Five w0 w' a b o c d := by
  have hs := h.sz
  exact ⟨h.ha.same (hb.block _ (by omega)), h.hb.same (hb.block _ (by omega)), h.ho.same (hb.block _ (by omega)), h.hc.same (hb.block _ (by omega)), h.hd.same (hb.block _ (by omega)), h.bel.trans (hb.mono h.bel.size), Nat.lt_of_lt_of_le h.sz hb.size⟩
theorem Five.puta {w0 w w' : World} {a b o c d t : List UInt8} (h : Five w0 w a b o c d) (hh : HashS mixL1 h0 38 w' (w0.heap.size) (a ++ t)) (hb : But (w0.heap.size) w.heap.size w w') : Five w0 w' (a ++ t) b o c d := by
  have hs := h.sz
  exact ⟨hh, h.hb.same (hb.block _ (by omega) (by omega)), h.ho.same (hb.block _ (by omega) (by omega)), h.hc.same (hb.block _ (by omega) (by omega)), h.hd.same (hb.block _ (by omega) (by omega)), h.bel.trans ((hb.mono h.bel.size).below (by omega)), Nat.lt_of_lt_of_le h.sz hb.size⟩
theorem Five.putb {w0 w w' : World} {a b o c d t : List UInt8} (h : Five w0 w a b o c d) (hh : HashS mixL1 h0 38 w' (w0.heap.size + 1) (b ++ t)) (hb : But (w0.heap.size + 1) w.heap.size w w') : Five w0 w' a (b ++ t) o c d := by
  have hs := h.sz
  exact ⟨h.ha.same (hb.block _ (by omega) (by omega)), hh, h.ho.same (hb.block _ (by omega) (by omega)), h.hc.same (hb.block _ (by omega) (by omega)), h.hd.same (hb.block _ (by omega) (by omega)), h.bel.trans ((hb.mono h.bel.size).below (by omega)), Nat.lt_of_lt_of_le h.sz hb.size⟩
theorem Five.puto {w0 w w' : World} {a b o c d t : List UInt8} (h : Five w0 w a b o c d) (hh : HashS mixL1 h0 38 w' (w0.heap.size + 1 + 1) (o ++ t)) (hb : But (w0.heap.size + 1 + 1) w.heap.size w w') : Five w0 w' a b (o ++ t) c d := by
  have hs := h.sz
  exact ⟨h.ha.same (hb.block _ (by omega) (by omega)), h.hb.same (hb.block _ (by omega) (by omega)), hh, h.hc.same (hb.block _ (by omega) (by omega)), h.hd.same (hb.block _ (by omega) (by omega)), h.bel.trans ((hb.mono h.bel.size).below (by omega)), Nat.lt_of_lt_of_le h.sz hb.size⟩
theorem Five.putc {w0 w w' : World} {a b o c d t : List UInt8} (h : Five w0 w a b o c d) (hh : HashS mixL2 h2 41 w' (w0.heap.size + 1 + 1 + 1) (c ++ t)) (hb : But (w0.heap.size + 1 + 1 + 1) w.heap.size w w') : Five w0 w' a b o (c ++ t) d := by
  have hs := h.sz
  exact ⟨h.ha.same (hb.block _ (by omega) (by omega)), h.hb.same (hb.block _ (by omega) (by omega)), h.ho.same (hb.block _ (by omega) (by omega)), hh, h.hd.same (hb.block _ (by omega) (by omega)), h.bel.trans ((hb.mono h.bel.size).below (by omega)), Nat.lt_of_lt_of_le h.sz hb.size⟩
theorem Five.putd {w0 w w' : World} {a b o c d t : List UInt8} (h : Five w0 w a b o c d) (hh : HashS mixL2 h2 41 w' (w0.heap.size + 1 + 1 + 1 + 1) (d ++ t)) (hb : But (w0.heap.size + 1 + 1 + 1 + 1) w.heap.size w w') : Five w0 w' a b o c (d ++ t) := by
  have hs := h.sz
  exact ⟨h.ha.same (hb.block _ (by omega) (by omega)), h.hb.same (hb.block _ (by omega) (by omega)), h.ho.same (hb.block _ (by omega) (by omega)), h.hc.same (hb.block _ (by omega) (by omega)), hh, h.bel.trans ((hb.mono h.bel.size).below (by omega)), Nat.lt_of_lt_of_le h.sz hb.size⟩
theorem five_start (w : World) : Five w (((((w.alloc (.cells zB1 38)).alloc (.cells zB1 38)).alloc (.cells zB1 38)).alloc (.cells zB2 41)).alloc (.cells zB2 41)) [] [] [] [] [] := by
  refine ⟨hashS_zero1 _ _ ?_, hashS_zero1 _ _ ?_, hashS_zero1 _ _ ?_, hashS_zero2 _ _ ?_, hashS_zero2 _ _ ?_, ?_, by simp⟩
  · rw [Below.heap_alloc _ _ _ (by simp <;> omega), Below.heap_alloc _ _ _ (by simp <;> omega), Below.heap_alloc _ _ _ (by simp <;> omega), Below.heap_alloc _ _ _ (by simp), _root_.Go.heap_alloc_new]
  · rw [Below.heap_alloc _ _ _ (by simp <;> omega), Below.heap_alloc _ _ _ (by simp <;> omega), Below.heap_alloc _ _ _ (by simp)]
    have := _root_.Go.heap_alloc_new (w.alloc (.cells zB1 38)) (.cells zB1 38)
    simpa using this
  · rw [Below.heap_alloc _ _ _ (by simp <;> omega), Below.heap_alloc _ _ _ (by simp)]
    have := _root_.Go.heap_alloc_new ((w.alloc (.cells zB1 38)).alloc (.cells zB1 38)) (.cells zB1 38)
    simpa using this
  · rw [Below.heap_alloc _ _ _ (by simp)]
    have := _root_.Go.heap_alloc_new (((w.alloc (.cells zB1 38)).alloc (.cells zB1 38)).alloc (.cells zB1 38)) (.cells zB2 41)
    simpa using this
  · have := _root_.Go.heap_alloc_new ((((w.alloc (.cells zB1 38)).alloc (.cells zB1 38)).alloc (.cells zB1 38)).alloc (.cells zB2 41)) (.cells zB2 41)
    simpa using this
  · exact ((((((Below.refl _ _).alloc (Nat.le_refl _) _).alloc (by simp) _).alloc (by simp <;> omega) _).alloc (by simp <;> omega) _).alloc (by simp <;> omega) _)
theorem str_add (a x : ByteArray) : (a ++ x).data.toList = a.data.toList ++ x.data.toList := by simp

set_option maxRecDepth 100000 in
set_option maxHeartbeats 3200000 in
theorem asks_walk (a : Option Addr) (len cap : Nat) (f : Nat → ByteArray) (a2 : Option Addr) (len2 cap2 : Nat) (g : Nat → Bool) (w : World) (hT : Tab2 w) (hf : StrsAt w a len f) (hg : BoolsAt w a2 len2 g) :
    Calls Tryd.prog 5 #[.slice a len cap, .slice a2 len2 cap2] w fun e w' => e = .returned (.bool true) ∧ Below w.heap.size w w' := by
  have hlen : len ≤ 9223372036854775807 := by have := hf.1; unfold maxLen at this; omega
  have hlen2 : len2 ≤ 9223372036854775807 := by have := hg.1; unfold maxLen at this; omega
  have HT := hidM hT
  have HT1 : Hid (1 < w.heap.size) := hT.1
  have HF := hidM hf
  have HG := hidM hg
  have HS0 := hidM (five_start w)
  have hz1 := zero38
  have hz2 := zero41
  clear hT hf hg
  generalize hZ1 : zB1 = Z1 at *
  generalize hZ2 : zB2 = Z2 at *
  clear hZ1 hZ2
  go_enter Tryd.func5, Tryd.ntmps5
  go_wp2
  clear hz1 hz2
  go_loopw [10, 11] (fun i _ wr => ∃ (k : Nat) (A O : List UInt8), k ≤ len ∧ k ≤ 20 ∧ i = .int .i64 k ∧ A.length ≤ 200 * k ∧ O.length ≤ 201 * k ∧ Five w wr A A O A A) (fun i _ _ => 20 - (intOf i).toNat)
  case atStart => exact ⟨0, [], [], Nat.zero_le _, by omega, rfl, Nat.zero_le _, Nat.zero_le _, HS0.out⟩
  case round =>
    obtain ⟨k, A, O, hk, hk20, rfl, hA, hO, hfive⟩ := hrel
    have HV := hidM hfive
    clear hfive HS0
    by_cases hlt : k < len ∧ k < 20
    · obtain ⟨hl1, hl2⟩ := hlt
      obtain ⟨bb, off, rfl, hc⟩ := (HF.out.below HV.out.bel).get k hl1
      have kk : (k : Int) < (len : Int) := by omega
      generalize f k = S at *
      go_wp2_with fail
      refine (few_any S 200 _).mono ?_
      rintro _ w1 ⟨⟨t, rfl, ht, _⟩, rfl⟩
      clear hc
      go_wp2_with fail
      refine (write1_any w.heap.size A t w1 (by have := HV.out.sz; omega) (by omega) HV.out.ha).mono ?_
      rintro _ w2 ⟨rfl, hh2, hb2⟩
      have HV2 := hidM (HV.out.puta hh2 hb2)
      clear hh2 hb2 HV
      have hadd : ∀ v : World, (Op.stringOp .add ⟨#[63]⟩ t).run Tryd.prog v = .ok (.string (⟨#[63]⟩ ++ t)) v := fun v => run_string_add_sum _ _ _ (by show 1 + t.size ≤ _; omega)
      have HQ : Hid ((⟨#[63]⟩ ++ t : ByteArray).size ≤ 201) := by unfold Hid; rw [ByteArray.size_append]; show 1 + t.size ≤ _; omega
      go_wp2_with fail
      generalize (⟨#[63]⟩ ++ t : ByteArray) = q at *
      refine (write1_any (w.heap.size + 1 + 1) O q w2 (by have := HV2.out.sz; omega) (by have := HQ.out; omega) HV2.out.ho).mono ?_
      rintro _ w3 ⟨rfl, hh3, hb3⟩
      have HV3 := hidM (HV2.out.puto hh3 hb3)
      clear hh3 hb3 HV2 hadd
      go_wp2_with fail
      refine (write1_any (w.heap.size + 1) A t w3 (by have := HV3.out.sz; omega) (by omega) HV3.out.hb).mono ?_
      rintro _ w4 ⟨rfl, hh4, hb4⟩
      have HV4 := hidM (HV3.out.putb hh4 hb4)
      clear hh4 hb4 HV3
      go_wp2_with fail
      refine (write2_any (w.heap.size + 1 + 1 + 1) A t w4 (by have := HV4.out.sz; omega) (by omega) (HT.out.below HV4.out.bel HT1.out) (by have := HT1.out; omega) HV4.out.hc).mono ?_
      rintro _ w5 ⟨rfl, hh5, hb5⟩
      have HV5 := hidM (HV4.out.putc hh5 hb5)
      clear hh5 hb5 HV4
      go_wp2_with fail
      refine (write2_any (w.heap.size + 1 + 1 + 1 + 1) A t w5 (by have := HV5.out.sz; omega) (by omega) (HT.out.below HV5.out.bel HT1.out) (by have := HT1.out; omega) HV5.out.hd).mono ?_
      rintro _ w6 ⟨rfl, hh6, hb6⟩
      have HV6 := hidM (HV5.out.putd hh6 hb6)
      clear hh6 hb6 HV5
      have HA2 : Hid ((A ++ t.data.toList).length ≤ 200 * (k + 1)) := by unfold Hid; rw [List.length_append]; simp; omega
      have HO2 : Hid ((O ++ q.data.toList).length ≤ 201 * (k + 1)) := by unfold Hid; rw [List.length_append]; have := HQ.out; simp; omega
      have hA4 : (A ++ t.data.toList).length ≤ 549755813888 := by have := HA2.out; omega
      generalize A ++ t.data.toList = A' at *
      generalize O ++ q.data.toList = O' at *
      by_cases hj : k < len2
      · obtain ⟨b2, o2, rfl, hc2⟩ := (HG.out.below HV6.out.bel).get k hj
        have kj : (k : Int) < (len2 : Int) := by omega
        cases hgk : g k
        · rw [hgk] at hc2
          clear hgk
          go_wp2
          go_roundw
          case rel => exact ⟨k + 1, A', O', by omega, by omega, by go_num, HA2.out, HO2.out, HV6.out⟩
          case measure => simp [intOf]; omega
        · rw [hgk] at hc2
          clear hgk
          go_wp2_with fail
          refine (sum1_any w.heap.size A' w6 (by have := HV6.out.sz; omega) hA4 HV6.out.ha).mono ?_
          rintro _ w7 ⟨rfl, hb7⟩
          have HV7 := hidM (HV6.out.below hb7)
          clear hb7 hc2
          go_wp2_with fail
          refine (sum2_any (w.heap.size + 1 + 1 + 1) A' w7 (by have := HV7.out.sz; omega) hA4 (HT.out.below HV7.out.bel HT1.out) HV7.out.hc).mono ?_
          rintro _ w8 ⟨rfl, hb8⟩
          have HV8 := hidM (HV7.out.below hb8)
          clear hb8
          go_wp2_with fail
          refine (sum2_any (w.heap.size + 1 + 1 + 1) A' w8 (by have := HV8.out.sz; omega) hA4 (HT.out.below HV8.out.bel HT1.out) HV8.out.hc).mono ?_
          rintro _ w9 ⟨rfl, hb9⟩
          have HV9 := hidM (HV8.out.below hb9)
          clear hb9
          go_wp2
          go_roundw
          case rel => exact ⟨k + 1, A', O', by omega, by omega, by go_num, HA2.out, HO2.out, HV9.out⟩
          case measure => simp [intOf]; omega
      · have kj : ¬ (k : Int) < (len2 : Int) := by omega
        go_wp2
        go_roundw
        case rel => exact ⟨k + 1, A', O', by omega, by omega, by go_num, HA2.out, HO2.out, HV6.out⟩
        case measure => simp [intOf]; omega
    · have hA4 : A.length ≤ 549755813888 := by omega
      have HX1 : Hid ((⟨(sha1L A).toArray⟩ : ByteArray).size = 20) := by unfold Hid; show (sha1L A).toArray.size = 20; rw [List.size_toArray, sha1L_len]
      have HX2 : Hid ((⟨(sha2L A).toArray⟩ : ByteArray).size = 32) := by unfold Hid; show (sha2L A).toArray.size = 32; rw [List.size_toArray, sha2L_len]
      have HSA := hidM (fun v h1 h2 => sum1_any w.heap.size A v h1 hA4 h2)
      have HSB := hidM (fun v h1 h2 => sum1_any (w.heap.size + 1) A v h1 hA4 h2)
      have HSC := hidM (fun v h1 h2 h3 => sum2_any (w.heap.size + 1 + 1 + 1) A v h1 hA4 h2 h3)
      have HSD := hidM (fun v h1 h2 h3 => sum2_any (w.heap.size + 1 + 1 + 1 + 1) A v h1 hA4 h2 h3)
      generalize (⟨(sha1L A).toArray⟩ : ByteArray) = S1 at *
      generalize (⟨(sha2L A).toArray⟩ : ByteArray) = S2 at *
      have x1 : ((S1.size : Int) == 20) = true := by rw [HX1.out]; rfl
      have x2 : ((S2.size : Int) == 32) = true := by rw [HX2.out]; rfl
      by_cases hl1 : k < len
      · have hl2 : ¬ k < 20 := fun h => hlt ⟨hl1, h⟩
        have q1 : (k : Int) < (len : Int) := by omega
        have q2 : ¬ (k : Int) < 20 := by omega
        go_wp2_with fail
        refine (awake_any wr (HT.out.below HV.out.bel HT1.out)).mono ?_
        rintro _ w1 ⟨rfl, hb1⟩
        have HV1 := hidM (HV.out.below hb1)
        clear hb1
        go_wp2_with fail
        refine (HSA.out w1 (by have := HV1.out.sz; omega) HV1.out.ha).mono ?_
        rintro _ w2 ⟨rfl, hb2⟩
        have HV2 := hidM (HV1.out.below hb2)
        clear hb2
        go_wp2_with fail
        refine (HSB.out w2 (by have := HV2.out.sz; omega) HV2.out.hb).mono ?_
        rintro _ w3 ⟨rfl, hb3⟩
        have HV3 := hidM (HV2.out.below hb3)
        clear hb3
        go_wp2_with fail
        refine (HSC.out w3 (by have := HV3.out.sz; omega) (HT.out.below HV3.out.bel HT1.out) HV3.out.hc).mono ?_
        rintro _ w4 ⟨rfl, hb4⟩
        have HV4 := hidM (HV3.out.below hb4)
        clear hb4
        go_wp2_with fail
        refine (HSD.out w4 (by have := HV4.out.sz; omega) (HT.out.below HV4.out.bel HT1.out) HV4.out.hd).mono ?_
        rintro _ w5 ⟨rfl, hb5⟩
        have HV5 := hidM (HV4.out.below hb5)
        clear hb5
        go_wp2_with fail
        refine (HSA.out w5 (by have := HV5.out.sz; omega) HV5.out.ha).mono ?_
        rintro _ w6 ⟨rfl, hb6⟩
        have HV6 := hidM (HV5.out.below hb6)
        clear hb6
        go_wp2_with fail
        refine (HSC.out w6 (by have := HV6.out.sz; omega) (HT.out.below HV6.out.bel HT1.out) HV6.out.hc).mono ?_
        rintro _ w7 ⟨rfl, hb7⟩
        have HV7 := hidM (HV6.out.below hb7)
        clear hb7
        go_wp2
        go_ret
        exact ⟨rfl, HV7.out.bel⟩
      · have q1 : ¬ (k : Int) < (len : Int) := by omega
        go_wp2_with fail
        refine (awake_any wr (HT.out.below HV.out.bel HT1.out)).mono ?_
        rintro _ w1 ⟨rfl, hb1⟩
        have HV1 := hidM (HV.out.below hb1)
        clear hb1
        go_wp2_with fail
        refine (HSA.out w1 (by have := HV1.out.sz; omega) HV1.out.ha).mono ?_
        rintro _ w2 ⟨rfl, hb2⟩
        have HV2 := hidM (HV1.out.below hb2)
        clear hb2
        go_wp2_with fail
        refine (HSB.out w2 (by have := HV2.out.sz; omega) HV2.out.hb).mono ?_
        rintro _ w3 ⟨rfl, hb3⟩
        have HV3 := hidM (HV2.out.below hb3)
        clear hb3
        go_wp2_with fail
        refine (HSC.out w3 (by have := HV3.out.sz; omega) (HT.out.below HV3.out.bel HT1.out) HV3.out.hc).mono ?_
        rintro _ w4 ⟨rfl, hb4⟩
        have HV4 := hidM (HV3.out.below hb4)
        clear hb4
        go_wp2_with fail
        refine (HSD.out w4 (by have := HV4.out.sz; omega) (HT.out.below HV4.out.bel HT1.out) HV4.out.hd).mono ?_
        rintro _ w5 ⟨rfl, hb5⟩
        have HV5 := hidM (HV4.out.below hb5)
        clear hb5
        go_wp2_with fail
        refine (HSA.out w5 (by have := HV5.out.sz; omega) HV5.out.ha).mono ?_
        rintro _ w6 ⟨rfl, hb6⟩
        have HV6 := hidM (HV5.out.below hb6)
        clear hb6
        go_wp2_with fail
        refine (HSC.out w6 (by have := HV6.out.sz; omega) (HT.out.below HV6.out.bel HT1.out) HV6.out.hc).mono ?_
        rintro _ w7 ⟨rfl, hb7⟩
        have HV7 := hidM (HV6.out.below hb7)
        clear hb7
        go_wp2
        go_ret
        exact ⟨rfl, HV7.out.bel⟩
end Go.Proofs.YtbodjopdhciaeabDoor
