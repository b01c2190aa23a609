/-
  ShaParts: a sum of parts is the sum of the whole: the walk.
-/
import Derived.Test.YtbodjopdhciaeabDoorAsks
import Derived.Test.YtbodjopdhciaeabDoorRefD
namespace Go.Proofs.YtbodjopdhciaeabDoor
open Go.RowKit

/-- Two sums side by side. -/
structure Twain (w0 w : World) (a : List UInt8) (b : List UInt8) : Prop where
  ha : HashS mixL1 h0 38 w (w0.heap.size) a
  hb : HashS mixL2 h2 41 w (w0.heap.size + 1) b
  bel : Below w0.heap.size w0 w
  sz : w0.heap.size + 1 < w.heap.size
theorem Twain.below {w0 w w' : World} {a b : List UInt8} (h : Twain w0 w a b) (hb : Below w.heap.size w w') : Twain w0 w' a b := by
  have hs := h.sz
  exact ⟨h.ha.same (hb.block _ (by omega)), h.hb.same (hb.block _ (by omega)), h.bel.trans (hb.mono h.bel.size), Nat.lt_of_lt_of_le h.sz hb.size⟩
theorem Twain.puta {w0 w w' : World} {a b t : List UInt8} (h : Twain w0 w a b) (hh : HashS mixL1 h0 38 w' (w0.heap.size) (a ++ t)) (hb : But (w0.heap.size) w.heap.size w w') : Twain w0 w' (a ++ t) b := by
  have hs := h.sz
  exact ⟨hh, h.hb.same (hb.block _ (by omega) (by omega)), h.bel.trans ((hb.mono h.bel.size).below (by omega)), Nat.lt_of_lt_of_le h.sz hb.size⟩
theorem Twain.putb {w0 w w' : World} {a b t : List UInt8} (h : Twain w0 w a b) (hh : HashS mixL2 h2 41 w' (w0.heap.size + 1) (b ++ t)) (hb : But (w0.heap.size + 1) w.heap.size w w') : Twain w0 w' a (b ++ t) := by
  have hs := h.sz
  exact ⟨h.ha.same (hb.block _ (by omega) (by omega)), hh, h.bel.trans ((hb.mono h.bel.size).below (by omega)), Nat.lt_of_lt_of_le h.sz hb.size⟩
theorem twain_start (w : World) : Twain w ((w.alloc (.cells zB1 38)).alloc (.cells zB2 41)) [] [] := by
  refine ⟨hashS_zero1 _ _ ?_, hashS_zero2 _ _ ?_, ?_, by simp⟩
  · rw [Below.heap_alloc _ _ _ (by simp), _root_.Go.heap_alloc_new]
  · have := _root_.Go.heap_alloc_new (w.alloc (.cells zB1 38)) (.cells zB2 41)
    simpa using this
  · exact (((Below.refl _ _).alloc (Nat.le_refl _) _).alloc (by simp) _)

set_option maxRecDepth 100000 in
set_option maxHeartbeats 3200000 in
theorem parts_walk (a : Option Addr) (len cap : Nat) (f : Nat → ByteArray) (w : World) (hT : Tab2 w) (hf : StrsAt w a len f) :
    Calls Tryd.prog 4 #[.slice a len cap] w fun e w' => e = .returned (.bool true) ∧ Below w.heap.size w w' := by
  have hlen : len ≤ 9223372036854775807 := by have := hf.1; unfold maxLen at this; omega
  have HT := hidM hT
  have HT1 : Hid (1 < w.heap.size) := hT.1
  have HF := hidM hf
  have HS0 := hidM (twain_start w)
  have hz1 := zero38
  have hz2 := zero41
  clear hT hf
  generalize hZ1 : zB1 = Z1 at *
  generalize hZ2 : zB2 = Z2 at *
  clear hZ1 hZ2
  go_enter Tryd.func4, Tryd.ntmps4
  go_wp2
  clear hz1 hz2
  go_loopw [5, 6, 7] (fun v i _ wr => ∃ (k : Nat) (T : ByteArray), k ≤ len ∧ k ≤ 20 ∧ v = .string T ∧ i = .int .i64 k ∧ T.size ≤ 200 * k ∧ Twain w wr T.data.toList T.data.toList) (fun _ i _ _ => 20 - (intOf i).toNat)
  case atStart => exact ⟨0, ⟨#[]⟩, Nat.zero_le _, by omega, rfl, rfl, Nat.zero_le _, HS0.out⟩
  case round =>
    obtain ⟨k, T, hk, hk20, rfl, rfl, hA, htw⟩ := hrel
    have HV := hidM htw
    clear htw HS0
    by_cases hlt : k < len ∧ k < 20
    · obtain ⟨hl1, hl2⟩ := hlt
      obtain ⟨bb, off, rfl, hc⟩ := (HF.out.below HV.out.bel).get k hl1
      have kk : (k : Int) < (len : Int) := by omega
      have hT4 : T.data.toList.length ≤ 200 * k := by have : T.data.toList.length = T.size := by simp
                                                      omega
      generalize f k = S at *
      go_wp2_with fail
      refine (few_any S 200 _).mono ?_
      rintro _ w1 ⟨⟨t, rfl, ht, _⟩, rfl⟩
      clear hc
      go_wp2_with fail
      refine (write1_any w.heap.size T.data.toList t w1 (by have := HV.out.sz; omega) (by omega) HV.out.ha).mono ?_
      rintro _ w2 ⟨rfl, hh2, hb2⟩
      have HV2 := hidM (HV.out.puta hh2 hb2)
      clear hh2 hb2 HV
      go_wp2_with fail
      refine (write2_any (w.heap.size + 1) T.data.toList t w2 (by have := HV2.out.sz; omega) (by omega) (HT.out.below HV2.out.bel HT1.out) (by have := HT1.out; omega) HV2.out.hb).mono ?_
      rintro _ w3 ⟨rfl, hh3, hb3⟩
      have HV3 := hidM (HV2.out.putb hh3 hb3)
      clear hh3 hb3 HV2
      rw [← str_add] at HV3
      have hadd : ∀ v : World, (Op.stringOp .add T t).run Tryd.prog v = .ok (.string (T ++ t)) v := fun v => run_string_add_sum _ _ _ (by omega)
      have hT5 : (T ++ t).size ≤ 200 * (k + 1) := by rw [ByteArray.size_append]; omega
      generalize T ++ t = U at *
      have hU4 : U.data.toList.length ≤ 549755813888 := by have : U.data.toList.length = U.size := by simp
                                                           omega
      have HSA := hidM (fun v h1 h2 => sum1_any w.heap.size U.data.toList v h1 hU4 h2)
      have HSB := hidM (fun v h1 h2 h3 => sum2_any (w.heap.size + 1) U.data.toList v h1 hU4 h2 h3)
      have HOA := hidM (fun v => once1_any U v (by omega))
      have HOB := hidM (fun v h => once2_any U v (by omega) h)
      have HRA := hidM (fun v => rsum1_any U v (by omega))
      clear hU4
      generalize (⟨(sha1L U.data.toList).toArray⟩ : ByteArray) = S1 at *
      generalize (⟨(sha2L U.data.toList).toArray⟩ : ByteArray) = S2 at *
      go_wp2_with fail
      refine (HSA.out w3 (by have := HV3.out.sz; omega) HV3.out.ha).mono ?_
      rintro _ w4 ⟨rfl, hb4⟩
      have HV4 := hidM (HV3.out.below hb4)
      clear hb4 HV3
      go_wp2_with fail
      refine (HOA.out w4).mono ?_
      rintro _ w5 ⟨rfl, hb5⟩
      have HV5 := hidM (HV4.out.below hb5)
      clear hb5 HV4
      go_wp2_with fail
      refine (HSB.out w5 (by have := HV5.out.sz; omega) (HT.out.below HV5.out.bel HT1.out) HV5.out.hb).mono ?_
      rintro _ w6 ⟨rfl, hb6⟩
      have HV6 := hidM (HV5.out.below hb6)
      clear hb6 HV5
      go_wp2_with fail
      refine (HOB.out w6 (HT.out.below HV6.out.bel HT1.out)).mono ?_
      rintro _ w7 ⟨rfl, hb7⟩
      have HV7 := hidM (HV6.out.below hb7)
      clear hb7 HV6
      go_wp2_with fail
      refine (HSA.out w7 (by have := HV7.out.sz; omega) HV7.out.ha).mono ?_
      rintro _ w8 ⟨rfl, hb8⟩
      have HV8 := hidM (HV7.out.below hb8)
      clear hb8 HV7
      go_wp2_with fail
      refine (HRA.out w8).mono ?_
      rintro _ w9 ⟨rfl, hb9⟩
      have HV9 := hidM (HV8.out.below hb9)
      clear hb9 HV8
      clear hadd
      go_wp2
      go_roundw
      case rel => exact ⟨k + 1, U, by omega, by omega, rfl, by go_num, hT5, HV9.out⟩
      case measure => simp [intOf]; omega
    · have hU4 : T.data.toList.length ≤ 549755813888 := by have : T.data.toList.length = T.size := by simp
                                                           omega
      have HSA := hidM (fun v h1 h2 => sum1_any w.heap.size T.data.toList v h1 hU4 h2)
      have HSB := hidM (fun v h1 h2 h3 => sum2_any (w.heap.size + 1) T.data.toList v h1 hU4 h2 h3)
      have HOA := hidM (fun v => once1_any T v (by omega))
      have HOB := hidM (fun v h => once2_any T v (by omega) h)
      clear hU4
      generalize (⟨(sha1L T.data.toList).toArray⟩ : ByteArray) = S1 at *
      generalize (⟨(sha2L T.data.toList).toArray⟩ : ByteArray) = S2 at *
      by_cases hl1 : k < len
      · have hl2 : ¬ k < 20 := fun h => hlt ⟨hl1, h⟩
        have q1 : (k : Int) < (len : Int) := by omega
        have q2 : ¬ (k : Int) < 20 := by omega
        go_wp2_with fail
        refine (awake_any wr (HT.out.below HV.out.bel HT1.out)).mono ?_
        rintro _ w4 ⟨rfl, hb4⟩
        have HV4 := hidM (HV.out.below hb4)
        clear hb4 HV
        go_wp2_with fail
        refine (HSA.out w4 (by have := HV4.out.sz; omega) HV4.out.ha).mono ?_
        rintro _ w5 ⟨rfl, hb5⟩
        have HV5 := hidM (HV4.out.below hb5)
        clear hb5 HV4
        go_wp2_with fail
        refine (HOA.out w5).mono ?_
        rintro _ w6 ⟨rfl, hb6⟩
        have HV6 := hidM (HV5.out.below hb6)
        clear hb6 HV5
        go_wp2_with fail
        refine (HSB.out w6 (by have := HV6.out.sz; omega) (HT.out.below HV6.out.bel HT1.out) HV6.out.hb).mono ?_
        rintro _ w7 ⟨rfl, hb7⟩
        have HV7 := hidM (HV6.out.below hb7)
        clear hb7 HV6
        go_wp2_with fail
        refine (HOB.out w7 (HT.out.below HV7.out.bel HT1.out)).mono ?_
        rintro _ w8 ⟨rfl, hb8⟩
        have HV8 := hidM (HV7.out.below hb8)
        clear hb8 HV7
        go_wp2
        go_ret
        exact ⟨rfl, HV8.out.bel⟩
      · have q1 : ¬ (k : Int) < (len : Int) := by omega
        go_wp2_with fail
        refine (awake_any wr (HT.out.below HV.out.bel HT1.out)).mono ?_
        rintro _ w4 ⟨rfl, hb4⟩
        have HV4 := hidM (HV.out.below hb4)
        clear hb4 HV
        go_wp2_with fail
        refine (HSA.out w4 (by have := HV4.out.sz; omega) HV4.out.ha).mono ?_
        rintro _ w5 ⟨rfl, hb5⟩
        have HV5 := hidM (HV4.out.below hb5)
        clear hb5 HV4
        go_wp2_with fail
        refine (HOA.out w5).mono ?_
        rintro _ w6 ⟨rfl, hb6⟩
        have HV6 := hidM (HV5.out.below hb6)
        clear hb6 HV5
        go_wp2_with fail
        refine (HSB.out w6 (by have := HV6.out.sz; omega) (HT.out.below HV6.out.bel HT1.out) HV6.out.hb).mono ?_
        rintro _ w7 ⟨rfl, hb7⟩
        have HV7 := hidM (HV6.out.below hb7)
        clear hb7 HV6
        go_wp2_with fail
        refine (HOB.out w7 (HT.out.below HV7.out.bel HT1.out)).mono ?_
        rintro _ w8 ⟨rfl, hb8⟩
        have HV8 := hidM (HV7.out.below hb8)
        clear hb8 HV7
        go_wp2
        go_ret
        exact ⟨rfl, HV8.out.bel⟩
end Go.Proofs.YtbodjopdhciaeabDoor
