/-
  SumsParts, the walk: the law returns true where the table lies and the strings can be read.
-/
import Derived.Test.YtbodjopdhciaeaaDoorSums
import Derived.SliceStrings
namespace Go.Proofs.YtbodjopdhciaeaaDoor
open Go.RowKit

/-- A slice whose first 'len' cells hold the strings f. -/
def StrsAt (w : World) (a : Option Addr) (len : Nat) (f : Nat → ByteArray) : Prop :=
  len ≤ maxLen ∧ (len = 0 ∨ ∃ b off, a = some ⟨b, off, none⟩ ∧ ∀ i, i < len → w.cell? ⟨b, off + i, none⟩ = some (.string (f i)))
theorem StrsAt.below {w w' : World} {a : Option Addr} {len : Nat} {f : Nat → ByteArray} (h : StrsAt w a len f) (hb : Below w.heap.size w w') : StrsAt w' a len f := by
  refine ⟨h.1, ?_⟩
  rcases h.2 with h0 | ⟨b, off, rfl, hc⟩
  · exact .inl h0
  · exact .inr ⟨b, off, rfl, fun i hi => (hb.cell (p := ⟨b, off + i, none⟩) (World.block_lt_of_cell? w _ (hc i hi))).trans (hc i hi)⟩

/-- A box of the cyclic sum. -/
structure CrcBox (w : World) (b c : Nat) : Prop where
  lt : c < 4294967296
  cell : w.cell? ⟨b, 0, none⟩ = some (.int .u32 (c : Int))
  fz : w.frozen? ⟨b, 0, none⟩ = false
theorem CrcBox.only {w w' : World} {b c d : Nat} (h : CrcBox w b c) (ho : Only d w w') (hne : b ≠ d) : CrcBox w' b c :=
  ⟨h.lt, (ho.cell (p := ⟨b, 0, none⟩) hne).trans h.cell, (ho.frozen (p := ⟨b, 0, none⟩) hne).trans h.fz⟩
theorem CrcBox.below {w w' : World} {b c B : Nat} (h : CrcBox w b c) (ho : Below B w w') (hlt : b < B) : CrcBox w' b c :=
  ⟨h.lt, (ho.cell (p := ⟨b, 0, none⟩) hlt).trans h.cell, (ho.frozen (p := ⟨b, 0, none⟩) hlt).trans h.fz⟩

theorem crcWrite_box (b c : Nat) (s : ByteArray) (w : World) (hs : s.size ≤ maxLen) (ht : Tab w) (h : CrcBox w b c) :
    Calls Tryd.prog 15 #[.pointer (some ⟨b, 0, none⟩), .string s] w fun e w' => e = .returned (.tuple #[]) ∧ Only b w w' ∧ CrcBox w' b (crcW c s.data.toList) := by
  refine (crcWrite_any b c s w hs h.lt ht h.cell h.fz).mono ?_
  rintro e w' ⟨rfl, rfl⟩
  refine ⟨rfl, (Only.refl b w).setCell 0 _, crcW_lt _ _ h.lt, World.cell?_setCell_same _ _ _ h.cell, ?_⟩
  rw [World.frozen?_setCell]; exact h.fz

theorem app_data (a x : ByteArray) : (a ++ x).data.toList = a.data.toList ++ x.data.toList := by simp
theorem drew_only (b n : Nat) (w : World) : Only b w (w.drewN n) := (Only.refl b w).drewN n

set_option maxHeartbeats 1600000 in
theorem parts_walk (a : Option Addr) (len cap : Nat) (f : Nat → ByteArray) (w : World) (ht : Tab w) (hf : StrsAt w a len f) :
    Calls Tryd.prog 4 #[.slice a len cap] w fun e w' => e = .returned (.bool true) ∧ Below w.heap.size w w' := by
  have hlen : len ≤ 9223372036854775807 := by have := hf.1; unfold maxLen at this; omega
  have HT := hidM ht
  have HF := hidM hf
  clear ht hf
  have HC0 : Hid (CrcBox ((w.alloc (.cells #[.int .u32 0] 29)).alloc (.cells #[.int .u32 0, .int .u32 0] 31)) w.heap.size 0) :=
    CrcBox.below (B := w.heap.size + 1) (w := w.alloc (.cells #[.int .u32 0] 29)) ⟨by decide, by simp, by simp⟩ ((Below.refl _ _).alloc (by simp) _) (by omega)
  have HA0 : Hid (AdBox ((w.alloc (.cells #[.int .u32 0] 29)).alloc (.cells #[.int .u32 0, .int .u32 0] 31)) (w.heap.size + 1) (1, 0)) := by
    have h := adBox_new (w.alloc (.cells #[.int .u32 0] 29))
    unfold Hid
    simpa using h
  have HB0 : Hid (Below w.heap.size w ((w.alloc (.cells #[.int .u32 0] 29)).alloc (.cells #[.int .u32 0, .int .u32 0] 31))) := ((Below.refl _ _).alloc (Nat.le_refl _) _).alloc (by simp) _
  have HZ0 : Hid (w.heap.size + 1 < ((w.alloc (.cells #[.int .u32 0] 29)).alloc (.cells #[.int .u32 0, .int .u32 0] 31)).heap.size) := by unfold Hid; simp
  go_enter Tryd.func4, Tryd.ntmps4
  go_wp2
  go_loopw [5, 6, 7] (fun al i _ wr => ∃ (k : Nat) (s : ByteArray), k ≤ len ∧ k ≤ 30 ∧ i = .int .i64 k ∧ al = .string s ∧ s.size ≤ 200 * k ∧ CrcBox wr w.heap.size (crcW 0 s.data.toList) ∧ AdBox wr (w.heap.size + 1) (adR (1, 0) s.data.toList) ∧ Below w.heap.size w wr ∧ w.heap.size + 1 < wr.heap.size)
    (fun _ i _ _ => 30 - (intOf i).toNat)
  case atStart => exact ⟨0, ⟨#[]⟩, Nat.zero_le _, by omega, rfl, rfl, Nat.zero_le _, HC0.out, HA0.out, HB0.out, HZ0.out⟩
  case round =>
    obtain ⟨k, s, hk, hk30, rfl, rfl, hs, hcb, hab, hbr, hz⟩ := hrel
    have HCB := hidM hcb
    have HAB := hidM hab
    have HBR := hidM hbr
    have HZ := hidM hz
    clear hcb hab hbr hz HC0 HA0 HB0 HZ0
    by_cases hlt : k < len ∧ k < 30
    · obtain ⟨hl1, hl2⟩ := hlt
      obtain ⟨b, off, ha, hc⟩ : ∃ b off, a = some ⟨b, off, none⟩ ∧ wr.cell? ⟨b, off + k, none⟩ = some (.string (f k)) := by
        rcases (HF.out.below HBR.out).2 with h0 | ⟨b, off, ha, hcc⟩
        · omega
        · exact ⟨b, off, ha, hcc k hl1⟩
      subst ha
      generalize f k = S at *
      go_wp2_with fail
      refine (few_any S 200 wr).mono ?_
      rintro e wr ⟨⟨x, rfl, hx1, hx2⟩, rfl⟩
      clear hc hx2
      go_wp2_with fail
      refine (crcWrite_box _ _ x wr (by unfold maxLen; omega) (HT.out.below HBR.out) HCB.out).mono ?_
      rintro e w1 ⟨rfl, ho1, hc1⟩
      rw [crcW_app] at hc1
      have HC1 := hidM hc1
      have HA1 := hidM (HAB.out.only ho1 (by omega))
      have HB1 : Hid (Below w.heap.size w w1) := HBR.out.trans (ho1.below (Nat.le_refl _))
      have HZ1 : Hid (w.heap.size + 1 < w1.heap.size) := by unfold Hid; rw [ho1.size]; exact HZ.out
      clear ho1 hc1 HCB HAB HBR HZ
      go_wp2_with fail
      refine (adlerWrite_any _ _ x w1 (by unfold maxLen; omega) HA1.out).mono ?_
      rintro e w2 ⟨rfl, ho2, ha2⟩
      rw [← adR_app] at ha2
      have HA2 := hidM ha2
      have HC2 := hidM (HC1.out.only ho2 (by omega))
      have HB2 : Hid (Below w.heap.size w w2) := HB1.out.trans (ho2.below (by omega))
      have HZ2 : Hid (w.heap.size + 1 < w2.heap.size) := by unfold Hid; rw [ho2.size]; exact HZ1.out
      clear ho2 ha2 HA1 HC1 HB1 HZ1
      rw [← app_data] at HA2 HC2
      have hsx : s.size + x.size ≤ 200 * (k + 1) := by omega
      have HSZ : Hid ((s ++ x).size ≤ 200 * (k + 1)) := by unfold Hid; rw [ByteArray.size_append]; exact hsx
      go_wp2_with fail
      generalize s ++ x = y at *
      refine (crcSum_any _ _ w2 HC2.out.cell).mono ?_
      rintro e w3 ⟨rfl, rfl⟩
      go_wp2_with fail
      refine (rcrc_any y w3 (by have := HSZ.out; unfold maxLen; omega)).mono ?_
      rintro e w4 ⟨rfl, rfl⟩
      obtain ⟨c, hc⟩ : ∃ c, c = crcW 0 y.data.toList := ⟨_, rfl⟩
      rw [← hc] at HC2 ⊢
      have HC := hidM hc
      clear hc
      go_wp2_with fail
      refine (adlerSum_box _ _ w4 HA2.out).mono ?_
      rintro e w5 ⟨rfl, nq, rfl⟩
      go_wp2_with fail
      refine (radler_any y _ (by have := HSZ.out; unfold maxLen; omega)).mono ?_
      rintro e w6 ⟨rfl, rfl⟩
      have e1 : adSum y.data.toList = (adR (1, 0) y.data.toList).2 * 65536 + (adR (1, 0) y.data.toList).1 := rfl
      rw [e1]
      clear e1
      have HA3 := hidM (HA2.out.only (drew_only w.heap.size nq w4) (by omega))
      have HC3 := hidM (HC2.out.only (drew_only (w.heap.size + 1) nq w4) (by omega))
      have HB3 : Hid (Below w.heap.size w (w4.drewN nq)) := below_drewN HB2.out nq
      have HZ3 : Hid (w.heap.size + 1 < (w4.drewN nq).heap.size) := HZ2.out
      clear HA2 HC2 HB2 HZ2
      generalize hr : adR (1, 0) y.data.toList = r at *
      have HR := hidM hr
      clear hr
      go_wp2
      go_roundw
      case rel => exact ⟨k + 1, y, by omega, by omega, by go_num, rfl, HSZ.out, by rw [← HC.out]; exact HC3.out, by rw [HR.out]; exact HA3.out, HB3.out, HZ3.out⟩
      case measure => simp [intOf]; omega
    · by_cases hl1 : k < len
      · have hl2 : ¬ k < 30 := by omega
        go_wp2_with fail
        refine (awake_any wr (HT.out.below HBR.out)).mono ?_
        rintro e w3 ⟨rfl, hb3⟩
        have HB3 : Hid (Below w.heap.size w w3) := HBR.out.trans (hb3.mono HBR.out.size)
        clear hb3
        go_wp2
        go_ret
        exact ⟨rfl, HB3.out⟩
      · go_wp2_with fail
        refine (awake_any wr (HT.out.below HBR.out)).mono ?_
        rintro e w3 ⟨rfl, hb3⟩
        have HB3 : Hid (Below w.heap.size w w3) := HBR.out.trans (hb3.mono HBR.out.size)
        clear hb3
        go_wp2
        go_ret
        exact ⟨rfl, HB3.out⟩

theorem cells9 : Tryd.prog.cellsOf 9 = 1 := by kernel_rfl
theorem open_strsV {H : Type} {enc : TypeId × Value → H} {W : World} {fuel base : Nat} {x : DataW H × List MemPlace} {a : Option Addr} {len cap : Nat}
    (h : DataW.trod enc Tryd.prog W base (fun _ => true) true fuel 27 [.slice a len cap] = some x) : ∃ f, StrsAt W a len f := by
  rcases Go.ChangeShapes.open_strings Tryd.underlying27 Tryd.underlying9 cells9 h with ⟨hcs, _⟩ | ⟨ad, l, c, ss, hcs, _, hl, hm, hz, _, hcell, _⟩
  · simp only [List.cons.injEq, Value.slice.injEq, and_true] at hcs
    obtain ⟨rfl, rfl, rfl⟩ := hcs
    exact ⟨fun _ => ByteArray.empty, Nat.zero_le _, .inl rfl⟩
  · simp only [List.cons.injEq, Value.slice.injEq, and_true] at hcs
    obtain ⟨rfl, rfl, rfl⟩ := hcs
    refine ⟨fun i => ss.getD i ByteArray.empty, by omega, ?_⟩
    by_cases h0 : len = 0
    · exact .inl h0
    · right
      obtain ⟨b, off, spot⟩ := ad
      have hc := hcell 0 (by simp at hz; omega)
      have hspot : spot = none := by simpa [Addr.add] using World.cell?_spot hc
      subst hspot
      refine ⟨b, off, rfl, fun i hi => ?_⟩
      have := hcell i (by simp at hz; omega)
      rw [Addr.add_lit] at this
      exact this
end Go.Proofs.YtbodjopdhciaeaaDoor
