/-
  The document's Stored.
-/
import Derived.Test.YtkckobhpanghiaaDoorDef
namespace Go.Proofs.YtkckobhpanghiaaDoor
open Go.RowKit

set_option maxHeartbeats 1000000 in
set_option maxRecDepth 100000 in
theorem rstored_any (s : ByteArray) (w : World) (hs : s.size ≤ 65535) :
    Calls Tryd.prog 20 #[.string s] w fun e w' => e = .returned (.string ⟨(storedB 1 s.data.toList).toArray⟩) ∧ Below w.heap.size w w' := by
  have HLEN : Hid (s.data.toList.length = s.size) := Array.length_toList
  have k1 : ¬ (65535 : Int) < (s.size : Int) := by omega
  obtain ⟨b1, hb1⟩ : ∃ b, b = s.size % 256 := ⟨_, rfl⟩
  obtain ⟨b2, hb2⟩ : ∃ b, b = s.size / 256 := ⟨_, rfl⟩
  obtain ⟨b3, hb3⟩ : ∃ b, b = 255 - b1 := ⟨_, rfl⟩
  obtain ⟨b4, hb4⟩ : ∃ b, b = 255 - b2 := ⟨_, rfl⟩
  have l1 : b1 < 256 := by omega
  have l2 : b2 < 256 := by omega
  have l3 : b3 < 256 := by omega
  have l4 : b4 < 256 := by omega
  have e1 : (s.size : Int) % 256 = (b1 : Int) := by omega
  have e1' : (s.size : Int).tmod 256 = (b1 : Int) := by rw [Int.tmod_eq_emod_of_nonneg (by omega)]; exact e1
  have e2 : (s.size : Int) / 256 = (b2 : Int) := by omega
  have e2' : (s.size : Int).tdiv 256 = (b2 : Int) := by rw [Int.tdiv_eq_ediv_of_nonneg (by omega)]; exact e2
  have e3 : (255 : Int) - (b1 : Int) = (b3 : Int) := by omega
  have e4 : (255 : Int) - (b2 : Int) = (b4 : Int) := by omega
  have u1 : IntKind.u8.wrap (b1 : Int) = (b1 : Int) := by rw [IntKind.wrap_u8]; omega
  have u2 : IntKind.u8.wrap (b2 : Int) = (b2 : Int) := by rw [IntKind.wrap_u8]; omega
  have u3 : IntKind.u8.wrap (b3 : Int) = (b3 : Int) := by rw [IntKind.wrap_u8]; omega
  have u4 : IntKind.u8.wrap (b4 : Int) = (b4 : Int) := by rw [IntKind.wrap_u8]; omega
  obtain ⟨H5, hH5⟩ : ∃ H5 : ByteArray, H5 = ⟨[UInt8.ofNat 1, UInt8.ofNat b1, UInt8.ofNat b2, UInt8.ofNat b3, UInt8.ofNat b4].toArray⟩ := ⟨_, rfl⟩
  have hcv : ∀ W : World, (convert 34 9 (.slice (some ⟨W.heap.size, 0, none⟩) 5 5)).run Tryd.prog (W.alloc (.cells #[.int .u8 1, .int .u8 (b1 : Int), .int .u8 (b2 : Int), .int .u8 (b3 : Int), .int .u8 (b4 : Int)] 5)) = .ok (.string H5) (W.alloc (.cells #[.int .u8 1, .int .u8 (b1 : Int), .int .u8 (b2 : Int), .int .u8 (b3 : Int), .int .u8 (b4 : Int)] 5)) := fun W => by
    have hv : (#[.int .u8 1, .int .u8 (b1 : Int), .int .u8 (b2 : Int), .int .u8 (b3 : Int), .int .u8 (b4 : Int)] : Array Value) = (bytesV [UInt8.ofNat 1, UInt8.ofNat b1, UInt8.ofNat b2, UInt8.ofNat b3, UInt8.ofNat b4]).toArray := by
      unfold bytesV
      simp only [List.map_cons, List.map_nil, ofNat_nat _ l1, ofNat_nat _ l2, ofNat_nat _ l3, ofNat_nat _ l4]
      rfl
    rw [hH5, hv]
    exact conv_own (base := W.heap.size) (l := [UInt8.ofNat 1, UInt8.ofNat b1, UInt8.ofNat b2, UInt8.ofNat b3, UInt8.ofNat b4]) (World.ownsRow_lit W _ 5 (Nat.le_refl _) (by decide) rfl)
  have h5 : H5.size = 5 := by rw [hH5]; rfl
  have HF : Hid ((H5 ++ s : ByteArray) = ⟨(storedB 1 s.data.toList).toArray⟩) := by
    refine bytes_ext ?_
    rw [str_add, hH5]
    unfold storedB
    rw [HLEN.out, ← hb1, ← hb2, ← hb3, ← hb4]
  have hnil : (⟨#[]⟩ ++ H5 : ByteArray) = H5 := bytes_ext (by rw [str_add]; rfl)
  clear hb1 hb2 hb3 hb4 hH5
  have HB : Hid (∀ ob, Below w.heap.size w (w.alloc ob)) := fun ob => (Below.refl _ _).alloc (Nat.le_refl _) ob
  go_enter Tryd.func20, Tryd.ntmps20
  go_wp2
  go_loopw [0, 3] (fun v t wr => v = .string s ∧ t = .string ⟨#[]⟩ ∧ wr = w) (fun _ _ _ => 0)
  case atStart => exact ⟨rfl, rfl, rfl⟩
  case round =>
    obtain ⟨rfl, rfl, hwr⟩ := hrel
    rw [hwr]
    clear hwr
    go_wp2
    go_ret
    exact ⟨by rw [← HF.out]; rfl, HB.out _⟩
end Go.Proofs.YtkckobhpanghiaaDoor
