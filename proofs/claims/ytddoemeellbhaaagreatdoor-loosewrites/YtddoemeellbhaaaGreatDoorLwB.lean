/-
  What is read back of an object's file; the document's Path (f16).
-/
import Derived.Test.YtddoemeellbhaaaGreatDoorJLoC
import Derived.Test.YtddoemeellbhaaaGreatDoorJLwF
import Derived.Test.YtddoemeellbhaaaGreatDoorJTxtB
namespace Go.Proofs.YtddoemeellbhaaaGreatDoor
open Go.RowKit
theorem unp_frame {k : Int} {d X : List UInt8} {x : Nat × List UInt8 × Nat} (hc : checkE k d.length = 0) (hf : FrameOf X (encL k d)) (h : UnpQ X x) : x = (k.toNat, d, 0) := by
  obtain ⟨h1, h2⟩ := checkE_zero.1 hc
  obtain ⟨o, n, e, hz, h⟩ := h
  have hl := encL_len k d h2
  have hr := frame_read (front := []) (back := []) hf (M := 65536) (by omega) (Nat.le_refl _) (by simpa using hz)
  simp only [Prod.mk.injEq] at hr
  obtain ⟨rfl, rfl, rfl⟩ := hr
  rcases h with ⟨h, _⟩ | ⟨_, h, _⟩ | ⟨_,_, rfl⟩
  · exact absurd rfl h
  · omega
  · exact dec_enc k d h1 h2
theorem kind_nat {k : Int} {d : List UInt8} (hc : checkE k d.length = 0) : ((k.toNat : Nat) : Int) = k := by
  obtain ⟨h1, _⟩ := checkE_zero.1 hc
  unfold nameL at h1
  by_cases h : 0 ≤ k
  · exact Int.toNat_of_nonneg h
  · rw [if_neg h] at h1; exact absurd rfl h1
theorem fil_frame {k : Int} {d X : List UInt8} {id : ByteArray} {x : Nat × List UInt8 × Nat} (hc : checkE k d.length = 0) (hf : FrameOf X (encL k d)) (hi : id.data.toList = hexL (sha1L (encL k d))) (h : FilQ id X x) : x = (k.toNat, d, 0) := by
  obtain ⟨y, hy, h⟩ := h
  obtain rfl := unp_frame hc hf hy
  have hid : idT ((k.toNat : Nat) : Int) d = id.data.toList := by rw [kind_nat hc, hi]; unfold idT; rw [if_pos hc]
  rcases h with ⟨h, _⟩ | ⟨_, h, _⟩ | ⟨_,_, rfl⟩
  · exact absurd rfl h
  · exact absurd hid h
  · rfl
theorem read_frame {k : Int} {d : List UInt8} {X id : ByteArray} {us gs : List FileB} {x : Nat × List UInt8 × Nat} (hc : checkE k d.length = 0) (hf : FrameOf X.data.toList (encL k d)) (hi : id.data.toList = hexL (sha1L (encL k d)))
    (ha : Apart (us ++ [(pathB id, X)])) (hg : gs.Perm (us ++ [(pathB id, X)])) (h : ReadQ gs id x) : x = (k.toNat, d, 0) := by
  have hib : idB id.data.toList = true := by rw [hi]; exact idB_hex _ (sha1L_len _)
  have hm : (pathB id, X) ∈ us ++ [(pathB id, X)] := by simp
  rcases h with ⟨h, _⟩ | ⟨_, h1, _⟩ | ⟨_, f, hfm, hfp, hq⟩
  · rw [hib] at h; cases h
  · exact absurd rfl (h1 _ (hg.mem_iff.2 hm))
  · obtain rfl := apart_eq ha (hg.mem_iff.1 hfm) hm hfp
    exact fil_frame hc hf hi hq
set_option maxHeartbeats 1000000 in
set_option maxRecDepth 100000 in
theorem rpath_any (id : ByteArray) (w : World) (hs : id.size = 40) :
    Calls Tryz.prog 16 #[.string id] w fun e w' => e = .returned (.string (pathB id)) ∧ Below w.heap.size w w' := by
  have c1 : (2 : Int) ≤ (id.size : Int) := by omega
  have HP : Hid (pathB id = ⟨#[111, 98, 106, 101, 99, 116, 115, 47]⟩ ++ id.extract 0 2 ++ ⟨#[47]⟩ ++ id.extract 2 id.size) := rfl
  have z1 : (id.extract 0 2).size = 2 := by rw [ByteArray.size_extract]; omega
  have z2 : (id.extract 2 id.size).size = 38 := by rw [ByteArray.size_extract]; omega
  have n1 : ¬ 9223372036854775807 < 8 + (id.extract 0 2).size := by omega
  have n2 : ¬ 9223372036854775807 < 8 + (id.extract 0 2).size + 1 := by omega
  have n3 : ¬ 9223372036854775807 < 8 + (id.extract 0 2).size + 1 + (id.extract 2 id.size).size := by omega
  go_enter Tryz.func16, Tryz.ntmps16
  go_upto_region 1 with fail
  go_quiet (fail)
  go_wp2
  go_ret
  exact ⟨by rw [HP.out, hs]; rfl, below_drewN (Below.refl _ _) _⟩
end Go.Proofs.YtddoemeellbhaaaGreatDoor
