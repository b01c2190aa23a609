/-
  Taken over from another program: LwB.
  Taken over from another program: LrB.
  Taken over from another program: LrC.
-/
import Derived.Test.YtlmeoahcpmikiaaGreatDoorLwA
import Derived.Test.YtlmeoahcpmikiaaGreatDoorJLoF
import Derived.Test.YtlmeoahcpmikiaaGreatDoorJTxtB
import Derived.Test.YtlmeoahcpmikiaaGreatDoorLrA
import Derived.Test.YtlmeoahcpmikiaaGreatDoorJDecA
namespace Go.Proofs.YtlmeoahcpmikiaaGreatDoor
open Go.RowKit
theorem unp_frame {k : Int} {d X : List UInt8} {x : Nat × List UInt8 × Nat} (hc : checkE k d.length = 0) (hf : FrameOf X (encL k d)) (h : UnpQ X x) : x = (k.toNat, d, 0) := by
  obtain ⟨h1, h2⟩ := checkE_zero.1 hc
  obtain ⟨o, n, e, hz, h⟩ := h
  have hl := encL_len k d h2
  have hr := frame_read (front := []) (back := []) hf (M := 65536) (by omega) (Nat.le_refl _) (by simpa using hz)
  simp only [Prod.mk.injEq] at hr
  obtain ⟨rfl, rfl, rfl⟩ := hr
  rcases h with ⟨h, _⟩ | ⟨_, h, _⟩ | ⟨_,_, rfl⟩
  · exact absurd rfl h
  · omega
  · exact dec_enc k d h1 h2
theorem kind_nat {k : Int} {d : List UInt8} (hc : checkE k d.length = 0) : ((k.toNat : Nat) : Int) = k := by
  obtain ⟨h1, _⟩ := checkE_zero.1 hc
  unfold nameL at h1
  by_cases h : 0 ≤ k
  · exact Int.toNat_of_nonneg h
  · rw [if_neg h] at h1; exact absurd rfl h1
theorem fil_frame {k : Int} {d X : List UInt8} {id : ByteArray} {x : Nat × List UInt8 × Nat} (hc : checkE k d.length = 0) (hf : FrameOf X (encL k d)) (hi : id.data.toList = hexL (sha1L (encL k d))) (h : FilQ id X x) : x = (k.toNat, d, 0) := by
  obtain ⟨y, hy, h⟩ := h
  obtain rfl := unp_frame hc hf hy
  have hid : idT ((k.toNat : Nat) : Int) d = id.data.toList := by rw [kind_nat hc, hi]; unfold idT; rw [if_pos hc]
  rcases h with ⟨h, _⟩ | ⟨_, h, _⟩ | ⟨_,_, rfl⟩
  · exact absurd rfl h
  · exact absurd hid h
  · rfl
theorem read_frame {k : Int} {d : List UInt8} {X id : ByteArray} {us gs : List FileB} {x : Nat × List UInt8 × Nat} (hc : checkE k d.length = 0) (hf : FrameOf X.data.toList (encL k d)) (hi : id.data.toList = hexL (sha1L (encL k d)))
    (ha : Apart (us ++ [(pathB id, X)])) (hg : gs.Perm (us ++ [(pathB id, X)])) (h : ReadQ gs id x) : x = (k.toNat, d, 0) := by
  have hib : idB id.data.toList = true := by rw [hi]; exact idB_hex _ (sha1L_len _)
  have hm : (pathB id, X) ∈ us ++ [(pathB id, X)] := by simp
  rcases h with ⟨h, _⟩ | ⟨_, h1, _⟩ | ⟨_, f, hfm, hfp, hq⟩
  · rw [hib] at h; cases h
  · exact absurd rfl (h1 _ (hg.mem_iff.2 hm))
  · obtain rfl := apart_eq ha (hg.mem_iff.1 hfm) hm hfp
    exact fil_frame hc hf hi hq
end Go.Proofs.YtlmeoahcpmikiaaGreatDoor
namespace Go.Proofs.YtlmeoahcpmikiaaGreatDoor
open Go.RowKit
theorem ZQ.take {l : List UInt8} {o : List UInt8} {n : Nat} (h : ZQ l 0 65536 (o, n, 0)) : n ≤ l.length := by
  rcases h with ⟨_, h⟩ | ⟨A, M, _,_,_,_, ⟨_, h⟩ | ⟨_,_, h⟩ | ⟨_,_, o', n', e', hq, ⟨_, h⟩ | ⟨_,_, h⟩ | ⟨_,_,_, h⟩ | ⟨he, h1, h2, h⟩⟩⟩
  all_goals simp only [Prod.mk.injEq] at h
  all_goals first | omega | skip
end Go.Proofs.YtlmeoahcpmikiaaGreatDoor
namespace Go.Proofs.YtlmeoahcpmikiaaGreatDoor
open Go.RowKit
theorem idB_clean {l : List UInt8} (h : idB l = true) : (47 : UInt8) ∉ l := by
  unfold idB at h
  simp only [Bool.and_eq_true] at h
  intro hm
  have := List.all_eq_true.1 h.1 _ hm
  revert this; decide
def objL : List UInt8 := [111, 98, 106, 101, 99, 116, 115, 47]
theorem extD (s : ByteArray) (a b : Nat) : (s.extract a b).data.toList = (s.data.toList.drop a).take (b - a) := by
  rw [ByteArray.data_extract, Array.toList_extract, List.extract_eq_take_drop]
theorem pathB_list (x : ByteArray) : (pathB x).data.toList = objL ++ x.data.toList.take 2 ++ [47] ++ x.data.toList.drop 2 := by
  unfold pathB
  rw [ByteArray.data_append, ByteArray.data_append, ByteArray.data_append, Array.toList_append, Array.toList_append, Array.toList_append, extD, extD, List.drop_zero]
  congr 1
  rw [List.take_of_length_le (by rw [List.length_drop, len_size]; omega)]
end Go.Proofs.YtlmeoahcpmikiaaGreatDoor
