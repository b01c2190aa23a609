/-
  SumsApart, the walk: the law returns true where the table lies.
-/
import Derived.Test.YtbodjopdhciaeaaDoorSums
import Derived.OpenShut
namespace Go.Proofs.YtbodjopdhciaeaaDoor
open Go.RowKit

theorem u8_nat {a : Int} (w : (Lit.int .u8 a).wf = true) : ∃ x : Nat, a = (x : Int) ∧ x < 256 := by
  have hb := bounds_u8 w
  exact ⟨a.toNat, by omega, by omega⟩
theorem parts_t (t : ByteArray) (k : Nat) (h : k < t.size) : t.data.toList = t.data.toList.take k ++ t[k] :: t.data.toList.drop (k + 1) := by
  have e : t.data.toList.drop k = t[k] :: t.data.toList.drop (k + 1) := by
    rw [List.drop_eq_getElem_cons (by simpa using h)]; rfl
  rw [← e, List.take_append_drop]
theorem parts_u (t : ByteArray) (k : Nat) (c : UInt8) : (t.extract 0 k ++ ⟨#[c]⟩ ++ t.extract (k + 1) t.size).data.toList = t.data.toList.take k ++ c :: t.data.toList.drop (k + 1) := by
  rw [ByteArray.data_append, ByteArray.data_append, Array.toList_append, Array.toList_append, ext_front, ext_back]
  simp
theorem size_list (u : ByteArray) : u.size = u.data.toList.length := by simp

set_option maxHeartbeats 800000 in
theorem apart_walk (s : ByteArray) (n : Int) (c : Nat) (w : World) (hc : c < 256) (ht : Tab w) :
    Calls Tryd.prog 8 #[.string s, .int .i64 n, .int .u8 c] w fun e w' => e = .returned (.bool true) ∧ Below w.heap.size w w' := by
  have HT := hidM ht
  clear ht
  go_enter Tryd.func8, Tryd.ntmps8
  go_wp2_with fail
  refine (few_any s 2000 w).mono ?_
  rintro e w0 ⟨⟨t, rfl, h1, h2⟩, rfl⟩
  clear h2
  by_cases hn : n < 0
  · go_wp2_with fail
    refine (awake_any w0 HT.out).mono ?_
    rintro e w1 ⟨rfl, hb1⟩
    go_wp2
    go_ret
    exact ⟨rfl, hb1⟩
  · obtain ⟨k, rfl⟩ := Int.eq_ofNat_of_zero_le (show 0 ≤ n by omega)
    by_cases hk : t.size ≤ k
    · have hk2 : ((t.size : Nat) : Int) ≤ (k : Int) := by omega
      go_wp2_with fail
      refine (awake_any w0 HT.out).mono ?_
      rintro e w1 ⟨rfl, hb1⟩
      go_wp2
      go_ret
      exact ⟨rfl, hb1⟩
    · have hk2 : k < t.size := by omega
      by_cases he : t[k].toNat = c
      · have he2 : ((t[k].toNat : Int) == (c : Int)) = true := by rw [he]; simp
        have HE := hidM he
        clear he
        go_wp2_with fail
        refine (awake_any w0 HT.out).mono ?_
        rintro e w1 ⟨rfl, hb1⟩
        go_wp2
        go_ret
        exact ⟨rfl, hb1⟩
      · have he2 : ((t[k].toNat : Int) == (c : Int)) = false := by simp; omega
        have HE := hidM he
        clear he
        have hcv : (convert 44 9 (.slice (some ⟨w0.heap.size, 0, none⟩) 1 1)).run Tryd.prog (w0.alloc (.cells #[.int .u8 (c : Int)] 5)).drew = .ok (.string ⟨#[UInt8.ofNat c]⟩) (w0.alloc (.cells #[.int .u8 (c : Int)] 5)).drew := by
          refine run_convert_bytes_back (w0.alloc (.cells #[.int .u8 (c : Int)] 5)).drew 44 9 5 ⟨w0.heap.size, 0, none⟩ 1 [UInt8.ofNat c] Tryd.underlying44 Tryd.underlying5 Tryd.underlying9 ?_
          intro j hj
          have hj0 : j = 0 := by simpa using hj
          subst hj0
          have hcc : (UInt8.ofNat c).toNat = c := by simp; omega
          simp only [List.getElem_cons_zero, hcc]
          exact cell_new_one w0 _ 0 _ rfl
        go_wp2
        go_region
        have hne : t[k] ≠ UInt8.ofNat c := by
          intro e
          apply HE.out
          rw [e]; simp; omega
        have e1 := parts_t t k hk2
        have e2 := parts_u t k (UInt8.ofNat c)
        have HC : Hid ((crcW 0 t.data.toList : Nat) ≠ crcW 0 (t.extract 0 k ++ ⟨#[UInt8.ofNat c]⟩ ++ t.extract (k + 1) t.size).data.toList) := by
          have h := crc_apart (t.data.toList.take k) (t.data.toList.drop (k + 1)) _ _ hne
          rw [← e1, ← e2] at h; exact h
        have HA : Hid ((adSum t.data.toList : Nat) ≠ adSum (t.extract 0 k ++ ⟨#[UInt8.ofNat c]⟩ ++ t.extract (k + 1) t.size).data.toList) := by
          have h := adler_apart (t.data.toList.take k) (t.data.toList.drop (k + 1)) _ _ hne
          rw [← e1, ← e2] at h; exact h
        have HU : Hid ((t.extract 0 k ++ ⟨#[UInt8.ofNat c]⟩ ++ t.extract (k + 1) t.size).size ≤ 2000) := by
          unfold Hid; rw [size_list, e2]; simp; omega
        have HB0 : Hid (Below w0.heap.size w0 (w0.alloc (.cells #[.int .u8 (c : Int)] 5)).drew) := ((Below.refl _ _).alloc (Nat.le_refl _) _).drew
        clear e1 e2 hcv he2 hne HE
        go_wp2_with fail
        generalize t.extract 0 k ++ ⟨#[UInt8.ofNat c]⟩ ++ t.extract (k + 1) t.size = u at *
        refine (awake_any _ (HT.out.below HB0.out)).mono ?_
        rintro e w1 ⟨rfl, hb1⟩
        have HB1 : Hid (Below w0.heap.size w0 w1) := HB0.out.trans (hb1.mono HB0.out.size)
        clear hb1
        go_wp2_with fail
        refine (crc32_any t w1 (by unfold maxLen; omega) (HT.out.below HB1.out)).mono ?_
        rintro e w2 ⟨rfl, hb2⟩
        have HB2 : Hid (Below w0.heap.size w0 w2) := HB1.out.trans (hb2.mono HB1.out.size)
        clear hb2
        go_wp2_with fail
        refine (crc32_any u w2 (by have := HU.out; unfold maxLen; omega) (HT.out.below HB2.out)).mono ?_
        rintro e w3 ⟨rfl, hb3⟩
        have HB3 : Hid (Below w0.heap.size w0 w3) := HB2.out.trans (hb3.mono HB2.out.size)
        clear hb3
        generalize crcW 0 t.data.toList = c1 at *
        generalize crcW 0 u.data.toList = c2 at *
        have hq : ((c1 : Int) != (c2 : Int)) = true := by have := HC.out; simp; omega
        go_wp2_with fail
        refine (adler32_any t w3 (by unfold maxLen; omega)).mono ?_
        rintro e w4 ⟨rfl, hb4⟩
        have HB4 : Hid (Below w0.heap.size w0 w4) := HB3.out.trans (hb4.mono HB3.out.size)
        clear hb4 hq
        go_wp2_with fail
        refine (adler32_any u w4 (by have := HU.out; unfold maxLen; omega)).mono ?_
        rintro e w5 ⟨rfl, hb5⟩
        have HB5 : Hid (Below w0.heap.size w0 w5) := HB4.out.trans (hb5.mono HB4.out.size)
        clear hb5
        generalize adSum t.data.toList = a1 at *
        generalize adSum u.data.toList = a2 at *
        have hq : ((a1 : Int) != (a2 : Int)) = true := by have := HA.out; simp; omega
        go_wp2
        go_ret
        exact ⟨rfl, HB5.out⟩
end Go.Proofs.YtbodjopdhciaeaaDoor
