/-
  Taken over from another program: WriW.
  Taken over from another program: ZWrA.
  Taken over from another program: RefX.
  Taken over from another program: EncM.
  Taken over from another program: TxtB.
-/
import Derived.Test.YtlmeoahcpmikiaaGreatDoorDef
import Derived.Test.YtlmeoahcpmikiaaGreatDoorJShelf
import Derived.Laws.BitsAllLaws
import Derived.WalkKit
import Derived.WalkSpells
import Derived.WalkLawsBesides
import Derived.Laws.IdiomStrings
import Derived.Deep.QuietTactic
import Derived.BigQuiet
import Derived.Deep.RegionHeld3
import Derived.Deep.MidRow
import Derived.Deep.RegionLaw
import Derived.Laws.MakeOwn
import Derived.Deep.RegionWith
import Derived.OwnWalk
import Derived.ArgAppend
import Derived.Test.YtlmeoahcpmikiaaGreatDoorJDecA
namespace Go.Proofs.YtlmeoahcpmikiaaGreatDoor
open Go.RowKit
theorem InfQ.tight {l : List UInt8} {M q t : Nat} {o : List UInt8} {r : List UInt8 × Nat × Nat} (h : InfQ l 0 (q : Int) r) (hr : Run l M (.blk false) 0 [] (.good t o)) (hq : q < o.length) (hM : q ≤ M) (hM2 : M ≤ 65536) : r = ([], 0, 2) := by
  rcases h with ⟨h, _⟩ | ⟨A, Q, hA, hQ, _,_, h⟩
  · omega
  · obtain rfl : A = 0 := by omega
    obtain rfl : q = Q := by omega
    rw [List.drop_zero] at h
    rcases h with ⟨n, hn, hrun, rfl⟩ | ⟨t', o', hrun, _, ho, _⟩
    · by_cases h2 : n = 2
      · rw [h2]
      · cases (limit_run hM hrun (fun e => h2 (by cases e; rfl))).det trivial _ hr
    · cases (limit_run hM hrun (fun e => by cases e)).det trivial _ hr
      omega
theorem InfQ.neg {l : List UInt8} {a m : Int} {r : List UInt8 × Nat × Nat} (h : InfQ l a m r) (hm : m < 0) : r = ([], 0, 1) := by
  rcases h with ⟨_, h⟩ | ⟨A, Q, _, hQ, _⟩
  · exact h
  · omega
end Go.Proofs.YtlmeoahcpmikiaaGreatDoor
namespace Go.Proofs.YtlmeoahcpmikiaaGreatDoor
open Go.RowKit
/-- a frame: head, a stream that tells s, the sum -/
def FrameOf (x s : List UInt8) : Prop := ∃ Z, Tells Z s ∧ Z.length ≤ 5 + s.length ∧ x = [120, 1] ++ Z ++ zsum s
theorem zsum_len (s : List UInt8) : (zsum s).length = 4 := by unfold zsum; rw [bigL_len]
set_option maxHeartbeats 1000000 in
set_option maxRecDepth 100000 in
theorem zwrite_any (s : ByteArray) (w : World) (hs : s.size ≤ 65535) :
    Calls Tryz.prog 36 #[.string s] w fun e w' => (∃ X : ByteArray, e = .returned (.string X) ∧ FrameOf X.data.toList s.data.toList ∧ X.size ≤ 11 + s.size ∧ 6 ≤ X.size) ∧ Below w.heap.size w w' := by
  have HLEN : Hid (s.data.toList.length = s.size) := Array.length_toList
  go_enter Tryz.func36, Tryz.ntmps36
  go_wp2_with fail
  refine (deflate_any s w hs).mono ?_
  rintro _ w1 ⟨⟨Z, rfl, hT, hzs⟩, hb1⟩
  have HB1 := hidM hb1
  have HT := hidM hT
  clear hb1 hT
  go_wp2_with fail
  refine (sumOf_any s w1 (by unfold maxLen; omega)).mono ?_
  rintro _ w2 ⟨rfl, hb2⟩
  have HB2 : Hid (Below w.heap.size w w2) := HB1.out.trans (hb2.mono HB1.out.size)
  clear hb2
  generalize hY : (⟨(zsum s.data.toList).toArray⟩ : ByteArray) = Y at *
  have HY : Hid (Y.data.toList = zsum s.data.toList) := by unfold Hid; rw [← hY]
  have hys : Y.size = 4 := by
    have : Y.data.toList.length = Y.size := Array.length_toList
    rw [← this, HY.out, zsum_len]
  have HYS := hidM hys
  have hys2 : Y.size ≤ 4 := by omega
  clear hY hys
  generalize hQ : (⟨#[120, 1]⟩ ++ Z : ByteArray) = Q at *
  have HQ : Hid (Q.data.toList = [120, 1] ++ Z.data.toList) := by unfold Hid; rw [← hQ, str_add]
  have HQS : Hid (Q.size = 2 + Z.size) := by unfold Hid; rw [← hQ, ByteArray.size_append]; rfl
  have hqs : Q.size ≤ 70002 := by have := HQS.out; omega
  clear hQ
  have hZl : Z.data.toList.length = Z.size := Array.length_toList
  have HF : Hid (FrameOf (Q ++ Y : ByteArray).data.toList s.data.toList) := ⟨Z.data.toList, HT.out, by rw [hZl, HLEN.out]; exact hzs, by rw [str_add, HQ.out, HY.out]⟩
  have HFS : Hid ((Q ++ Y : ByteArray).size ≤ 11 + s.size ∧ 6 ≤ (Q ++ Y : ByteArray).size) := by
    unfold Hid
    rw [ByteArray.size_append, HQS.out, HYS.out]
    omega
  clear hZl
  go_wp2
  go_ret
  exact ⟨⟨_, rfl, HF.out, HFS.out.1, HFS.out.2⟩, HB2.out⟩
/-- reading a frame within other bytes -/
theorem frame_read {front x s back : List UInt8} (h : FrameOf x s) {M : Nat} {r : List UInt8 × Nat × Nat} (hM : s.length ≤ M) (hM2 : M ≤ 65536) (hq : ZQ (front ++ (x ++ back)) (front.length : Int) (M : Int) r) : r = (s, x.length, 0) := by
  obtain ⟨Z, hT, _, rfl⟩ := h
  obtain ⟨t, ht, hrun⟩ := hT.app (zsum s ++ back)
  have hz := zsum_len s
  have hdrop : ∀ k, (front ++ (([120, 1] ++ Z ++ zsum s) ++ back)).drop (front.length + k) = (([120, 1] ++ Z ++ zsum s) ++ back).drop k := fun k => by rw [List.drop_append, List.drop_of_length_le (by omega), List.nil_append, show front.length + k - front.length = k by omega]
  have hlen : (front ++ (([120, 1] ++ Z ++ zsum s) ++ back)).length = front.length + (2 + Z.length + 4 + back.length) := by
    simp only [List.length_append, List.length_cons, List.length_nil, hz]
  have hg : ∀ k, (front ++ (([120, 1] ++ Z ++ zsum s) ++ back)).getD (front.length + k) 0 = (([120, 1] ++ Z ++ zsum s) ++ back).getD k 0 := fun k => by
    rw [List.getD_eq_getElem?_getD, List.getD_eq_getElem?_getD, List.getElem?_append_right (by omega), show front.length + k - front.length = k by omega]
  have h := ZQ.good (A := front.length) (M := M) (t := t) (o := s) hq (by omega) hM2
    (by have h0 := hg 0; have h1 := hg 1; rw [Nat.add_zero] at h0; rw [h0, h1]; exact (by decide +kernel : headB (UInt8.toNat 120) (UInt8.toNat 1) = true))
    (by
      rw [hdrop 2]
      have : ([120, 1] ++ Z ++ zsum s ++ back).drop 2 = Z ++ (zsum s ++ back) := by simp [List.append_assoc]
      rw [this]
      exact hrun M hM)
    (by omega)
    (by
      rw [ht, show front.length + 2 + Z.length = front.length + (2 + Z.length) by omega, hdrop]
      have : ([120, 1] ++ Z ++ zsum s ++ back).drop (2 + Z.length) = zsum s ++ back := by
        rw [List.append_assoc, List.drop_append, List.drop_of_length_le (by simp; omega), List.nil_append]
        simp only [List.length_append, List.length_cons, List.length_nil]
        rw [show 2 + Z.length - (0 + 1 + 1 + Z.length) = 0 by omega, List.drop_zero]
      rw [this, List.take_append_of_le_length (by omega), List.take_of_length_le (by omega)])
  rw [h, ht]
  simp only [List.length_append, List.length_cons, List.length_nil, hz]
  rw [show 0 + 1 + 1 + Z.length + 4 = Z.length + 6 by omega]
end Go.Proofs.YtlmeoahcpmikiaaGreatDoor
namespace Go.Proofs.YtlmeoahcpmikiaaGreatDoor
open Go.RowKit
/-- The eight bytes of a number, the highest first. -/
def b8 (n : Nat) (k : Nat) : List UInt8 := (List.range k).map fun j => UInt8.ofNat (n / 2 ^ (8 * (7 - j)) % 256)
end Go.Proofs.YtlmeoahcpmikiaaGreatDoor
namespace Go.Proofs.YtlmeoahcpmikiaaGreatDoor
open Go.RowKit
theorem splitC_app (c : UInt8) (p q : List UInt8) (h : c ∉ p) : splitC c (p ++ c :: q) = some (p, q) := by
  induction p with
  | nil => unfold splitC; simp
  | cons b p ih =>
    have h1 : b ≠ c := fun e => h (by simp [e])
    show splitC c (b :: (p ++ c :: q)) = _
    unfold splitC
    rw [if_neg h1, ih (fun hc => h (by simp [hc]))]
    rfl
theorem cutR_app (c : UInt8) (p q : List UInt8) (h : c ∉ p) : cutR c (p ++ c :: q) = (p, q, true) := by
  unfold cutR; rw [splitC_app c p q h]
theorem nm_signs : ∀ i, i < 5 → ∀ c ∈ nm i, c ≠ 0 ∧ c ≠ 32 := by decide
theorem nameL_signs (k : Int) (c : UInt8) (h : c ∈ nameL k) : c ≠ 0 ∧ c ≠ 32 := by
  unfold nameL at h
  split at h
  · by_cases h5 : k.toNat < 5
    · exact nm_signs _ h5 c h
    · rw [nm_big _ (by omega)] at h; simp at h
  · simp at h
theorem dig_signs (n : Nat) (c : UInt8) (h : c ∈ Lib.itoa (n : Nat)) : c ≠ 0 ∧ c ≠ 32 := by
  unfold Lib.itoa at h
  rw [if_neg (by omega)] at h
  have h1 := dd_digs _ c h
  unfold isDig at h1
  constructor
  · intro e; rw [e] at h1; revert h1; decide
  · intro e; rw [e] at h1; revert h1; decide
theorem kind_name (k : Int) (h : nameL k ≠ []) : kindL (nameL k) = k.toNat ∧ 1 ≤ k ∧ k ≤ 4 := by
  have h1 : 1 ≤ k ∧ k ≤ 4 := by
    refine Classical.byContradiction fun hn => h ?_
    unfold nameL
    split
    · by_cases h5 : 5 ≤ k.toNat
      · exact nm_big _ h5
      · have : k = 0 := by omega
        subst this; rfl
    · rfl
  obtain rfl | rfl | rfl | rfl : k = 1 ∨ k = 2 ∨ k = 3 ∨ k = 4 := by omega
  all_goals exact ⟨by decide, by decide, by decide⟩
theorem encL_shape (k : Int) (d : List UInt8) : encL k d = (nameL k ++ 32 :: Lib.itoa (d.length : Nat)) ++ 0 :: d := by
  unfold encL; simp
theorem dec_enc (k : Int) (d : List UInt8) (hk : nameL k ≠ []) (hd : d.length ≤ 65000) : decR (encL k d) = (k.toNat, d, 0) := by
  have h0 : (0 : UInt8) ∉ nameL k ++ 32 :: Lib.itoa (d.length : Nat) := by
    intro h
    rcases List.mem_append.1 h with h | h
    · exact (nameL_signs k 0 h).1 rfl
    · rcases List.mem_cons.1 h with h | h
      · revert h; decide
      · exact (dig_signs _ 0 h).1 rfl
  have h32 : (32 : UInt8) ∉ nameL k := fun h => (nameL_signs k 32 h).2 rfl
  have hok : NumOk (Lib.itoa (d.length : Nat)) := (itoa_ok _).2 ⟨by omega, by omega⟩
  unfold decR
  rw [encL_shape, cutR_app 0 _ _ h0]
  simp only
  rw [cutR_app 32 _ _ h32]
  simp only
  rw [numT_yes hok, numV_yes hok, itoa_val _ (by omega), (kind_name k hk).1]
  unfold decQ
  have hkk := (kind_name k hk).2
  rw [if_neg (by decide), if_neg (by omega), if_neg (by omega), if_neg (by omega), if_neg (by omega)]
end Go.Proofs.YtlmeoahcpmikiaaGreatDoor
namespace Go.Proofs.YtlmeoahcpmikiaaGreatDoor
open Go.RowKit
theorem encL_len (k : Int) (d : List UInt8) (hd : d.length ≤ 65000) : (encL k d).length ≤ 65100 := by
  unfold encL
  have h1 := nameL_len k
  have h2 := Lib.itoa_length_le (d.length : Nat) (by omega) (by omega)
  simp only [List.length_append, List.length_cons, List.length_nil]
  omega
end Go.Proofs.YtlmeoahcpmikiaaGreatDoor
