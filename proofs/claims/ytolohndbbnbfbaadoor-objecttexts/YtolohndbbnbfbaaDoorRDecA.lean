/-
  The document's Name, Kind, Find.
-/
import Derived.Test.YtolohndbbnbfbaaDoorDecA
namespace Go.Proofs.YtolohndbbnbfbaaDoor
open Go.RowKit

def nmV : Array Value := #[.string ⟨(nm 1).toArray⟩, .string ⟨(nm 2).toArray⟩, .string ⟨(nm 3).toArray⟩, .string ⟨(nm 4).toArray⟩]
theorem nameL_small (k : Int) (h : k < 1) : nameL k = [] := by
  unfold nameL
  split
  · obtain rfl : k = 0 := by omega
    rfl
  · rfl
set_option maxHeartbeats 1600000 in
theorem rname_any (k : Int) (w : World) :
    Calls Tryd.prog 34 #[.int .i64 k] w fun e w' => e = .returned (.string ⟨(nameL k).toArray⟩) ∧ Below w.heap.size w w' := by
  by_cases h0 : k < 1
  · have hn := hidM (nameL_small k h0)
    go_enter Tryd.func34, Tryd.ntmps34
    go_wp2
    go_ret
    exact ⟨by rw [hn.out]; rfl, Below.refl _ _⟩
  by_cases h5 : 4 < k
  · have hn := hidM (nameL_big k (by omega))
    go_enter Tryd.func34, Tryd.ntmps34
    go_wp2
    go_ret
    exact ⟨by rw [hn.out]; rfl, Below.refl _ _⟩
  obtain rfl | rfl | rfl | rfl : k = 1 ∨ k = 2 ∨ k = 3 ∨ k = 4 := by omega
  all_goals
    go_enter Tryd.func34, Tryd.ntmps34
    go_wp2
    go_ret
    exact ⟨rfl, (Below.refl _ _).alloc (Nat.le_refl _) _⟩

theorem index_app (c : UInt8) (p q : List UInt8) (h : c ∉ p) : Lib.indexByte (p ++ c :: q) c = (p.length : Int) := by
  induction p with
  | nil => unfold Lib.indexByte; simp
  | cons b p ih =>
    have h1 : b ≠ c := fun e => h (by simp [e])
    have h2 := ih (fun hc => h (by simp [hc]))
    show Lib.indexByte (b :: (p ++ c :: q)) c = _
    unfold Lib.indexByte
    rw [if_neg (by simpa using h1), h2, if_neg (by simp)]
    simp
theorem index_none (c : UInt8) (l : List UInt8) (h : c ∉ l) : Lib.indexByte l c = -1 := by
  induction l with
  | nil => rfl
  | cons b l ih =>
    have h1 : b ≠ c := fun e => h (by simp [e])
    unfold Lib.indexByte
    rw [if_neg (by simpa using h1), ih (fun hc => h (by simp [hc]))]
    rfl
theorem split_at (s : ByteArray) (k : Nat) (h : k < s.size) : s.data.toList = s.data.toList.take k ++ s[k] :: s.data.toList.drop (k + 1) := by
  have h1 : k < s.data.toList.length := by simpa using h
  rw [show s[k] = s.data.toList[k] from rfl, ← List.drop_eq_getElem_cons h1, List.take_append_drop]
set_option maxHeartbeats 1600000 in
theorem find_any (s : ByteArray) (c : UInt8) (w : World) (hs : s.size ≤ 9223372036854775807) :
    Calls Tryd.prog 66 #[.string s, .int .u8 (c.toNat : Int)] w fun e w' => e = .returned (.int .i64 (Lib.indexByte s.data.toList c)) ∧ w' = w := by
  go_enter Tryd.func66, Tryd.ntmps66
  go_wp2
  go_loopw [5] (fun i wr => ∃ (k : Nat), k ≤ s.size ∧ i = .int .i64 k ∧ c ∉ s.data.toList.take k ∧ wr = w) (fun i _ => s.size - (intOf i).toNat)
  case atStart => exact ⟨0, Nat.zero_le _, rfl, by simp, rfl⟩
  case round =>
    obtain ⟨k, hk, rfl, hd, rfl⟩ := hrel
    have HD := hidM hd
    clear hd
    by_cases hlt : k < s.size
    · have kk : (k : Int) < (s.size : Int) := by omega
      by_cases he : s[k] = c
      · have HI : Hid (Lib.indexByte s.data.toList c = (k : Int)) := by
          unfold Hid
          have h := index_app c (s.data.toList.take k) (s.data.toList.drop (k + 1)) HD.out
          rw [← he] at h
          rw [← split_at s k hlt, he] at h
          rw [h, List.length_take]
          have : s.data.toList.length = s.size := by simp
          rw [Nat.min_eq_left (by omega)]
        have e1 : (s[k].toNat : Int) = (c.toNat : Int) := by rw [he]
        clear he
        go_wp2
        go_ret
        exact ⟨by rw [HI.out]; rfl, rfl⟩
      · have HX : Hid (c ∉ s.data.toList.take (k + 1)) := by
          unfold Hid
          rw [take_one s k hlt]
          intro h
          rcases List.mem_append.1 h with h | h
          · exact HD.out h
          · rw [List.mem_singleton] at h; exact he h.symm
        have e1 : ¬ (s[k].toNat : Int) = (c.toNat : Int) := fun h => he (by rw [← UInt8.toNat_inj]; omega)
        have e2 : ((s[k].toNat : Int) == (c.toNat : Int)) = false := beq_false_of_ne e1
        clear he
        go_wp2
        go_roundw
        case rel => exact ⟨k + 1, by omega, by go_num, HX.out, trivial⟩
        case measure => (show s.size - ((k : Int) + 1).toNat < s.size - ((k : Int)).toNat); omega
    · obtain rfl : k = s.size := by omega
      have HI : Hid (Lib.indexByte s.data.toList c = -1) := index_none c _ (by
        have := HD.out
        rwa [List.take_of_length_le (by rw [sl_len]; omega)] at this)
      go_wp2
      go_ret
      exact ⟨by rw [HI.out]; rfl, rfl⟩

set_option maxHeartbeats 1600000 in
theorem rkind_any (s : ByteArray) (w : World) :
    Calls Tryd.prog 42 #[.string s] w fun e w' => e = .returned (.int .i64 (kindL s.data.toList : Nat)) ∧ Below w.heap.size w w' := by
  go_enter Tryd.func42, Tryd.ntmps42
  go_wp2
  go_loopw [3] (fun i wr => ∃ (k : Nat), 1 ≤ k ∧ k ≤ 5 ∧ i = .int .i64 k ∧ (∀ j, 1 ≤ j → j < k → nm j ≠ s.data.toList) ∧ Below w.heap.size w wr) (fun i _ => 5 - (intOf i).toNat)
  case atStart => exact ⟨1, by decide, by decide, rfl, fun j hj => by omega, Below.refl _ _⟩
  case round =>
    obtain ⟨k, hk1, hk, rfl, hd, hb⟩ := hrel
    have HD := hidM hd
    have HB := hidM hb
    clear hd hb
    by_cases hlt : k < 5
    · have kk : (k : Int) ≤ 4 := by omega
      have HC : Hid (∀ V, Calls Tryd.prog 34 #[.int .i64 (k : Int)] V fun e w' => e = .returned (.string ⟨(nm k).toArray⟩) ∧ Below V.heap.size V w') := fun V => by
        have h := rname_any (k : Int) V
        unfold nameL at h
        rw [if_pos (by omega), Int.toNat_natCast] at h
        exact h
      by_cases he : nm k = s.data.toList
      · have HK := hidM (kindL_at k hlt _ he)
        have e1 : (⟨(nm k).toArray⟩ : ByteArray) = s := by rw [he]
        rw [e1] at HC
        clear e1 he
        go_wp2_with fail
        refine (HC.out _).mono ?_
        rintro _ w2 ⟨rfl, hb2⟩
        have HB2 := hidM (two_le HB.out hb2 HB.out.size)
        go_wp2_with fail
        go_ret
        exact ⟨by rw [HK.out]; rfl, HB2.out⟩
      · have e1 : ((⟨(nm k).toArray⟩ : ByteArray).toList == s.toList) = false := by
          rw [ByteArray.toList_eq, ByteArray.toList_eq]; exact beq_false_of_ne he
        have HX : Hid (∀ j, 1 ≤ j → j < k + 1 → nm j ≠ s.data.toList) := fun j hj1 hj => by
          by_cases h : j < k
          · exact HD.out j hj1 h
          · have : j = k := by omega
            rw [this]; exact he
        clear he
        generalize (⟨(nm k).toArray⟩ : ByteArray) = X at *
        go_wp2_with fail
        refine (HC.out _).mono ?_
        rintro _ w2 ⟨rfl, hb2⟩
        have HB2 := hidM (two_le HB.out hb2 HB.out.size)
        clear hb2
        go_wp2_with fail
        go_roundw
        case rel => exact ⟨k + 1, by omega, by omega, by go_num, HX.out, HB2.out⟩
        case measure => (show 5 - ((k : Int) + 1).toNat < 5 - ((k : Int)).toNat); omega
    · obtain rfl : k = 5 := by omega
      have HK : Hid (kindL s.data.toList = 0) := by
        unfold Hid kindL
        rw [if_neg (Ne.symm (HD.out 1 (by decide) (by decide))), if_neg (Ne.symm (HD.out 2 (by decide) (by decide))), if_neg (Ne.symm (HD.out 3 (by decide) (by decide))), if_neg (Ne.symm (HD.out 4 (by decide) (by decide)))]
      go_wp2_with fail
      go_ret
      exact ⟨by rw [HK.out]; rfl, HB.out⟩
end Go.Proofs.YtolohndbbnbfbaaDoor
