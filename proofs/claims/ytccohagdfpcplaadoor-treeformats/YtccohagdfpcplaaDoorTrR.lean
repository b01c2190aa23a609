/-
  Walks of the document's tree: Find, Name, Id, key.
-/
import Derived.Test.YtccohagdfpcplaaDoorTreE
namespace Go.Proofs.YtccohagdfpcplaaDoor
open Go.RowKit

/-- where a byte stands first -/
def findI (l : List UInt8) (c : UInt8) : Int := match l.findIdx? (· == c) with | some i => (i : Int) | none => -1
theorem find_some {l : List UInt8} {c : UInt8} {k : Nat} (hk : k < l.length) (h : l.getD k 0 = c) (hb : ∀ j, j < k → l.getD j 0 ≠ c) : findI l c = (k : Int) := by
  have : l.findIdx? (· == c) = some k := by
    rw [List.findIdx?_eq_some_iff_getElem]
    refine ⟨hk, ?_, fun j hj => ?_⟩
    · rw [List.getD_eq_getElem?_getD, List.getElem?_eq_getElem hk] at h
      simpa using h
    · have := hb j hj
      rw [List.getD_eq_getElem?_getD, List.getElem?_eq_getElem (by omega)] at this
      simpa using this
  unfold findI
  rw [this]
theorem find_none {l : List UInt8} {c : UInt8} (h : ∀ j, j < l.length → l.getD j 0 ≠ c) : findI l c = -1 ∧ c ∉ l := by
  have hn : c ∉ l := by
    intro hm
    obtain ⟨i, hi, he⟩ := List.mem_iff_getElem.1 hm
    exact h i hi (by rw [List.getD_eq_getElem?_getD, List.getElem?_eq_getElem hi]; exact he)
  refine ⟨?_, hn⟩
  have : l.findIdx? (· == c) = none := by
    rw [List.findIdx?_eq_none_iff]
    intro x hx
    have : x ≠ c := fun e => hn (e ▸ hx)
    simpa using this
  unfold findI
  rw [this]
theorem find_mem (l : List UInt8) (c : UInt8) : (c ∈ l ∧ 0 ≤ findI l c) ∨ (c ∉ l ∧ findI l c = -1) := by
  by_cases h : c ∈ l
  · refine Or.inl ⟨h, ?_⟩
    unfold findI
    cases hf : l.findIdx? (· == c) with
    | some i => show (0 : Int) ≤ (i : Int); omega
    | none => rw [List.findIdx?_eq_none_iff] at hf; have := hf c h; simp at this
  · refine Or.inr ⟨h, (find_none fun j hj e => h ?_).1⟩
    rw [List.getD_eq_getElem?_getD, List.getElem?_eq_getElem hj] at e
    exact (show l[j] = c from e) ▸ List.getElem_mem hj
set_option maxHeartbeats 800000 in
set_option maxRecDepth 100000 in
theorem rfind_any (s : ByteArray) (c : UInt8) (w : World) (hs : s.size ≤ 140737488355328) : Calls Tryd.prog 33 #[.string s, .int .u8 (c.toNat : Int)] w fun e w' => e = .returned (.int .i64 (findI s.data.toList c)) ∧ w' = w := by
  have HLen := hidM (len_size s)
  have HAT : Hid (∀ m (h : m < s.size), s.data.toList.getD m 0 = s[m]) := fun m h => getD_at s m h
  have HF : Hid (∀ k, k < s.size → s.data.toList.getD k 0 = c → (∀ j, j < k → s.data.toList.getD j 0 ≠ c) → findI s.data.toList c = (k : Int)) := fun k hk h hb => find_some (by rw [HLen.out]; exact hk) h hb
  have HN : Hid ((∀ j, j < s.size → s.data.toList.getD j 0 ≠ c) → findI s.data.toList c = -1) := fun h => (find_none (fun j hj => h j (by rw [← HLen.out]; exact hj))).1
  generalize findI s.data.toList c = R at *
  generalize s.data.toList = l at *
  go_enter Tryd.func33, Tryd.ntmps33
  go_wp2
  go_loop [5] (fun iv => ∃ k : Nat, k ≤ s.size ∧ iv = .int .i64 (k : Int) ∧ ∀ j, j < k → l.getD j 0 ≠ c) (fun i => s.size - (intOf i).toNat)
  case atStart => exact ⟨0, Nat.zero_le _, rfl, fun j hj => by omega⟩
  case round =>
    obtain ⟨k, hk, rfl, hb⟩ := hrel
    have HB := hidM hb
    clear hb
    by_cases hlt : k < s.size
    · have HC := hidM (HAT.out k hlt)
      by_cases hc : s[k] = c
      · have b1 : ((s[k].toNat : Int) == (c.toNat : Int)) = true := by rw [hc]; simp
        have HR := hidM (HF.out k hlt (by rw [HC.out]; exact hc) HB.out)
        clear hc HF HN HAT HC
        go_wp2
        go_ret
        exact ⟨by rw [HR.out]; rfl, rfl⟩
      · have b1 : ((s[k].toNat : Int) == (c.toNat : Int)) = false := by
          simp only [beq_eq_false_iff_ne, ne_eq]
          intro h
          exact hc (UInt8.toNat_inj.1 (by omega))
        have HNX : Hid (∀ j, j < k + 1 → l.getD j 0 ≠ c) := by
          intro j hj
          by_cases e : j = k
          · subst e; rw [HC.out]; exact hc
          · exact HB.out j (by omega)
        clear hc HF HN HAT HC
        go_wp2
        go_round
        case rel => exact ⟨k + 1, by omega, by go_num, HNX.out⟩
        case measure => simp [intOf]; omega
    · have HR := hidM (HN.out (fun j hj => HB.out j (by omega)))
      clear HF HN HAT
      go_wp2
      go_ret
      exact ⟨by rw [HR.out]; rfl, rfl⟩

theorem rid_any (s : ByteArray) (w : World) : Calls Tryd.prog 27 #[.string s] w fun e w' => e = .returned (.bool (idB s.data.toList)) ∧ w' = w := by
  have hl := len_size s
  by_cases h : s.size = 40
  · have b1 : ((s.size : Int) == 40) = true := by rw [h]; decide
    have HP := hidM (hexed_any s w (by unfold maxLen; omega))
    have HR : Hid (idB s.data.toList = hexed s.data.toList) := by unfold Hid idB hexed; rw [hl, h]; rfl
    clear h hl
    generalize hexed s.data.toList = q at *
    go_enter Tryd.func27, Tryd.ntmps27
    go_wp2_with fail
    refine HP.out.mono ?_
    rintro _ w1 ⟨rfl, hb1⟩
    rw [hb1]
    go_wp2
    go_ret
    exact ⟨by rw [HR.out]; rfl, rfl⟩
  · have b1 : ((s.size : Int) == 40) = false := by simp only [beq_eq_false_iff_ne, ne_eq]; omega
    have HR : Hid (idB s.data.toList = false) := by unfold Hid idB; rw [hl, decide_eq_false h, Bool.and_false]
    clear h hl
    go_enter Tryd.func27, Tryd.ntmps27
    go_wp2
    go_ret
    exact ⟨by rw [HR.out]; rfl, rfl⟩

set_option maxHeartbeats 1000000 in
set_option maxRecDepth 100000 in
theorem rkey_any (m : Int) (nm id : ByteArray) (w : World) (hn : nm.size ≤ 140737488355328) :
    Calls Tryd.prog 28 #[.agg #[.int .i64 m, .string nm, .string id]] w fun e w' => e = .returned (.string ⟨(keyL m nm.data.toList).toArray⟩) ∧ Below w.heap.size w w' := by
  have HE0 : Hid (EBox (w.alloc (.cells #[.int .i64 m, .string nm, .string id] 29)) w.heap.size m nm id) := heap_alloc_new w _
  have HB0 : Hid (Below w.heap.size w (w.alloc (.cells #[.int .i64 m, .string nm, .string id] 29))) := (Below.refl _ w).alloc (Nat.le_refl _) _
  have c0 := HE0.out.c0
  have c1 := HE0.out.c1
  have n1 : ¬ 9223372036854775807 < nm.size + 1 := by omega
  go_enter Tryd.func28, Tryd.ntmps28
  by_cases hm : m = 16384
  · have e1 : (m == 16384) = true := by simp; exact hm
    have HR : Hid ((nm ++ ⟨#[47]⟩ : ByteArray) = ⟨(keyL m nm.data.toList).toArray⟩) := by
      refine bytes_ext ?_
      unfold keyL
      rw [if_pos hm]
      simp [ByteArray.data_append]
    clear hm
    go_wp2
    go_ret
    exact ⟨by rw [← HR.out]; rfl, HB0.out⟩
  · have e1 : (m == 16384) = false := by simp; exact hm
    have HR : Hid (nm = ⟨(keyL m nm.data.toList).toArray⟩) := by
      refine bytes_ext ?_
      unfold keyL
      rw [if_neg hm]
    clear hm
    go_wp2
    go_ret
    exact ⟨by rw [← HR.out]; rfl, HB0.out⟩
end Go.Proofs.YtccohagdfpcplaaDoor
