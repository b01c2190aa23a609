/-
  Directives of module files: blocks are opened and shut.
-/
import Derived.Test.YtgkjmmfpbcgmgaaDoorLexC
namespace Go.Proofs.YtgkjmmfpbcgmgaaDoor
open Go.RowKit

/-- the directives' box: what was read, and the verb of the block that is open -/
def dirB (lv : Value) (B : ByteArray) : Obj := .cells #[lv, .string B] 46 (0, 0)
theorem dir_cells {V : World} {g : Nat} {v : Value} {x : ByteArray} (h : V.heap[g]? = some (dirB v x)) : V.cell? ⟨g, 0, none⟩ = some v ∧ V.cell? ⟨g, 1, none⟩ = some (.string x) ∧ ∀ j, V.frozen? ⟨g, j, none⟩ = false :=
  ⟨by rw [cell_of_row V g _ _ 46 (0, 0) h]; rfl, by rw [cell_of_row V g _ _ 46 (0, 0) h]; rfl, fun j => frozen_of_row V g j _ 46 h⟩
theorem OwnW.cellAt {w : World} {B : Nat} {v : Value} {P : List (List UInt8)} (h : OwnW w B v P) (hp : 0 < P.length) : ∃ g c, v = .slice (some ⟨g, 0, none⟩) P.length c ∧ (∀ j (hj : j < P.length), w.cell? ⟨g, j, none⟩ = some (strV P[j])) ∧ (∃ cur, w.heap[g]? = some (.cells cur 9 (0, 0))) ∧ P.length ≤ c ∧ c ≤ maxLen := by
  rcases h.2 with ⟨rfl, hn⟩ | ⟨g, cap, cur, rfl, hB, hg, hnc, hcm, hcs, htk⟩
  · omega
  · refine ⟨g, cap, rfl, fun j hj => ?_, ⟨cur, hg⟩, hnc, hcm⟩
    have h1 := World.ownsRow.cells (g := g) h rfl j (strV P[j]) (by simp [hj])
    have hadd : (⟨g, 0, none⟩ : Addr).add j = ⟨g, j, none⟩ := by unfold Addr.add; split <;> simp_all
    rw [hadd] at h1
    exact h1
set_option maxHeartbeats 1000000 in
theorem open_no (E : Nat) (lv wv : Value) (B : ByteArray) (ws : List (List UInt8)) (w : World) (hb : w.heap[E]? = some (dirB lv B)) (hw : OwnW w 0 wv ws) (hc : B.toList ≠ [] ∨ ws.length ≠ 1) :
    Calls Tryd.prog 39 #[.pointer (some ⟨E, 0, none⟩), wv] w fun e w' => e = .returned (.bool false) ∧ w' = w := by
  obtain ⟨d0, d1, df⟩ := dir_cells hb
  obtain ⟨n, c, rfl⟩ := hw.isSlice
  clear hb hw df
  generalize ws.length = l at *
  by_cases h1 : B.toList = []
  · have hl : l ≠ 1 := by
      rcases hc with h | h
      · exact absurd h1 h
      · exact h
    have h2 : ((l : Int) != 1) = true := by simp; omega
    have h3 : B.toList.isEmpty = true := by rw [h1]; rfl
    clear hc h1
    go_enter Tryd.func39, Tryd.ntmps39
    go_wp2
    go_ret
    exact ⟨rfl, rfl⟩
  · have h3 : B.toList.isEmpty = false := by
      cases hl : B.toList with
      | nil => exact absurd hl h1
      | cons _ _ => rfl
    clear hc h1
    go_enter Tryd.func39, Tryd.ntmps39
    go_wp2
    go_ret
    exact ⟨rfl, rfl⟩
set_option maxHeartbeats 1000000 in
theorem open_yes (E : Nat) (lv wv : Value) (B : ByteArray) (x : List UInt8) (w : World) (hb : w.heap[E]? = some (dirB lv B)) (hw : OwnW w 0 wv [x]) (hc : B.toList = []) :
    Calls Tryd.prog 39 #[.pointer (some ⟨E, 0, none⟩), wv] w fun e w' => e = .returned (.bool (decide (x ≠ []))) ∧ w' = w.setCell ⟨E, 1, none⟩ (strV x) := by
  obtain ⟨d0, d1, df⟩ := dir_cells hb
  have d2 := df 1
  obtain ⟨g, c, rfl, hcell, ⟨cur, hg⟩, hlc, _⟩ := hw.cellAt (by simp)
  have c0 := hcell 0 (by simp)
  have hge : g ≠ E := by
    rintro rfl
    rw [hb] at hg
    simp [dirB] at hg
  have hge2 := hge.symm
  simp only [List.getElem_cons_zero, strV] at c0
  have h3 : B.toList.isEmpty = true := by rw [hc]; rfl
  have HX : Hid ((!(⟨x.toArray⟩ : ByteArray).toList.isEmpty) = decide (x ≠ [])) := by
    unfold Hid
    rw [Lib.toList_data, Bool.eq_iff_iff]
    cases x <;> simp
  have hE : (w.setCell ⟨E, 1, none⟩ (strV x)).heap[E]? = some (dirB lv ⟨x.toArray⟩) := by
    rw [heap_setCell_same _ _ _ _ 46 _ hb]; rfl
  obtain ⟨_, e1, _⟩ := dir_cells hE
  unfold strV at e1 ⊢
  generalize (⟨x.toArray⟩ : ByteArray) = X at *
  generalize decide (x ≠ []) = r at *
  clear hb hw df hcell hg hc hE
  simp only [List.length_cons, List.length_nil, Nat.zero_add] at *
  go_enter Tryd.func39, Tryd.ntmps39
  go_wp2
  go_ret
  exact ⟨ret_bool HX.out, rfl⟩
set_option maxHeartbeats 1000000 in
theorem shut_no (E : Nat) (lv wv : Value) (B : ByteArray) (ws : List (List UInt8)) (w : World) (hb : w.heap[E]? = some (dirB lv B)) (hw : OwnW w 0 wv ws) (hc : B.toList = [] ∨ ws.length ≠ 0) :
    Calls Tryd.prog 40 #[.pointer (some ⟨E, 0, none⟩), wv] w fun e w' => e = .returned (.bool false) ∧ w' = w := by
  obtain ⟨d0, d1, df⟩ := dir_cells hb
  obtain ⟨n, c, rfl⟩ := hw.isSlice
  clear hb hw df
  generalize ws.length = l at *
  by_cases h1 : B.toList = []
  · have h3 : B.toList.isEmpty = true := by rw [h1]; rfl
    clear hc h1
    go_enter Tryd.func40, Tryd.ntmps40
    go_wp2
    go_ret
    exact ⟨rfl, rfl⟩
  · have hl : l ≠ 0 := by
      rcases hc with h | h
      · exact absurd h h1
      · exact h
    have h2 : ((l : Int) != 0) = true := by simp; omega
    have h3 : B.toList.isEmpty = false := by
      cases hl : B.toList with
      | nil => exact absurd hl h1
      | cons _ _ => rfl
    clear hc h1
    go_enter Tryd.func40, Tryd.ntmps40
    go_wp2
    go_ret
    exact ⟨rfl, rfl⟩
set_option maxHeartbeats 1000000 in
theorem shut_yes (E : Nat) (lv wv : Value) (B : ByteArray) (w : World) (hb : w.heap[E]? = some (dirB lv B)) (hw : OwnW w 0 wv []) (hc : B.toList ≠ []) :
    Calls Tryd.prog 40 #[.pointer (some ⟨E, 0, none⟩), wv] w fun e w' => e = .returned (.bool true) ∧ w' = w.setCell ⟨E, 1, none⟩ (.string ⟨#[]⟩) := by
  obtain ⟨d0, d1, df⟩ := dir_cells hb
  have d2 := df 1
  obtain ⟨n, c, rfl⟩ := hw.isSlice
  have h3 : B.toList.isEmpty = false := by
    cases hl : B.toList with
    | nil => exact absurd hl hc
    | cons _ _ => rfl
  clear hb hw df hc
  simp only [List.length_nil]
  go_enter Tryd.func40, Tryd.ntmps40
  go_wp2
  go_ret
  exact ⟨rfl, rfl⟩
end Go.Proofs.YtgkjmmfpbcgmgaaDoor
