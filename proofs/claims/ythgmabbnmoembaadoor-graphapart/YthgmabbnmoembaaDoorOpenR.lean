/-
  A list of lists of numbers that was handed in, opened.
-/
import Derived.Test.YthgmabbnmoembaaDoorGraA
import Derived.ChangeSlices
import Derived.LaidMore
import Derived.SizedLaws
namespace Go.Proofs.YthgmabbnmoembaaDoor
open Go.ChangeShapes Go.WideShapes Go.RowKit

theorem cells3 : Tryd.prog.cellsOf 3 = 1 := by kernel_rfl
theorem cells28 : Tryd.prog.cellsOf 28 = 1 := by kernel_rfl
theorem list_of (n : Nat) (P : Nat → List Int → Prop) (h : ∀ i, i < n → ∃ l, P i l) : ∃ L : List (List Int), L.length = n ∧ ∀ i (hi : i < L.length), P i L[i] := by
  induction n with
  | zero => exact ⟨[], rfl, fun i hi => by simp at hi⟩
  | succ n ih =>
    obtain ⟨L, hL, hP⟩ := ih fun i hi => h i (by omega)
    obtain ⟨l, hl⟩ := h n (by omega)
    refine ⟨L ++ [l], by simp [hL], fun i hi => ?_⟩
    by_cases h2 : i < L.length
    · rw [List.getElem_append_left h2]; exact hP i h2
    · have h3 : i = n := by simp at hi; omega
      subst h3
      have : (L ++ [l])[i] = l := by
        rw [List.getElem_append_right (by omega)]
        simp
      rw [this]; exact hl
theorem addr_plain {W : World} {a : Addr} {v : Value} (h : W.cell? (a.add 0) = some v) : ∃ b o, a = ⟨b, o, none⟩ ∧ b < W.heap.size := by
  obtain ⟨b, off, spot⟩ := a
  have hspot : spot = none := by simpa [Addr.add] using World.cell?_spot h
  subst hspot
  exact ⟨b, off, rfl, by have := block_lt_of_cell h; simpa [Addr.add] using this⟩
theorem open_ints28 {H : Type} {enc : TypeId × Value → H} {W : World} {u : Value} {fuel : Nat} {x : DataW H × List MemPlace} (h : DataW.trod enc Tryd.prog W 0 (fun _ => true) true fuel 28 [u] = some x) : ∃ l, IntsV W u l := by
  rcases Go.ChangeShapes.open_ints Tryd.underlying28 Tryd.underlying3 cells3 h with ⟨hcs, _⟩ | ⟨ad, len, c, zs, hcs, _, hl, hm, hz, _, hcell, _⟩
  · have hv : u = .slice none 0 0 := by simpa using hcs
    exact ⟨[], none, 0, hv, Nat.le_refl _, fun _ => rfl, fun h => absurd rfl h⟩
  · have hv : u = .slice (some ad) len c := by simpa using hcs
    have hzl : zs.length = c := by simpa using hz
    have hlen : (zs.take len).length = len := by rw [List.length_take]; omega
    refine ⟨zs.take len, some ad, c, by rw [hlen]; exact hv, by rw [hlen]; exact hl, fun h => (nomatch h), fun hne => ?_⟩
    have h0 : 0 < len := by
      have := List.length_pos_iff.2 hne
      omega
    obtain ⟨b, o, rfl, hb⟩ := addr_plain (hcell 0 (by omega))
    refine ⟨b, o, rfl, hb, fun j hj => ?_⟩
    rw [hlen] at hj
    have hj2 : j < zs.length := by omega
    have := hcell j hj2
    rw [Addr.add_lit] at this
    rw [this, List.getElem_take]
    congr 2
    rw [List.getD_eq_getElem?_getD, List.getElem?_eq_getElem hj2]
    rfl
theorem open_rows {H : Type} {enc : TypeId × Value → H} {W : World} {v : Value} {d : DataW H} {p : List MemPlace} (hv1 : v.cells.toList = [v])
    (h : DataW.Trod enc Tryd.prog W 0 (fun _ => true) true 22 v d p) : ∃ L, RowsV W v L := by
  obtain ⟨fuel, hf⟩ := h
  rw [hv1] at hf
  rcases DataW.trod_slice Tryd.underlying22 hf with ⟨hcs, _⟩ | ⟨ad, len, c, elems, rest, n, _, hcs, _, _, hl, _, hlen, hel, _⟩
  · have hv : v = .slice none 0 0 := by simpa using hcs
    exact ⟨[], none, 0, hv, Nat.le_refl _, fun h => absurd rfl h⟩
  · have hv : v = .slice (some ad) len c := by simpa using hcs
    have each : ∀ i, i < len → ∃ l, ∃ u, W.cell? (ad.add i) = some u ∧ IntsV W u l := by
      intro i hi
      have hE := hel i hi
      rw [cells28, Nat.mul_one] at hE
      have hE2 : ((W.cells? 0 (ad.add i) 1).bind (DataW.trod enc Tryd.prog W 0 (fun _ => true) true n 28)) = some (elems[i]'(by omega)) := by rw [hE, List.getElem?_eq_getElem (by omega)]
      rw [Option.bind_eq_some_iff] at hE2
      obtain ⟨c1, hc1, hy1⟩ := hE2
      have e0 : (ad.add i).add 0 = ad.add i := by simp [Addr.add]
      have : ∃ c, c1 = [c] ∧ W.cell? (ad.add i) = some c := by
        unfold World.cells? at hc1
        split at hc1
        · simp only [List.range_succ, List.range_zero, List.nil_append, List.mapM_cons, List.mapM_nil, e0] at hc1
          cases hcc : W.cell? (ad.add i) with
          | none => simp [hcc] at hc1
          | some c => simp [hcc] at hc1; exact ⟨c, hc1.symm, rfl⟩
        · cases hc1
      obtain ⟨u, rfl, hcell⟩ := this
      obtain ⟨l, hl2⟩ := open_ints28 hy1
      exact ⟨l, u, hcell, hl2⟩
    obtain ⟨L, hL, hP⟩ := list_of len _ each
    refine ⟨L, some ad, c, by rw [hL]; exact hv, by rw [hL]; exact hl, fun hne => ?_⟩
    have h0 : 0 < len := by have := List.length_pos_iff.2 hne; omega
    obtain ⟨_, u0, hc0, _⟩ := each 0 h0
    obtain ⟨b, o, rfl, hb⟩ := addr_plain hc0
    refine ⟨b, o, rfl, hb, fun j hj => ?_⟩
    obtain ⟨u, hu, hi⟩ := hP j hj
    rw [Addr.add_lit] at hu
    exact ⟨u, hu, hi⟩
theorem open_rowsC {H : Type} {enc : TypeId × Value → H} {W : World} {v : Value} {d : DataW H} {p : List MemPlace} {ts : List TypeId} {ds : List (DataW H)} {j : Nat} (hv1 : v.cells.toList = [v])
    (_hw : (DataW.weightsEach Tryd.prog ts ds).all (· ≤ reachBytes) = true) (_htj : ts[j]? = some 22) (_hdj : ds[j]? = some d)
    (h : DataW.Trod enc Tryd.prog W 0 (fun _ => true) true 22 v d p) : ∃ L, RowsV W v L := open_rows hv1 h
end Go.Proofs.YthgmabbnmoembaaDoor
