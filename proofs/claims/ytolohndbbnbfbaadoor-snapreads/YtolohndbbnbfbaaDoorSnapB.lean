/-
  Files in the heap; how many bytes they have.
-/
import Derived.Test.YtolohndbbnbfbaaDoorSnapA
namespace Go.Proofs.YtolohndbbnbfbaaDoor
open Go.RowKit

/-- a file: its path and its bytes -/
abbrev FileB := ByteArray × ByteArray
def FilesAt (w : World) (b off : Nat) (fs : List FileB) : Prop := ∀ i (h : i < fs.length), w.cell? ⟨b, off + i * 2, none⟩ = some (.string fs[i].1) ∧ w.cell? ⟨b, off + i * 2 + 1, none⟩ = some (.string fs[i].2)
/-- the files that a slice holds -/
def FilesIn (w : World) (a : Option Addr) (fs : List FileB) : Prop := fs = [] ∨ ∃ b off, a = some ⟨b, off, none⟩ ∧ FilesAt w b off fs
def sizeF (fs : List FileB) : Nat := (fs.map fun f => f.2.size).sum
theorem FilesAt.below {w w' : World} {b off B : Nat} {fs : List FileB} (h : FilesAt w b off fs) (hb : Below B w w') (hB : b < B) : FilesAt w' b off fs := fun i hi =>
  ⟨(hb.cell (p := ⟨b, off + i * 2, none⟩) hB).trans (h i hi).1, (hb.cell (p := ⟨b, off + i * 2 + 1, none⟩) hB).trans (h i hi).2⟩
theorem sizeF_take (fs : List FileB) (k : Nat) (h : k < fs.length) : sizeF (fs.take (k + 1)) = sizeF (fs.take k) + fs[k].2.size := by
  unfold sizeF
  rw [List.take_succ_eq_append_getElem h, List.map_append, List.sum_append]; simp
theorem sizeF_le (fs : List FileB) (k : Nat) : sizeF (fs.take k) ≤ sizeF fs := by
  have : sizeF fs = sizeF (fs.take k) + sizeF (fs.drop k) := by
    unfold sizeF
    rw [← List.sum_append, ← List.map_append, List.take_append_drop]
  omega
set_option maxHeartbeats 1600000 in
theorem size_at (b off c : Nat) (fs : List FileB) (w : World) (hb : b < w.heap.size) (hf : FilesAt w b off fs) (hs : sizeF fs ≤ 4611686018427387904) (hl : fs.length ≤ 1000000) :
    Calls Tryd.prog 45 #[.slice (some ⟨b, off, none⟩) fs.length c] w fun e w' => e = .returned (.int .i64 (sizeF fs : Nat)) ∧ Below w.heap.size w w' := by
  have HF := hidM hf
  clear hf
  go_enter Tryd.func45, Tryd.ntmps45
  go_wp2
  go_loopw [3, 5, 8] (fun v _ i wr => ∃ (k : Nat), k ≤ fs.length ∧ i = .int .i64 k ∧ v = .int .i64 (sizeF (fs.take k) : Nat) ∧ Below w.heap.size w wr) (fun _ _ i _ => fs.length - (intOf i).toNat)
  case atStart => exact ⟨0, Nat.zero_le _, rfl, rfl, Below.refl _ _⟩
  case round =>
    obtain ⟨k, hk, rfl, rfl, hb2⟩ := hrel
    have HB := hidM hb2
    clear hb2
    by_cases hlt : k < fs.length
    · have kk : (k : Int) < (fs.length : Int) := by omega
      have hc1 := (HF.out.below HB.out hb k hlt).1
      have hc2 := (HF.out.below HB.out hb k hlt).2
      have HT := hidM (sizeF_take fs k hlt)
      have h1 := sizeF_le fs k
      have h2 := sizeF_le fs (k + 1)
      rw [HT.out] at h2
      generalize sizeF (fs.take k) = S at *
      generalize fs[k].1 = P at *
      generalize fs[k].2 = D at *
      go_wp2
      go_roundw
      case rel => exact ⟨k + 1, by omega, by go_num, by rw [HT.out]; go_num, HB.out.alloc HB.out.size _⟩
      case measure => (show fs.length - ((k : Int) + 1).toNat < fs.length - ((k : Int)).toNat); omega
    · obtain rfl : k = fs.length := by omega
      rw [List.take_of_length_le (Nat.le_refl _)]
      go_wp2
      go_ret
      exact ⟨rfl, HB.out⟩
end Go.Proofs.YtolohndbbnbfbaaDoor
