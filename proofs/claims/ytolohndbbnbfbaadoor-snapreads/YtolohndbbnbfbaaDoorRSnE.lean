/-
  The document's answer of snap: the paths that begin so, rising.
-/
import Derived.Test.YtolohndbbnbfbaaDoorRSnD
namespace Go.Proofs.YtolohndbbnbfbaaDoor
open Go.RowKit

def rundStep (p : ByteArray) (acc : List ByteArray) (f : FileB) : List ByteArray := if beginsF p f then putL acc f.1 else acc
def rundF (fs : List FileB) (p : ByteArray) : List ByteArray := fs.foldl (rundStep p) []
theorem rundF_take (fs : List FileB) (p : ByteArray) (k : Nat) (h : k < fs.length) : rundF (fs.take (k + 1)) p = rundStep p (rundF (fs.take k) p) fs[k] := by
  unfold rundF
  rw [List.take_succ_eq_append_getElem h, List.foldl_append]; rfl
/-- what Put does, by one round -/
theorem putF_shape (x : ByteArray) (l : List ByteArray) : (putF x l).1.length ≤ l.length + 1 ∧ ((putF x l).2 = false → (putF x l).1.length = l.length) := by
  have : ∀ k, k ≤ l.length → (putF x (l.take k)).1.length ≤ k + 1 ∧ ((putF x (l.take k)).2 = false → (putF x (l.take k)).1.length = k) := by
    intro k
    induction k with
    | zero => intro _; exact ⟨by simp [putF], fun _ => by simp [putF]⟩
    | succ k ih =>
      intro hk
      obtain ⟨h1, h2⟩ := ih (by omega)
      rw [putF_take x l k (by omega)]
      generalize putF x (l.take k) = st at *
      obtain ⟨O, d⟩ := st
      unfold putStep
      simp only at *
      split
      · exact ⟨by simp; omega, fun h => by simp at h⟩
      · split
        · exact ⟨by simp; omega, fun h => by simp at h⟩
        · rename_i hd
          have h3 := h2 (by simpa using hd)
          split
          · exact ⟨by simp; omega, fun h => by simp at h⟩
          · exact ⟨by simp; omega, fun _ => by simp; omega⟩
  have h := this l.length (Nat.le_refl _)
  rwa [List.take_of_length_le (Nat.le_refl _)] at h
theorem putL_len (l : List ByteArray) (x : ByteArray) : (putL l x).length ≤ l.length + 1 := by
  obtain ⟨h1, h2⟩ := putF_shape x l
  unfold putL
  split
  · exact h1
  · rename_i h
    have := h2 (by simpa using h)
    simp; omega
theorem rundF_len (fs : List FileB) (p : ByteArray) (k : Nat) (hk : k ≤ fs.length) : (rundF (fs.take k) p).length ≤ k := by
  induction k with
  | zero => simp [rundF]
  | succ k ih =>
    rw [rundF_take fs p k (by omega)]
    have := ih (by omega)
    unfold rundStep
    split
    · have := putL_len (rundF (fs.take k) p) (fs[k]'(by omega)).1; omega
    · omega
set_option maxHeartbeats 3200000 in
theorem runder_any (b off c : Nat) (fs : List FileB) (p : ByteArray) (w : World) (hb : b < w.heap.size) (hf : FilesAt w b off fs) (hl : fs.length ≤ 1000000) :
    Calls Tryd.prog 26 #[.slice (some ⟨b, off, none⟩) fs.length c, .string p] w fun e w' => SlRet w' w.heap.size (rundF fs p) e ∧ Below w.heap.size w w' := by
  have HF := hidM hf
  clear hf
  go_enter Tryd.func26, Tryd.ntmps26
  go_wp2_with fail
  have HO0 : Hid (OwnS (w.alloc (.cells #[] 9)) w.heap.size (.slice (some ⟨w.heap.size, 0, none⟩) 0 0) []) := World.ownsRow_made w #[] 0 (Nat.le_refl _) (Nat.zero_le _) (by simp)
  go_loopw [5, 7, 11] (fun ov _ i wr => ∃ (k : Nat), k ≤ fs.length ∧ i = .int .i64 k ∧ OwnS wr w.heap.size ov (rundF (fs.take k) p) ∧ Below w.heap.size w wr) (fun _ _ i _ => fs.length - (intOf i).toNat)
  case atStart => exact ⟨0, Nat.zero_le _, rfl, HO0.out, (Below.refl _ _).alloc (Nat.le_refl _) _⟩
  case round =>
    obtain ⟨k, hk, rfl, hown, hbr⟩ := hrel
    have HO := hidM hown
    have HB := hidM hbr
    have hsz := hbr.size
    clear hown hbr HO0
    by_cases hlt : k < fs.length
    · have kk : (k : Int) < (fs.length : Int) := by omega
      have c1 := (HF.out.below HB.out hb k hlt).1
      have c2 := (HF.out.below HB.out hb k hlt).2
      have HT := hidM (rundF_take fs p k hlt)
      have hrl := rundF_len fs p k hk
      have HBG := hidM (fun W => rbegins_any fs[k] p W)
      unfold rundStep at HT
      have HO1 : Hid (OwnS (wr.alloc (.cells #[.string fs[k].1, .string fs[k].2] 32)) w.heap.size u5 (rundF (fs.take k) p)) := World.ownsRow.alloc HO.out _
      have HB1 : Hid (Below w.heap.size w (wr.alloc (.cells #[.string fs[k].1, .string fs[k].2] 32))) := HB.out.alloc hsz _
      generalize beginsF p fs[k] = BB at *
      generalize fs[k].1 = X at *
      generalize fs[k].2 = D at *
      generalize rundF (fs.take k) p = L at *
      cases BB
      · go_wp2_with fail
        refine (HBG.out _).mono ?_
        rintro _ w2 ⟨rfl, rfl⟩
        go_wp2_with fail
        go_roundw
        case rel => exact ⟨k + 1, by omega, by go_num, by rw [HT.out]; exact HO1.out, HB1.out⟩
        case measure => (show fs.length - ((k : Int) + 1).toNat < fs.length - ((k : Int)).toNat); omega
      · go_wp2_with fail
        refine (HBG.out _).mono ?_
        rintro _ w2 ⟨rfl, rfl⟩
        have HPU := hidM (rput_any u5 L X _ HO1.out.strs (by omega))
        go_wp2_with fail
        refine HPU.out.mono ?_
        rintro _ w3 ⟨⟨v, hv, rfl⟩, hb3⟩
        have HO3 : Hid (OwnS w3 w.heap.size v (putL L X)) := own_mono hv (by have := HB1.out.size; omega)
        have HB3 : Hid (Below w.heap.size w w3) := HB1.out.trans (hb3.mono HB1.out.size)
        clear hv hb3
        go_wp2_with fail
        go_roundw
        case rel => exact ⟨k + 1, by omega, by go_num, by rw [HT.out]; exact HO3.out, HB3.out⟩
        case measure => (show fs.length - ((k : Int) + 1).toNat < fs.length - ((k : Int)).toNat); omega
    · obtain rfl : k = fs.length := by omega
      rw [List.take_of_length_le (Nat.le_refl _)] at HO
      go_wp2_with fail
      go_ret
      exact ⟨⟨_, HO.out, rfl⟩, HB.out⟩
end Go.Proofs.YtolohndbbnbfbaaDoor
