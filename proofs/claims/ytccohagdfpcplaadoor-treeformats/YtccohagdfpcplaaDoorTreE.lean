/-
  Walks of tree: right, key.
-/
import Derived.Test.YtccohagdfpcplaaDoorHex
namespace Go.Proofs.YtccohagdfpcplaaDoor
open Go.RowKit

/-- an entry that lies in a block -/
def EBox (w : World) (b : Nat) (m : Int) (nm id : ByteArray) : Prop := w.heap[b]? = some (.cells #[.int .i64 m, .string nm, .string id] 29 (0, 0))
section
variable {w w' : World} {b : Nat} {m : Int} {nm id : ByteArray}
theorem EBox.c0 (h : EBox w b m nm id) : w.cell? ⟨b, 0, none⟩ = some (.int .i64 m) := by rw [cell_of_row w b _ _ 29 (0, 0) h]; rfl
theorem EBox.c1 (h : EBox w b m nm id) : w.cell? ⟨b, 1, none⟩ = some (.string nm) := by rw [cell_of_row w b _ _ 29 (0, 0) h]; rfl
theorem EBox.c2 (h : EBox w b m nm id) : w.cell? ⟨b, 2, none⟩ = some (.string id) := by rw [cell_of_row w b _ _ 29 (0, 0) h]; rfl
theorem EBox.lt (h : EBox w b m nm id) : b < w.heap.size := (Array.getElem?_eq_some_iff.1 h).1
theorem EBox.below (h : EBox w b m nm id) (hb : Below w.heap.size w w') : EBox w' b m nm id := (hb.block b h.lt).trans h
end
/-- is an entry right by itself -/
def rightB (m : Int) (nm id : List UInt8) : Bool := decide (m ∈ modesL) && nameB nm && idB id
theorem modeR_of (m : Int) : (modeR (octZ m)).isSome = decide (m ∈ modesL) := by
  by_cases h : m ∈ modesL
  · rw [decide_eq_true h]
    unfold modeR
    rw [List.find?_isSome]
    exact ⟨m, h, by simp⟩
  · rw [decide_eq_false h]
    have : modeR (octZ m) = none := by
      unfold modeR
      rw [List.find?_eq_none]
      intro x hx e
      simp only [beq_iff_eq] at e
      exact h (octZ_inj e ▸ hx)
    rw [this]; rfl
set_option maxHeartbeats 1000000 in
set_option maxRecDepth 100000 in
theorem right_any (m : Int) (nm id : ByteArray) (w : World) (hG : GT w) (h0 : -9223372036854775808 ≤ m) (h1 : m ≤ 9223372036854775807) (hi : id.size ≤ maxLen) :
    Calls Tryd.prog 29 #[.agg #[.int .i64 m, .string nm, .string id]] w fun e w' => e = .returned (.bool (rightB m nm.data.toList id.data.toList)) ∧ Below w.heap.size w w' := by
  have HE0 : Hid (EBox (w.alloc (.cells #[.int .i64 m, .string nm, .string id] 29)) w.heap.size m nm id) := heap_alloc_new w _
  have HB0 : Hid (Below w.heap.size w (w.alloc (.cells #[.int .i64 m, .string nm, .string id] 29))) := (Below.refl _ w).alloc (Nat.le_refl _) _
  have HG0 := hidM (hG.below HB0.out)
  have HRB : Hid (rightB m nm.data.toList id.data.toList = ((modeR (octZ m)).isSome && nameB nm.data.toList && idB id.data.toList)) := by unfold Hid rightB; rw [modeR_of]
  clear hG
  go_enter Tryd.func29, Tryd.ntmps29
  have c0 := HE0.out.c0
  go_wp2_with fail
  generalize w.alloc (.cells #[.int .i64 m, .string nm, .string id] 29) = w1 at *
  obtain ⟨b, hb⟩ : ∃ b, b = w.heap.size := ⟨_, rfl⟩
  rw [← hb] at HE0 HB0
  simp only [← hb]
  have HBB := hidM hb
  clear hb
  refine (written_any m w1 HG0.out h0 h1).mono ?_
  rintro _ w2 ⟨rfl, hb2⟩
  have HE2 := hidM (HE0.out.below hb2)
  have HG2 := hidM (HG0.out.below hb2)
  have HB2 : Hid (Below b w w2) := HB0.out.trans (hb2.mono (by rw [HBB.out]; exact HB0.out.size))
  clear hb2 HE0 HG0 HB0 c0
  have HMO := hidM (modeOf_any ⟨(octZ m).toArray⟩ w2 HG2.out)
  have ho : (⟨(octZ m).toArray⟩ : ByteArray).data.toList = octZ m := rfl
  rw [ho] at HMO
  clear ho
  go_wp2_with fail
  refine HMO.out.mono ?_
  rintro _ w3 ⟨rfl, hb3⟩
  have HE3 := hidM (HE2.out.below hb3)
  have HG3 := hidM (HG2.out.below hb3)
  have HB3 : Hid (Below b w w3) := HB2.out.trans (hb3.mono (by rw [HBB.out]; exact HB2.out.size))
  clear hb3 HE2 HG2 HB2 HMO
  have c1 := HE3.out.c1
  generalize (⟨(octZ m).toArray⟩ : ByteArray) = O at *
  cases hm : (modeR (octZ m)).isSome with
  | false =>
    rw [hm] at HRB
    generalize (modeR (octZ m)).getD 0 = mm at *
    clear hm
    go_wp2
    go_ret
    exact ⟨by rw [HRB.out]; rfl, by rw [← HBB.out]; exact HB3.out⟩
  | true =>
    rw [hm] at HRB
    generalize (modeR (octZ m)).getD 0 = mm at *
    clear hm
    have HNA := hidM (name_any nm w3 HG3.out)
    go_wp2_with fail
    refine HNA.out.mono ?_
    rintro _ w4 ⟨rfl, hb4⟩
    have HE4 := hidM (HE3.out.below hb4)
    have HB4 : Hid (Below b w w4) := HB3.out.trans (hb4.mono (by rw [HBB.out]; exact HB3.out.size))
    have c2 := HE4.out.c2
    clear hb4 HNA HE3 HG3 HB3 c1
    cases hn : nameB nm.data.toList with
    | false =>
      rw [hn] at HRB
      clear hn
      go_wp2
      go_ret
      exact ⟨by rw [HRB.out]; rfl, by rw [← HBB.out]; exact HB4.out⟩
    | true =>
      rw [hn] at HRB
      clear hn
      have HID := hidM (id_any id w4 hi)
      go_wp2_with fail
      refine HID.out.mono ?_
      rintro _ w0 ⟨rfl, h9⟩
      rw [h9]
      clear h9 w0
      generalize idB id.data.toList = q at *
      go_wp2
      go_ret
      exact ⟨by rw [HRB.out]; simp, by rw [← HBB.out]; exact HB4.out⟩
/-- by which entries rise -/
def keyL (m : Int) (nm : List UInt8) : List UInt8 := if m = 16384 then nm ++ [47] else nm
set_option maxHeartbeats 1000000 in
set_option maxRecDepth 100000 in
theorem key_any (m : Int) (nm id : ByteArray) (w : World) (hn : nm.size ≤ 140737488355328) :
    Calls Tryd.prog 30 #[.agg #[.int .i64 m, .string nm, .string id]] w fun e w' => e = .returned (.string ⟨(keyL m nm.data.toList).toArray⟩) ∧ Below w.heap.size w w' := by
  have HE0 : Hid (EBox (w.alloc (.cells #[.int .i64 m, .string nm, .string id] 29)) w.heap.size m nm id) := heap_alloc_new w _
  have HB0 : Hid (Below w.heap.size w (w.alloc (.cells #[.int .i64 m, .string nm, .string id] 29))) := (Below.refl _ w).alloc (Nat.le_refl _) _
  have c0 := HE0.out.c0
  have c1 := HE0.out.c1
  have n1 : ¬ 9223372036854775807 < nm.size + 1 := by omega
  go_enter Tryd.func30, Tryd.ntmps30
  by_cases hm : m = 16384
  · have e1 : (m == 16384) = true := by simp; exact hm
    have HR : Hid ((nm ++ ⟨#[47]⟩ : ByteArray) = ⟨(keyL m nm.data.toList).toArray⟩) := by
      refine bytes_ext ?_
      unfold keyL
      rw [if_pos hm]
      simp [ByteArray.data_append]
    clear hm
    go_wp2
    go_ret
    exact ⟨by rw [← HR.out]; rfl, HB0.out⟩
  · have e1 : (m == 16384) = false := by simp; exact hm
    have HR : Hid (nm = ⟨(keyL m nm.data.toList).toArray⟩) := by
      refine bytes_ext ?_
      unfold keyL
      rw [if_neg hm]
    clear hm
    go_wp2
    go_ret
    exact ⟨by rw [← HR.out]; rfl, HB0.out⟩
end Go.Proofs.YtccohagdfpcplaaDoor
