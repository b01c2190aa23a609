/-
  odb of a folder without packs: Open, Get, Kind.
-/
import Derived.Test.YtlmeoahcpmikiaaGreatDoorJLoF
import Derived.Test.YtlmeoahcpmikiaaGreatDoorJLrC
namespace Go.Proofs.YtlmeoahcpmikiaaGreatDoor
open Go.RowKit

def packS : ByteArray := ⟨#[111, 98, 106, 101, 99, 116, 115, 47, 112, 97, 99, 107, 47, 112, 97, 99, 107, 45]⟩
set_option maxHeartbeats 2000000 in
set_option maxRecDepth 100000 in
theorem odbOpen_no (q b off c : Nat) (fs : List FileB) (w : World) (hF : Folder w q b off c fs) (hl : fs.length ≤ 1000000) (hr : Rise fs) (hn : undF fs packS = []) :
    Calls Tryz.prog 10 #[.pointer (some ⟨q, 0, none⟩)] w fun e w' => (∃ d, e = .returned (.tuple #[.pointer (some ⟨d, 0, none⟩), .int .i64 0]) ∧ Folder w' d b off c fs ∧ w'.cell? ⟨d, 1, none⟩ = some (.slice none 0 0) ∧ w.heap.size ≤ d) ∧ Below w.heap.size w w' := by
  have HF := hidM hF
  have c0 := hF.cell
  obtain ⟨w1, hw1⟩ : ∃ w1, w1 = w.alloc (.cells #[.slice (some ⟨b, off, none⟩) fs.length c, .slice none 0 0] 97) := ⟨_, rfl⟩
  have HD1 : Hid (w1.heap[w.heap.size]? = some (.cells #[.slice (some ⟨b, off, none⟩) fs.length c, .slice none 0 0] 97 (0, 0))) := by rw [hw1]; exact heap_alloc_new w _
  have HB1 : Hid (Below w.heap.size w w1) := by rw [hw1]; exact (Below.refl _ _).alloc (Nat.le_refl _) _
  have HUN := hidM (Under_any q b off c fs packS w1 (hF.below HB1.out) hl hr)
  rw [hn] at HUN
  clear hF hn
  go_enter Tryz.func10, Tryz.ntmps10
  go_wp2_with fail
  rw [← hw1]
  clear hw1 c0
  refine HUN.out.mono ?_
  rintro _ w2 ⟨⟨v, ho, rfl⟩, hb2⟩
  have HD2 := hidM (box_keptL HD1.out hb2)
  have HB2 := hidM (HB1.out.trans (hb2.mono HB1.out.size))
  obtain ⟨a2, c2, rfl⟩ : ∃ a2 c2, v = .slice a2 0 c2 := by
    rcases ho.2 with ⟨hnil, hn⟩ | ⟨g, cap, cur, rfl, _⟩
    · exact ⟨none, 0, hnil⟩
    · exact ⟨_, cap, rfl⟩
  clear ho hb2 HUN HD1 HB1
  go_wp2
  go_loopw [19] (fun iv wr => iv = .int .i64 0 ∧ wr = w2) (fun _ _ => 0)
  case atStart => exact ⟨rfl, rfl⟩
  case round =>
    obtain ⟨rfl, hwr⟩ := hrel
    rw [hwr]
    clear hwr
    go_wp2
    go_ret2
    refine ⟨⟨w.heap.size, rfl, ?_, ?_, Nat.le_refl _⟩, HB2.out⟩
    · have hlt : w.heap.size < w2.heap.size := (Array.getElem?_eq_some_iff.1 HD2.out).1
      have hf := HF.out.below HB2.out
      exact ⟨by rw [cell_of_row _ _ _ _ 97 (0, 0) HD2.out]; rfl, hf.files, hlt, hf.blt, hf.cap⟩
    · rw [cell_of_row _ _ _ _ 97 (0, 0) HD2.out]; rfl
set_option maxRecDepth 100000 in
/-- what Get answers of a file that is there, of its own -/
theorem odbGet_read (d : Nat) (id : ByteArray) (x : Value) (e : Nat) (w : World) (he : e ≠ 7) (hx : ∃ k s, x = .agg #[.int .i64 k, .string s])
    (hR : ∀ V, Below w.heap.size w V → Calls Tryz.prog 96 #[.pointer (some ⟨d, 0, none⟩), .string id] V fun en w' => en = .returned (.tuple #[x, .int .i64 (e : Nat)]) ∧ Below V.heap.size V w') :
    Calls Tryz.prog 51 #[.pointer (some ⟨d, 0, none⟩), .string id] w fun en w' => en = .returned (.tuple #[x, .int .i64 (e : Nat)]) ∧ Below w.heap.size w w' := by
  obtain ⟨k, s, rfl⟩ := hx
  have HR := hidM hR
  clear hR
  go_enter Tryz.func51, Tryz.ntmps51
  go_wp2_with fail
  refine (HR.out _ ((Below.refl _ _).alloc (Nat.le_refl _) _)).mono ?_
  rintro _ w1 ⟨rfl, hb1⟩
  have HX := hidM (box_keptL (heap_alloc_new w (.cells #[.int .i64 0, .string ⟨#[]⟩] 29)) hb1)
  have HB1 : Hid (Below w.heap.size w w1) := ((Below.refl w.heap.size w).alloc (Nat.le_refl _) _).trans (hb1.mono (by simp))
  have b7 : ((e : Int) == 7) = false := by simp only [beq_eq_false_iff_ne, ne_eq]; omega
  clear hb1 HR
  have HX2 : Hid ((w1.alloc (.cells #[.int .i64 k, .string s] 29)).heap[w.heap.size]? = some (.cells #[.int .i64 0, .string ⟨#[]⟩] 29 (0, 0))) := box_keptL HX.out ((Below.refl _ _).alloc (Nat.le_refl _) _)
  have HB2 : Hid (Below w.heap.size w (w1.alloc (.cells #[.int .i64 k, .string s] 29))) := HB1.out.alloc HB1.out.size _
  go_wp2_with (refine wpList_store_row rfl 29 (.tmp 4) (.tmp 21) rfl w.heap.size #[.int .i64 k, .string s] rfl rfl 29 #[.int .i64 0, .string ⟨#[]⟩] HX2.out size52 rfl (onesOb _ _) ?_)
  exact bodyPost_ret (results_box rfl _ _ w.heap.size _ rfl (run_loadVar_row _ w.heap.size 29 29 _ (0, 0) _ (setRow_heap _ _ _ _ 29 _ HX2.out) Tryz.underlying29 rfl size52)) rfl ⟨rfl, below_setRowL HB2.out (Nat.le_refl _)⟩
set_option maxHeartbeats 2000000 in
set_option maxRecDepth 100000 in
theorem odbKind_read (d : Nat) (id s : ByteArray) (k kind : Int) (w : World)
    (hR : ∀ V, Below w.heap.size w V → Calls Tryz.prog 96 #[.pointer (some ⟨d, 0, none⟩), .string id] V fun en w' => en = .returned (.tuple #[.agg #[.int .i64 k, .string s], .int .i64 0]) ∧ Below V.heap.size V w') :
    Calls Tryz.prog 12 #[.pointer (some ⟨d, 0, none⟩), .string id, .int .i64 kind] w fun en w' => en = .returned (.tuple #[.string (if k = kind then s else ⟨#[]⟩), .int .i64 (if k = kind then 0 else 10)]) ∧ Below w.heap.size w w' := by
  have HG := hidM (odbGet_read d id (.agg #[.int .i64 k, .string s]) 0 w (by decide) ⟨k, s, rfl⟩ hR)
  clear hR
  go_enter Tryz.func12, Tryz.ntmps12
  go_wp2_with fail
  refine HG.out.mono ?_
  rintro _ w1 ⟨rfl, hb1⟩
  have HB1 := hidM hb1
  have HX : Hid ((w1.alloc (.cells #[.int .i64 k, .string s] 29)).heap[w1.heap.size]? = some (.cells #[.int .i64 k, .string s] 29 (0, 0))) := heap_alloc_new _ _
  have HB2 : Hid (Below w.heap.size w (w1.alloc (.cells #[.int .i64 k, .string s] 29))) := HB1.out.alloc HB1.out.size _
  have c0 : (w1.alloc (.cells #[.int .i64 k, .string s] 29)).cell? ⟨w1.heap.size, 0, none⟩ = some (.int .i64 k) := by rw [cell_of_row _ _ _ _ 29 (0, 0) HX.out]; rfl
  have c1 : (w1.alloc (.cells #[.int .i64 k, .string s] 29)).cell? ⟨w1.heap.size, 1, none⟩ = some (.string s) := by rw [cell_of_row _ _ _ _ 29 (0, 0) HX.out]; rfl
  clear hb1 HG
  by_cases h : k = kind
  · subst h
    go_wp2
    go_ret2
    exact ⟨rfl, HB2.out⟩
  · have HH := hidM h
    go_wp2
    go_ret2
    exact ⟨rfl, HB2.out⟩
end Go.Proofs.YtlmeoahcpmikiaaGreatDoor
