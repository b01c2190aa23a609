/-
  The lexer of module files: its box, the next byte, remarks, the ends of words.
-/
import Derived.Test.YtgkjmmfpbcgmgaaDoorRows
import Derived.Test.YtgkjmmfpbcgmgaaDoorMfM
import Derived.Test.YtgkjmmfpbcgmgaaDoorShelf
import Derived.WalkKit
import Derived.WalkSpells
import Derived.WalkLawsBesides
import Derived.Laws.IdiomStrings
import Derived.Deep.QuietTactic
import Derived.BigQuiet
import Derived.Deep.RegionHeld3
import Derived.Deep.MidRow
import Derived.Deep.DeepCutAuto
namespace Go.Proofs.YtgkjmmfpbcgmgaaDoor
open Go.RowKit

theorem hidM {p : Prop} (h : p) : Hid p := h
theorem ret_int {k : IntKind} {a b : Int} (h : a = b) : Ending.returned (.int k a) = .returned (.int k b) := by rw [h]
theorem ret_bool {a b : Bool} (h : a = b) : Ending.returned (.bool a) = .returned (.bool b) := by rw [h]

/-- Only block b has turned. -/
structure Only (b : Nat) (w w' : World) : Prop where
  os : w'.os = w.os
  tape : w'.tape = w.tape
  output : w'.output = w.output
  size : w'.heap.size = w.heap.size
  block : ∀ k, k ≠ b → w'.heap[k]? = w.heap[k]?
theorem Only.refl (b : Nat) (w : World) : Only b w w := ⟨rfl, rfl, rfl, rfl, fun _ _ => rfl⟩
theorem Only.trans {b : Nat} {u v w : World} (h : Only b u v) (k : Only b v w) : Only b u w :=
  ⟨k.os.trans h.os, k.tape.trans h.tape, k.output.trans h.output, k.size.trans h.size, fun n hn => (k.block n hn).trans (h.block n hn)⟩
theorem Only.drewN {b : Nat} {w w' : World} (h : Only b w w') (n : Nat) : Only b w (w'.drewN n) := ⟨h.os, h.tape, h.output, h.size, h.block⟩
theorem Only.setCell {b : Nat} {w w' : World} (h : Only b w w') (o : Nat) (v : Value) : Only b w (w'.setCell ⟨b, o, none⟩ v) :=
  ⟨h.os, h.tape, h.output, by rw [← h.size]; simp [World.setCell], fun k hk => (Below.heap_setCell w' ⟨b, o, none⟩ v k hk).trans (h.block k hk)⟩
theorem Only.below {b B : Nat} {w w' : World} (h : Only b w w') (hB : B ≤ b) : Below B w w' :=
  ⟨h.os, h.tape, h.output, by rw [h.size]; exact Nat.le_refl _, fun k hk => h.block k (by omega)⟩

/-- A lexer's box: the text, and how many bytes are taken. -/
def RBox (w : World) (b : Nat) (s : ByteArray) (t : Nat) : Prop := w.heap[b]? = some (.cells #[.string s, .int .i64 (t : Int)] 44 (0, 0))
theorem RBox.text {w : World} {b : Nat} {s : ByteArray} {t : Nat} (h : RBox w b s t) : w.cell? ⟨b, 0, none⟩ = some (.string s) := by
  rw [cell_of_row w b _ _ 44 (0, 0) h]; rfl
theorem RBox.taken {w : World} {b : Nat} {s : ByteArray} {t : Nat} (h : RBox w b s t) : w.cell? ⟨b, 1, none⟩ = some (.int .i64 (t : Int)) := by
  rw [cell_of_row w b _ _ 44 (0, 0) h]; rfl
theorem RBox.frozen {w : World} {b : Nat} {s : ByteArray} {t : Nat} (h : RBox w b s t) (j : Nat) : w.frozen? ⟨b, j, none⟩ = false := frozen_of_row w b j _ 44 h
theorem RBox.set {w : World} {b : Nat} {s : ByteArray} {t : Nat} (h : RBox w b s t) (m : Nat) : RBox (w.setCell ⟨b, 1, none⟩ (.int .i64 (m : Int))) b s m := by
  unfold RBox
  rw [heap_setCell_same w b _ _ 44 _ h]
  rfl
theorem RBox.same {w w' : World} {b : Nat} {s : ByteArray} {t : Nat} (h : RBox w b s t) (hh : w'.heap[b]? = w.heap[b]?) : RBox w' b s t := by
  unfold RBox; rw [hh]; exact h
theorem RBox.lt {w : World} {b : Nat} {s : ByteArray} {t : Nat} (h : RBox w b s t) : b < w.heap.size := by
  unfold RBox at h
  exact (Array.getElem?_eq_some_iff.1 h).1
theorem RBox.drewN {w : World} {b : Nat} {s : ByteArray} {t : Nat} (h : RBox w b s t) (n : Nat) : RBox (w.drewN n) b s t := h
theorem RBox.below {w w' : World} {B b : Nat} {s : ByteArray} {t : Nat} (h : RBox w b s t) (hb : Below B w w') (hB : b < B) : RBox w' b s t := h.same (hb.block b hB)

/-- what stands behind the first t bytes -/
def restL (s : ByteArray) (t : Nat) : List UInt8 := s.data.toList.drop t
/-- the byte that comes next; -1: none -/
def headI : List UInt8 → Int
  | [] => -1
  | c :: _ => (c.toNat : Int)
theorem rest_nil {s : ByteArray} {t : Nat} (h : restL s t = []) (ht : t ≤ s.size) : t = s.size := by
  have : s.data.toList.length ≤ t := by simpa [restL] using h
  rw [Array.length_toList] at this
  exact Nat.le_antisymm ht this
theorem rest_cons {s : ByteArray} {t : Nat} {c : UInt8} {r : List UInt8} (h : restL s t = c :: r) : ∃ hl : t < s.size, s[t] = c ∧ restL s (t + 1) = r := by
  unfold restL at h ⊢
  have hl : t < s.data.toList.length := by
    apply Classical.byContradiction; intro hn
    rw [List.drop_eq_nil_of_le (by omega)] at h; cases h
  rw [List.drop_eq_getElem_cons hl] at h
  simp only [List.cons.injEq] at h
  rw [Array.length_toList] at hl
  exact ⟨hl, h.1, h.2⟩
theorem rest_len (s : ByteArray) (t : Nat) : (restL s t).length = s.size - t := by
  unfold restL
  rw [List.length_drop, Array.length_toList]; rfl


theorem Only.quiet {b : Nat} {w : World} (n : Nat) : Only b w (w.drewN n) := ⟨rfl, rfl, rfl, rfl, fun _ _ => rfl⟩
set_option maxHeartbeats 400000 in
theorem look_any (b : Nat) (s : ByteArray) (t : Nat) (w : World) (h : RBox w b s t) (_hs : s.size ≤ 1000000) (ht : t ≤ s.size) :
    Calls Tryd.prog 56 #[.pointer (some ⟨b, 0, none⟩)] w fun e w' => e = .returned (.int .i64 (headI (restL s t))) ∧ ∃ n, w' = w.drewN n := by
  have h1 := h.text
  have h2 := h.taken
  cases hr : restL s t with
  | nil =>
    have := rest_nil hr ht
    subst this
    go_enter Tryd.func56, Tryd.ntmps56
    go_wp2
    go_quiet (fail)
    go_wp2
    go_ret
    exact ⟨rfl, _, rfl⟩
  | cons c r =>
    obtain ⟨hl, hc, _⟩ := rest_cons hr
    have e0 : ((t : Int) == (s.size : Int)) = false := by simp; omega
    have k5 : s[t].toNat < 256 := s[t].toNat_lt
    go_enter Tryd.func56, Tryd.ntmps56
    go_wp2
    go_quiet (fail)
    go_wp2
    go_quiet (fail)
    go_wp2
    go_ret
    refine ⟨ret_int ?_, _, World.drewN_drewN _ _ _⟩
    simp only [headI, ← hc]
    generalize s[t].toNat = q at *
    unfold wrap64
    omega
set_option maxHeartbeats 400000 in
theorem take_any (b : Nat) (s : ByteArray) (t : Nat) (w : World) (h : RBox w b s t) (hs : s.size ≤ 1000000) (ht : t ≤ s.size) :
    Calls Tryd.prog 53 #[.pointer (some ⟨b, 0, none⟩)] w fun e w' => e = .returned (.int .i64 (headI (restL s t))) ∧ RBox w' b s (if t < s.size then t + 1 else t) ∧ Only b w w' := by
  have HL := hidM (look_any b s t w h hs ht)
  have HB := hidM h
  cases hr : restL s t with
  | nil =>
    have hn : ¬ t < s.size := by have := rest_nil hr ht; omega
    rw [hr] at HL
    rw [if_neg hn]
    clear h
    go_enter Tryd.func53, Tryd.ntmps53
    go_wp2_with fail
    refine HL.out.mono ?_
    rintro _ _ ⟨rfl, n, rfl⟩
    simp only [headI]
    go_wp2
    go_ret
    exact ⟨rfl, HB.out.drewN n, Only.quiet n⟩
  | cons c r =>
    obtain ⟨hl, hc, _⟩ := rest_cons hr
    rw [hr] at HL
    rw [if_pos hl]
    have k5 : c.toNat < 256 := c.toNat_lt
    have hne : ((c.toNat : Int) != -1) = true := by simp
    clear h
    go_enter Tryd.func53, Tryd.ntmps53
    go_wp2_with fail
    refine HL.out.mono ?_
    rintro _ _ ⟨rfl, n, rfl⟩
    simp only [headI]
    have h1 := (HB.out.drewN n).taken
    have h2 := (HB.out.drewN n).frozen 1
    go_wp2
    go_ret
    exact ⟨rfl, (HB.out.drewN n).set (t + 1), (Only.quiet n).setCell _ _⟩
theorem rem_prefix (s : ByteArray) (t : Nat) : Lib.hasPrefix (s.extract t s.size).data.toList [47, 47] = remB (restL s t) := by
  have h : (s.extract t s.size).data.toList = restL s t := by
    rw [Lib.extract_data]
    unfold restL
    rw [List.take_of_length_le]
    rw [List.length_drop, Array.length_toList]
    exact Nat.le_refl _
  rw [h, ← Lib.hasPrefix_of_take]
  unfold remB
  by_cases hl : 2 ≤ (restL s t).length
  · simp [hl]
  · have : (restL s t).take 2 ≠ [47, 47] := by
      intro h2
      have := congrArg List.length h2
      simp at this
      omega
    simp [hl, this]
set_option maxHeartbeats 400000 in
theorem remark_any (b : Nat) (s : ByteArray) (t : Nat) (w : World) (h : RBox w b s t) (ht : t ≤ s.size) :
    Calls Tryd.prog 52 #[.pointer (some ⟨b, 0, none⟩)] w fun e w' => e = .returned (.bool (remB (restL s t))) ∧ ∃ n, w' = w.drewN n := by
  have h1 := h.text
  have h2 := h.taken
  have HP := hidM (fun V => Tryd.strings_HasPrefix (s.extract t s.size) ⟨#[47, 47]⟩ V)
  have HR := rem_prefix s t
  rw [show (⟨#[47, 47]⟩ : ByteArray).data.toList = [47, 47] from rfl, HR] at HP
  clear HR
  generalize remB (restL s t) = rb at *
  go_enter Tryd.func52, Tryd.ntmps52
  go_wp2
  go_quiet ((go_at_call 46; with_reducible exact Calls.quiet_of_same (HP.out _)))
  go_wp2
  go_ret
  exact ⟨rfl, _, rfl⟩
/-- is what comes next no more of a word? -/
theorem wEnd_head (l : List UInt8) : wEnd l = (headI l == -1 || headI l == 10 || headI l == 32 || headI l == 9 || headI l == 13 || headI l == 40 || headI l == 41 || headI l == 34 || headI l == 96 || remB l) := by
  cases l with
  | nil => rfl
  | cons c r =>
    have h : ∀ k : UInt8, ((c.toNat : Int) == (k.toNat : Int)) = (c == k) := fun k => by
      rw [Bool.eq_iff_iff]
      simp only [beq_iff_eq]
      constructor
      · intro h; exact UInt8.toNat_inj.1 (by omega)
      · intro h; rw [h]
    have h1 := h 10
    have h2 := h 32
    have h3 := h 9
    have h4 := h 13
    have h5 := h 40
    have h6 := h 41
    have h7 := h 34
    have h8 := h 96
    simp only [show ((10 : UInt8).toNat : Int) = 10 from rfl, show ((32 : UInt8).toNat : Int) = 32 from rfl, show ((9 : UInt8).toNat : Int) = 9 from rfl, show ((13 : UInt8).toNat : Int) = 13 from rfl, show ((40 : UInt8).toNat : Int) = 40 from rfl, show ((41 : UInt8).toNat : Int) = 41 from rfl, show ((34 : UInt8).toNat : Int) = 34 from rfl, show ((96 : UInt8).toNat : Int) = 96 from rfl] at h1 h2 h3 h4 h5 h6 h7 h8
    have h0 : ((c.toNat : Int) == -1) = false := by simp
    simp only [headI, wEnd, blkB, h0, h1, h2, h3, h4, h5, h6, h7, h8, Bool.false_or, Bool.or_assoc]
set_option maxHeartbeats 1000000 in
theorem wordEnds_any (b : Nat) (s : ByteArray) (t : Nat) (w : World) (h : RBox w b s t) (hs : s.size ≤ 1000000) (ht : t ≤ s.size) :
    Calls Tryd.prog 54 #[.pointer (some ⟨b, 0, none⟩)] w fun e w' => e = .returned (.bool (wEnd (restL s t))) ∧ ∃ n, w' = w.drewN n := by
  have HL := hidM (look_any b s t w h hs ht)
  have HR := hidM (fun n => remark_any b s t (w.drewN n) (h.drewN n) ht)
  have HE := hidM (wEnd_head (restL s t))
  generalize headI (restL s t) = k at *
  generalize remB (restL s t) = rb at *
  generalize wEnd (restL s t) = we at *
  clear h
  go_enter Tryd.func54, Tryd.ntmps54
  go_wp2_with fail
  refine HL.out.mono ?_
  rintro _ _ ⟨rfl, n, rfl⟩
  obtain ⟨a, ha⟩ : ∃ a : Bool, a = (k == -1 || k == 10 || k == 32 || k == 9 || k == 13 || k == 40 || k == 41 || k == 34 || k == 96) := ⟨_, rfl⟩
  have HE2 := HE.out
  rw [← ha] at HE2
  cases a with
  | true =>
    rw [Bool.true_or] at HE2
    subst HE2
    have hk : k = -1 ∨ k = 10 ∨ k = 32 ∨ k = 9 ∨ k = 13 ∨ k = 40 ∨ k = 41 ∨ k = 34 ∨ k = 96 := by simpa [or_assoc] using ha.symm
    clear ha HE
    rcases hk with rfl | rfl | rfl | rfl | rfl | rfl | rfl | rfl | rfl
    all_goals
      go_wp2_with fail
      go_ret
      exact ⟨rfl, _, rfl⟩
  | false =>
    rw [Bool.false_or] at HE2
    subst HE2
    have hk := ha.symm
    simp only [Bool.or_eq_false_iff] at hk
    obtain ⟨⟨⟨⟨⟨⟨⟨⟨b0, b1⟩, b2⟩, b3⟩, b4⟩, b5⟩, b6⟩, b7⟩, b8⟩ := hk
    clear ha HE
    go_wp2_with fail
    refine (HR.out n).mono ?_
    rintro _ _ ⟨rfl, m, rfl⟩
    go_wp2
    go_ret
    exact ⟨rfl, _, rfl⟩
/-- what a byte behind a backslash says; -1: nothing -/
def mntI (k : Int) : Int := if k = 34 ∨ k = 92 then k else if k = 110 then 10 else if k = 116 then 9 else -1
set_option maxHeartbeats 400000 in
theorem meant_any (k : Int) (w : World) : Calls Tryd.prog 57 #[.int .i64 k] w fun e w' => e = .returned (.int .i64 (mntI k)) ∧ w' = w := by
  unfold mntI
  by_cases h1 : k = 34
  · subst h1
    go_enter Tryd.func57, Tryd.ntmps57
    go_wp2
    go_ret
    exact ⟨rfl, rfl⟩
  · by_cases h2 : k = 92
    · subst h2
      go_enter Tryd.func57, Tryd.ntmps57
      go_wp2
      go_ret
      exact ⟨rfl, rfl⟩
    · by_cases h3 : k = 110
      · subst h3
        go_enter Tryd.func57, Tryd.ntmps57
        go_wp2
        go_ret
        exact ⟨rfl, rfl⟩
      · by_cases h4 : k = 116
        · subst h4
          go_enter Tryd.func57, Tryd.ntmps57
          go_wp2
          go_ret
          exact ⟨rfl, rfl⟩
        · rw [if_neg (by omega), if_neg h3, if_neg h4]
          have b1 : (k == 34) = false := by simpa using h1
          have b2 : (k == 92) = false := by simpa using h2
          have b3 : (k == 110) = false := by simpa using h3
          have b4 : (k == 116) = false := by simpa using h4
          go_enter Tryd.func57, Tryd.ntmps57
          go_wp2
          go_ret
          exact ⟨rfl, rfl⟩
end Go.Proofs.YtgkjmmfpbcgmgaaDoor
