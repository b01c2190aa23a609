/-
  Files put in the order of their paths.
-/
import Derived.Test.YtolohndbbnbfbaaDoorSnapD
import Derived.Test.YtolohndbbnbfbaaDoorShelfC
namespace Go.Proofs.YtolohndbbnbfbaaDoor
open Go.RowKit Go.Sort Go.Lib

def encF (f : FileB) : List Value := [.string f.1, .string f.2]
def cmpF (f g : FileB) : Int := Lib.compareBytes f.1.data.toList g.1.data.toList
theorem cmpLaysF (blk off size : Nat) (w : World) : CmpLays Tryd.prog 48 #[] encF 2 cmpF blk off size w := fun m os dk _ x y => by
  show Calls Tryd.prog 48 #[fileV x, fileV y] _ _
  refine (newCmp_any x y _).mono fun e w' ⟨he, hw⟩ => ⟨he, 0, #[.cells #[.string x.1, .string x.2] 32, .cells #[.string y.1, .string y.2] 32], ?_⟩
  rw [hw, alloc_eq_grow, alloc_eq_grow, grow_grow]; rfl

theorem u8_lt (x y : UInt8) : x < y ↔ x.toNat < y.toNat := UInt8.lt_iff_toNat_lt
theorem cmp_cons (x y : UInt8) (a b : List UInt8) : Lib.compareBytes (x :: a) (y :: b) = if x.toNat < y.toNat then -1 else if y.toNat < x.toNat then 1 else Lib.compareBytes a b := by
  rw [Lib.compareBytes]; simp only [u8_lt]
theorem cmp_anti (a : List UInt8) : ∀ b, Lib.compareBytes a b = - Lib.compareBytes b a := by
  induction a with
  | nil => intro b; cases b <;> simp [Lib.compareBytes]
  | cons x a ih =>
    intro b
    cases b with
    | nil => simp [Lib.compareBytes]
    | cons y b =>
      rw [cmp_cons, cmp_cons, ih b]
      by_cases h1 : x.toNat < y.toNat
      · rw [if_pos h1, if_neg (by omega), if_pos h1]
      · by_cases h2 : y.toNat < x.toNat
        · rw [if_neg h1, if_pos h2, if_pos h2]; rfl
        · rw [if_neg h1, if_neg h2, if_neg h2, if_neg h1]
theorem cmp_zero (a : List UInt8) : ∀ b, Lib.compareBytes a b = 0 ↔ a = b := by
  induction a with
  | nil => intro b; cases b <;> simp [Lib.compareBytes]
  | cons x a ih =>
    intro b
    cases b with
    | nil => simp [Lib.compareBytes]
    | cons y b =>
      rw [cmp_cons]
      by_cases h1 : x.toNat < y.toNat
      · rw [if_pos h1]
        constructor
        · intro h; cases h
        · intro h; simp at h; rw [h.1] at h1; omega
      · by_cases h2 : y.toNat < x.toNat
        · rw [if_neg h1, if_pos h2]
          constructor
          · intro h; cases h
          · intro h; simp at h; rw [h.1] at h2; omega
        · rw [if_neg h1, if_neg h2, ih b]
          have : x = y := by rw [← UInt8.toNat_inj]; omega
          simp [this]
theorem cmp_le_trans (a : List UInt8) : ∀ b c, Lib.compareBytes a b ≤ 0 → Lib.compareBytes b c ≤ 0 → Lib.compareBytes a c ≤ 0 := by
  induction a with
  | nil => intro b c _ _; cases c <;> simp [Lib.compareBytes]
  | cons x a ih =>
    intro b c h1 h2
    cases b with
    | nil => simp [Lib.compareBytes] at h1
    | cons y b =>
      cases c with
      | nil => simp [Lib.compareBytes] at h2
      | cons z c =>
        rw [cmp_cons] at h1 h2 ⊢
        by_cases hxy : x.toNat < y.toNat
        · by_cases hyz : z.toNat < y.toNat
          · rw [if_neg (by omega), if_pos hyz] at h2; simp at h2
          · rw [if_pos (by omega)]; decide
        · rw [if_neg hxy] at h1
          by_cases hyx : y.toNat < x.toNat
          · rw [if_pos hyx] at h1; simp at h1
          · rw [if_neg hyx] at h1
            by_cases hyz : y.toNat < z.toNat
            · rw [if_pos (by omega)]; decide
            · rw [if_neg hyz] at h2
              by_cases hzy : z.toNat < y.toNat
              · rw [if_pos hzy] at h2; simp at h2
              · rw [if_neg hzy] at h2
                rw [if_neg (by omega), if_neg (by omega)]
                exact ih b c h1 h2
theorem cmp_lt_of_lt_of_le {a b c : List UInt8} (h1 : Lib.compareBytes a b < 0) (h2 : Lib.compareBytes b c ≤ 0) : Lib.compareBytes a c < 0 := by
  have h := cmp_le_trans a b c (by omega) h2
  refine Classical.byContradiction fun hn => ?_
  have h0 : Lib.compareBytes a c = 0 := by omega
  have hac := (cmp_zero a c).1 h0
  subst hac
  have := cmp_anti a b
  omega
theorem cmp_lt_of_le_of_lt {a b c : List UInt8} (h1 : Lib.compareBytes a b ≤ 0) (h2 : Lib.compareBytes b c < 0) : Lib.compareBytes a c < 0 := by
  have h := cmp_le_trans a b c h1 (by omega)
  refine Classical.byContradiction fun hn => ?_
  have h0 : Lib.compareBytes a c = 0 := by omega
  have hac := (cmp_zero a c).1 h0
  subst hac
  have := cmp_anti b a
  omega
theorem ltOf_cmp (x y : FileB) : ltOf cmpF x y = decide (cmpF x y < 0) := by
  unfold ltOf; rfl
theorem swoF : SWO (ltOf cmpF) where
  irrefl x := by
    rw [ltOf_cmp]
    have := (cmp_zero x.1.data.toList x.1.data.toList).2 rfl
    unfold cmpF; rw [this]; rfl
  trans x y z h1 h2 := by
    rw [ltOf_cmp] at *
    simp only [decide_eq_true_eq] at *
    exact cmp_lt_of_lt_of_le h1 (by have := h2; unfold cmpF at this; omega)
  ntrans x y z h1 h2 := by
    rw [ltOf_cmp] at *
    simp only [decide_eq_false_iff_not] at *
    intro h
    have a1 := cmp_anti x.1.data.toList y.1.data.toList
    have a2 := cmp_anti y.1.data.toList z.1.data.toList
    unfold cmpF at *
    have : Lib.compareBytes y.1.data.toList x.1.data.toList ≤ 0 := by omega
    have h3 := cmp_lt_of_le_of_lt this h
    omega
set_option maxHeartbeats 1600000 in
/-- the files of a row, put in the order of their paths -/
theorem sort_any (blk off cap : Nat) (d : Array FileB) (w : World) (hH : HoldsK encF 2 w blk off d) (hblk : blk < w.heap.size) (hsz : d.size < 4611686018427387904) :
    Calls Tryd.prog 47 #[.slice (some ⟨blk, off, none⟩) d.size cap, .func (.func 48) #[] #[]] w fun e w' => e = .returned (.tuple #[]) ∧ ∃ d' n os, PermIn 0 d.size d d' ∧ SortedIn (ltOf cmpF) 0 d.size d' ∧ w' = sortWorldK encF 2 w blk off n d' os := by
  have eg : ∀ args w, (callFunc 48 args).run Tryd.prog w = .ok (.enter 48 args) w := enters_of Tryd.func48 (by kernel_rfl) rfl
  exact AnyQ.slices_SortFunc Tryd.sortFiles 2 Tryd.isAgg32 Tryd.sizeOf32 encF (fun _ => rfl) (fun x v hv => by simp [encF] at hv; rcases hv with rfl | rfl <;> rfl) cmpF swoF 48 #[] blk off cap d w eg (cmpLaysF blk off d.size w) hH hblk hsz
end Go.Proofs.YtolohndbbnbfbaaDoor
